/-
  CheckForks is proved for every input, as a tied card: where two marks are heads of two catalogues that part ahead of both, no catalogue is found good by the two, or two unlike records have one chain; no condition.
-/
import Derived.Test.YtplinkmagnihmaaDoorCkNe
namespace Go.Proofs.YtplinkmagnihmaaDoor.checkForks
open Go.ChangeShapes Go.WideShapes Go.ChangeAt Go.RowKit Go.Deep Go.Lib
theorem take_300(l:List Nat):(l.take 300).length<=100000:=by rw[List.length_take];omega
set_option maxHeartbeats 51200000 in
set_option maxRecDepth 100000 in
theorem walk(ka:Option Addr)(kc:Nat)(key0:List Nat)(ra:Option Addr)(rc:Nat)(a0:List Rec)(rb:Option Addr)(rd:Nat)(b0:List Rec)(rl:Option Addr)(re:Nat)(l0:List Rec)(s0:Int)(ws:(Lit.int .u8 s0).wf=true)(t0:Int)(wt:(Lit.int .u8 t0).wf=true)
 (w:World) (hL:Sh.Laid w) (hk:Sh.Rd w (.slice ka key0.length kc) ka kc key0) (hra:Rr w ra rc a0) (hrb:Rr w rb rd b0) (hrl:Rr w rl re l0) :
 Calls Tryd.prog 7 #[.slice ka key0.length kc,.slice ra a0.length rc,.slice rb b0.length rd,.slice rl l0.length re,.int .u8 s0,.int .u8 t0] w fun e w'=>e= .returned (.bool true)∧Below w.heap.size w w':=by
 have hs0:=wf_u8 ws
 obtain⟨s,rfl⟩:=Int.eq_ofNat_of_zero_le hs0.1
 have hs5:s<=255:=by omega
 have ht0:=wf_u8 wt
 obtain⟨t,rfl⟩:=Int.eq_ofNat_of_zero_le ht0.1
 have ht5:t<=255:=by omega
 have HLA:=hid hL
 have HAW:=hid (awake_word w hL)
 obtain⟨key,hkey⟩:∃key,key=key0.take 300:=⟨_,rfl⟩
 have HKF:Hid (key.length<=100000):=by show _<=_;rw[hkey];exact take_300 key0
 have HKR:Hid (Sh.Rd w (.slice ka key.length kc) ka kc key):=by show Sh.Rd _ _ _ _ _;rw[hkey];exact hk.take 300
 have HCT:=hid (fun V (hV:Below w.heap.size w V)=>ccut_word ka kc key0 V (hk.later hV))
 rw[<-hkey] at HCT
 have HCA:=hid (fun V (hV:Below w.heap.size w V)=>chain_word w ra rc a0 V hV (fun r q=>hra.fits r q) (hra.later hV))
 have HCB:=hid (fun V (hV:Below w.heap.size w V)=>chain_word w rb rd b0 V hV (fun r q=>hrb.fits r q) (hrb.later hV))
 have HFC:=hid (fun V (hV:Below w.heap.size w V)=>first_few rl re l0 V (hrl.later hV))
 have HVC:Hid (∀r∈firL l0,Rv w r∧r.ps.length<=60):=fun r q=>⟨hrl.fits _ (firL_mem q),firL_ok q⟩
 have HNC:=hid (firL_le l0)
 obtain⟨C,hC⟩:∃C,C=firL l0:=⟨_,rfl⟩
 rw[<-hC] at HFC HVC HNC
 obtain⟨kn,hkn⟩:∃k,k=key.length:=⟨_,rfl⟩
 obtain⟨kn0,hkn0⟩:∃k,k=key0.length:=⟨_,rfl⟩
 have HMW:=hid (fun V (z:Int) (x:Hd) (hV:Below w.heap.size w V) (hm:MOk (z,x,z32))=>cmake_word ka kc key z x V (HLA.out.later hV) (HKR.out.later hV) HKF.out hm)
 have HAU:=hid (fun(V:World) (l:List Rec) (a:Option Addr) (c:Nat) (M N:Mrk) (q:Nat) (hV:Below w.heap.size w V) (hrr:Rr V a c l) (hn:∀r∈l,r.ps.length<=60) (hle:l.length<=30) (hM:MOk M) (hN:MOk N) (hb:V.heap[q]?=some (.cells (mkV M++mkV N).toArray 45))=>
  aud_word ka kc key a c l (some ⟨q,0,none⟩) 2 [M,N] V (HLA.out.later hV) (HKR.out.later hV) HKF.out hrr hn hle (Rw.two hM hN hb) (fun m hm=>by
   rcases List.mem_cons.1 hm with rfl | hm
   ·exact hM
   ·rw[List.mem_singleton.1 hm];exact hN) (by simp))
 rw[<-hkn0,<-hkn] at HCT
 rw[<-hkn] at HMW HAU
 rw[<-hkn0]
 generalize a0.length=an0 at *
 generalize b0.length=bn0 at *
 generalize l0.length=ln0 at *
 have HZ27:=hid Tryd.zero27
 have HZ45:=hid Tryd.zero45p
 clear hL hk hra hrb hrl hkey hC hkn hkn0 hs0 ws ht0 wt
 go_enter Tryd.func7,Tryd.ntmps7
 go_wp2_with fail
 refine HAW.out.mono ?_
 rintro _ V1 ⟨rfl,hb1⟩
 have HB1:=hid hb1
 clear hb1 HAW
 go_wp2_with fail
 refine(HCT.out V1 HB1.out).mono ?_
 rintro _ w0 ⟨rfl,hw⟩
 obtain rfl:=hw.symm
 clear hw HCT
 go_wp2_with fail
 refine(HCA.out V1 HB1.out).mono ?_
 rintro _ V2 ⟨aa,ca,A,rfl,hr,hw,hv,hl,_,hb⟩
 have HB2:=hid (Bn HB1.out hb)
 have HRA2:=hid hr
 have HWLA:=hid hw
 have HVA:=hid hv
 have HNA:=hid hl
 clear hr hw hv hl hb HCA
 go_wp2_with fail
 refine(HCB.out V2 HB2.out).mono ?_
 rintro _ V3 ⟨ab,cb,B,rfl,hr,hw,hv,hl,_,hb⟩
 have HB3:=hid (Bn HB2.out hb)
 have HRA3:=hid (HRA2.out.later hb)
 have HRB3:=hid hr
 have HWLB:=hid hw
 have HVB:=hid hv
 have HNB:=hid hl
 clear hr hw hv hl hb HCB HRA2
 go_wp2_with fail
 refine(HFC.out V3 HB3.out).mono ?_
 rintro _ W1 ⟨al,cl,rfl,hr,hb⟩
 have HB4:=hid (Bn HB3.out hb)
 have HRA4:=hid (HRA3.out.later hb)
 have HRB4:=hid (HRB3.out.later hb)
 have HRC4:=hid hr
 clear hr hb HFC HRA3 HRB3 HB1 HB2 HB3
 have hroomA:=HRA4.out.room
 have hroomB:=HRB4.out.room
 have hA30:=HNA.out
 have hB30:=HNB.out
 obtain⟨p,hp⟩:∃p,p=s%(A.length+1):=⟨_,rfl⟩
 obtain⟨q,hq⟩:∃q,q=t%(B.length+1):=⟨_,rfl⟩
 have hmodA:=tmod_nat s A.length
 have hmodB:=tmod_nat t B.length
 rw[<-hp] at hmodA
 rw[<-hq] at hmodB
 have hpA:p<=A.length:=by
  have:=Nat.mod_lt s (show 0<A.length+1 by omega)
  omega
 have hqB:q<=B.length:=by
  have:=Nat.mod_lt t (show 0<B.length+1 by omega)
  omega
 have HPA:=hid (hs_get A hdZ 0 p ((hs_wlk A hdZ 0).1 HWLA.out) hpA).1
 have HQB:=hid (hs_get B hdZ 0 q ((hs_wlk B hdZ 0).1 HWLB.out) hqB).1
 clear hp hq HWLA HWLB
 go_wp2_with fail
 refine wp_region_held_drew (S:=fun X=>Below W1.heap.size W1 X) (by kernel_rfl) (Below.refl _ _).drew (fun hS_v0=>?_)
 have hd_v0:Below W1.heap.size W1 W1.drew:=(Below.refl _ _).drew
 generalize W1.drew=v0 at *
 simp only[List.size_toArray,List.length_cons,List.length_nil,Nat.reduceAdd]
 clear hd_v0
 refine Ord.take (i:=0) (d:=39) (v:=?vP0) rfl rfl (by as_aux_lemma=>kernel_rfl) (by as_aux_lemma=>kernel_rfl) (by as_aux_lemma=>kernel_rfl) (fun _ _ _ h=>h) (by rfl) ?hP0 (by assumption) ?_
 case hP0=>intro wx hSw;go_simp;try with_reducible rfl
 try simp only[List.setIfInBounds_toArray,List.set_cons_zero,List.set_cons_succ]
 refine Ord.take (i:=1) (d:=40) (v:=?vP1) rfl rfl (by as_aux_lemma=>kernel_rfl) (by as_aux_lemma=>kernel_rfl) (by as_aux_lemma=>kernel_rfl) (fun _ _ _ h=>h) (by rfl) ?hP1 (by assumption) ?_
 case hP1=>intro wx hSw;go_simp;try with_reducible rfl
 try simp only[List.setIfInBounds_toArray,List.set_cons_zero,List.set_cons_succ]
 refine Ord.take (i:=2) (d:=41) (v:=?vP2) rfl rfl (by as_aux_lemma=>kernel_rfl) (by as_aux_lemma=>kernel_rfl) (by as_aux_lemma=>kernel_rfl) (fun _ _ _ h=>h) (by rfl) ?hP2 (by assumption) ?_
 case hP2=>intro wx hSw;go_simp;try with_reducible rfl
 try simp only[List.setIfInBounds_toArray,List.set_cons_zero,List.set_cons_succ]
 refine Ord.take (i:=3) (d:=42) (v:=?vP3) rfl rfl (by as_aux_lemma=>kernel_rfl) (by as_aux_lemma=>kernel_rfl) (by as_aux_lemma=>kernel_rfl) (fun _ _ _ h=>h) (by rfl) ?hP3 (by assumption) ?_
 case hP3=>intro wx hSw;go_simp;try with_reducible rfl
 try simp only[List.setIfInBounds_toArray,List.set_cons_zero,List.set_cons_succ]
 refine Ord.take (i:=4) (d:=43) (v:= .int .i64 ((A.length:Int)+1)) rfl rfl (by as_aux_lemma=>kernel_rfl) (by as_aux_lemma=>kernel_rfl) (by as_aux_lemma=>kernel_rfl) (fun _ _ _ h=>h) (by rfl) ?hP4 (by assumption) ?_
 case hP4=>intro wx hSw;go_simp;try first | with_reducible rfl | exact IntWalk.i64_in _ (by omega)
 try simp only[List.setIfInBounds_toArray,List.set_cons_zero,List.set_cons_succ]
 refine Ord.take (i:=5) (d:=44) (v:= .int .i64 (p:Int)) rfl rfl (by as_aux_lemma=>kernel_rfl) (by as_aux_lemma=>kernel_rfl) (by as_aux_lemma=>kernel_rfl) (fun _ _ _ h=>h) (by rfl) ?hP5 (by assumption) ?_
 case hP5=>intro wx hSw;go_simp;try first | with_reducible rfl | rw[if_neg (by omega),show IntKind.i64.wrap (s:Int)=(s:Int) from IntWalk.i64_in _ (by omega),hmodA]
 try simp only[List.setIfInBounds_toArray,List.set_cons_zero,List.set_cons_succ]
 refine Ord.take (i:=6) (d:=45) (v:=?vP6) rfl rfl (by as_aux_lemma=>kernel_rfl) (by as_aux_lemma=>kernel_rfl) (by as_aux_lemma=>kernel_rfl) (fun _ _ _ h=>h) (by rfl) ?hP6 (by assumption) ?_
 case hP6=>intro wx hSw;go_simp;try with_reducible rfl
 try simp only[List.setIfInBounds_toArray,List.set_cons_zero,List.set_cons_succ]
 refine Ord.take (i:=7) (d:=46) (v:=?vP7) rfl rfl (by as_aux_lemma=>kernel_rfl) (by as_aux_lemma=>kernel_rfl) (by as_aux_lemma=>kernel_rfl) (fun _ _ _ h=>h) (by rfl) ?hP7 (by assumption) ?_
 case hP7=>intro wx hSw;go_simp;try with_reducible rfl
 try simp only[List.setIfInBounds_toArray,List.set_cons_zero,List.set_cons_succ]
 refine Ord.take (i:=8) (d:=47) (v:=?vP8) rfl rfl (by as_aux_lemma=>kernel_rfl) (by as_aux_lemma=>kernel_rfl) (by as_aux_lemma=>kernel_rfl) (fun _ _ _ h=>h) (by rfl) ?hP8 (by assumption) ?_
 case hP8=>intro wx hSw;go_simp;try with_reducible rfl
 try simp only[List.setIfInBounds_toArray,List.set_cons_zero,List.set_cons_succ]
 refine Ord.take (i:=9) (d:=48) (v:=?vP9) rfl rfl (by as_aux_lemma=>kernel_rfl) (by as_aux_lemma=>kernel_rfl) (by as_aux_lemma=>kernel_rfl) (fun _ _ _ h=>h) (by rfl) ?hP9 (by assumption) ?_
 case hP9=>intro wx hSw;go_simp;try with_reducible rfl
 try simp only[List.setIfInBounds_toArray,List.set_cons_zero,List.set_cons_succ]
 refine Ord.take (i:=10) (d:=49) (v:= .int .i64 ((B.length:Int)+1)) rfl rfl (by as_aux_lemma=>kernel_rfl) (by as_aux_lemma=>kernel_rfl) (by as_aux_lemma=>kernel_rfl) (fun _ _ _ h=>h) (by rfl) ?hP10 (by assumption) ?_
 case hP10=>intro wx hSw;go_simp;try first | with_reducible rfl | exact IntWalk.i64_in _ (by omega)
 try simp only[List.setIfInBounds_toArray,List.set_cons_zero,List.set_cons_succ]
 refine Ord.take (i:=11) (d:=50) (v:= .int .i64 (q:Int)) rfl rfl (by as_aux_lemma=>kernel_rfl) (by as_aux_lemma=>kernel_rfl) (by as_aux_lemma=>kernel_rfl) (fun _ _ _ h=>h) (by rfl) ?hP11 (by assumption) ?_
 case hP11=>intro wx hSw;go_simp;try first | with_reducible rfl | rw[if_neg (by omega),show IntKind.i64.wrap (t:Int)=(t:Int) from IntWalk.i64_in _ (by omega),hmodB]
 try simp only[List.setIfInBounds_toArray,List.set_cons_zero,List.set_cons_succ]
 refine Ord.take (i:=12) (d:=13) (v:=?vP12) rfl rfl (by as_aux_lemma=>kernel_rfl) (by as_aux_lemma=>kernel_rfl) (by as_aux_lemma=>kernel_rfl) (fun _ _ _ h=>h) (by rfl) ?hP12 (by assumption) ?_
 case hP12=>intro wx hSw;go_simp;try with_reducible rfl
 try simp only[List.setIfInBounds_toArray,List.set_cons_zero,List.set_cons_succ]
 refine Ord.take (i:=13) (d:=14) (v:=?vP13) rfl rfl (by as_aux_lemma=>kernel_rfl) (by as_aux_lemma=>kernel_rfl) (by as_aux_lemma=>kernel_rfl) (fun _ _ _ h=>h) (by rfl) ?hP13 (by assumption) ?_
 case hP13=>intro wx hSw;go_simp;try with_reducible rfl
 try simp only[List.setIfInBounds_toArray,List.set_cons_zero,List.set_cons_succ]
 refine wpAnyH_done (by as_aux_lemma=>kernel_rfl) ?_ _
 have HB5:=hid (Bn HB4.out hS_v0)
 have HRA5:=hid (HRA4.out.later hS_v0)
 have HRB5:=hid (HRB4.out.later hS_v0)
 have HRC5:=hid (HRC4.out.later hS_v0)
 clear hS_v0 hmodA hmodB HB4 HRA4 HRB4 HRC4
 generalize v0=V5 at *
 have hslA:=fun W=>slice_pre aa A.length ca p (Nat.le_trans hpA hroomA) W
 have hslB:=fun W=>slice_pre ab B.length cb q (Nat.le_trans hqB hroomB) W
 have hltA:(A.take p).length=p:=by rw[List.length_take];omega
 have hltB:(B.take q).length=q:=by rw[List.length_take];omega
 have HWA:=hid (fun V (hV:Below V5.heap.size V5 V)=>(show Calls Tryd.prog 22 #[.agg #[.int .i64 0,.int .i64 0,.int .u8 0,.int .u8 0,.int .u8 0,.int .u8 0,.int .u8 0,.int .u8 0,.int .u8 0,.int .u8 0,.int .u8 0,.int .u8 0,.int .u8 0,.int .u8 0,.int .u8 0,.int .u8 0,.int .u8 0,.int .u8 0,.int .u8 0,.int .u8 0,.int .u8 0,.int .u8 0,.int .u8 0,.int .u8 0,.int .u8 0,.int .u8 0,.int .u8 0,.int .u8 0,.int .u8 0,.int .u8 0,.int .u8 0,.int .u8 0,.int .u8 0,.int .u8 0],.slice aa p ca] V (fun e w'=>e= .returned (.tuple #[.agg (hdV (wlk hdZ (A.take p) 0).1).toArray,.int .i64 ((wlk hdZ (A.take p) 0).2.1:Int),.int .i64 (wlk hdZ (A.take p) 0).2.2])∧Below V.heap.size V w') from by
  have:=dwalk_word hdZ aa ca (A.take p) V rfl ((HRA5.out.later hV).pre hpA) (fun r q=>Nat.le_trans (HVA.out r (List.mem_of_mem_take q)).2 (by decide))
  rw[hltA] at this
  exact this))
 have HWB:=hid (fun V (hV:Below V5.heap.size V5 V)=>(show Calls Tryd.prog 22 #[.agg #[.int .i64 0,.int .i64 0,.int .u8 0,.int .u8 0,.int .u8 0,.int .u8 0,.int .u8 0,.int .u8 0,.int .u8 0,.int .u8 0,.int .u8 0,.int .u8 0,.int .u8 0,.int .u8 0,.int .u8 0,.int .u8 0,.int .u8 0,.int .u8 0,.int .u8 0,.int .u8 0,.int .u8 0,.int .u8 0,.int .u8 0,.int .u8 0,.int .u8 0,.int .u8 0,.int .u8 0,.int .u8 0,.int .u8 0,.int .u8 0,.int .u8 0,.int .u8 0,.int .u8 0,.int .u8 0],.slice ab q cb] V (fun e w'=>e= .returned (.tuple #[.agg (hdV (wlk hdZ (B.take q) 0).1).toArray,.int .i64 ((wlk hdZ (B.take q) 0).2.1:Int),.int .i64 (wlk hdZ (B.take q) 0).2.2])∧Below V.heap.size V w') from by
  have:=dwalk_word hdZ ab cb (B.take q) V rfl ((HRB5.out.later hV).pre hqB) (fun r q=>Nat.le_trans (HVB.out r (List.mem_of_mem_take q)).2 (by decide))
  rw[hltB] at this
  exact this))
 have HCLA:=hid (fun V (L:List Rec) (a:Option Addr) (c:Nat) (hV:Below V5.heap.size V5 V) (hr:Rr V a c L) (hn:∀r∈L,r.ps.length<=60)=>(show Calls Tryd.prog 25 #[.slice a L.length c,.slice aa p ca] V (fun e w'=>e= .returned (.bool (colB L (A.take p)))∧Below V.heap.size V w') from by
  have:=col_word a c L aa ca (A.take p) V hr ((HRA5.out.later hV).pre hpA) (fun r q=>Nat.le_trans (hn r q) (by decide)) (fun r q=>Nat.le_trans (HVA.out r (List.mem_of_mem_take q)).2 (by decide))
  rw[hltA] at this
  exact this))
 have HCLB:=hid (fun V (L:List Rec) (a:Option Addr) (c:Nat) (hV:Below V5.heap.size V5 V) (hr:Rr V a c L) (hn:∀r∈L,r.ps.length<=60)=>(show Calls Tryd.prog 25 #[.slice a L.length c,.slice ab q cb] V (fun e w'=>e= .returned (.bool (colB L (B.take q)))∧Below V.heap.size V w') from by
  have:=col_word a c L ab cb (B.take q) V hr ((HRB5.out.later hV).pre hqB) (fun r q=>Nat.le_trans (hn r q) (by decide)) (fun r q=>Nat.le_trans (HVB.out r (List.mem_of_mem_take q)).2 (by decide))
  rw[hltB] at this
  exact this))
 have hmA:=head_may (0:Int) (.inl rfl) (A.take p) (fun r q=>(HVA.out r (List.mem_of_mem_take q)).1)
 have hmB:=head_may (1:Int) (.inr rfl) (B.take q) (fun r q=>(HVB.out r (List.mem_of_mem_take q)).1)
 obtain⟨x,hx⟩:∃x,x=(wlk hdZ (A.take p) 0).1:=⟨_,rfl⟩
 obtain⟨y,hy⟩:∃x,x=(wlk hdZ (B.take q) 0).1:=⟨_,rfl⟩
 obtain⟨u1,hu1⟩:∃x,x=(wlk hdZ (A.take p) 0).2.1:=⟨_,rfl⟩
 obtain⟨u2,hu2⟩:∃x,x=(wlk hdZ (A.take p) 0).2.2:=⟨_,rfl⟩
 obtain⟨u3,hu3⟩:∃x,x=(wlk hdZ (B.take q) 0).2.1:=⟨_,rfl⟩
 obtain⟨u4,hu4⟩:∃x,x=(wlk hdZ (B.take q) 0).2.2:=⟨_,rfl⟩
 rw[<-hx,<-hu1,<-hu2] at HWA
 rw[<-hy,<-hu3,<-hu4] at HWB
 rw[<-hx] at hmA
 rw[<-hy] at hmB
 have HMKA:=hid hmA.1
 have HMYA:=hid hmA.2
 have HMKB:=hid hmB.1
 have HMYB:=hid hmB.2
 have HXL:=hid (hdV_len hmA.1.hd.len)
 have HYL:=hid (hdV_len hmB.1.hd.len)
 have HMOA:Hid (MOk (mkM key 0 x)):=mkM_ok hmA.1 hmA.2
 have HMOB:Hid (MOk (mkM key 1 y)):=mkM_ok hmB.1 hmB.2
 have HMHA:Hid ((mkM key 0 x).2.1=(wlk hdZ (A.take p) 0).1):=by show _=_;rw[mkM_is hmA.2,<-hx]
 have HMHB:Hid ((mkM key 1 y).2.1=(wlk hdZ (B.take q) 0).1):=by show _=_;rw[mkM_is hmB.2,<-hy]
 obtain⟨M,hM⟩:∃M,M=mkM key 0 x:=⟨_,rfl⟩
 obtain⟨N,hN⟩:∃M,M=mkM key 1 y:=⟨_,rfl⟩
 have HMQ:=hid hM
 have HNQ:=hid hN
 rw[<-hM] at HMOA HMHA
 rw[<-hN] at HMOB HMHB
 have HMLA:=hid (mkV_len HMOA.out)
 have HMLB:=hid (mkV_len HMOB.out)
 have he0:e160 true=0:=rfl
 have HBAD:=hid (fun(L:List Rec) (hv:∀r∈L,Rv w r∧r.ps.length<=60) (hg:∀z,z=M∨z=N->dhasB L z.2.1=true) (h1:colB L (A.take p)=false) (h2:colB L (B.take q)=false)=>
  forks_bad (m:=M) (v:=N) hpA hqB HPA.out HQB.out HMHA.out HMHB.out (fun r q=>(HVA.out r q).1.psOk) (fun r q=>(HVB.out r q).1.psOk) (fun r q=>(hv r q).1.psOk) hg h1 h2)
 clear hmA hmB hx hy hM hN hu1 hu2 hu3 hu4 hltA hltB HMHA HMHB HPA HQB
 go_wp2_with fail
 refine(HWA.out V5 (Below.refl _ _)).mono ?_
 rintro _ V6 ⟨rfl,hb6⟩
 have HD6:=hid hb6
 clear hb6 HWA
 obtain⟨gx,hgx⟩:∃g,g=V6.heap.size:=⟨_,rfl⟩
 have HQgx:=hid hgx
 clear hgx
 go_wp2_with (first | refine wpList_alloc_W rfl 27 rfl (some 15) rfl _ HZ27.out gx HQgx.out ?_ | fail)
 intro V7 HA HBl HS
 go_wp2_with (first | refine wpList_store_W rfl 27 _ _ rfl rfl gx (hdV x).toArray rfl rfl 27 _ HA.out (by rw[List.size_toArray,HXL.out];exact Tryd.size27h) (by simp only[List.size_toArray,HXL.out];rfl) (all_oneCell_toArray (show ∀u∈hdV x,u.oneCell'=true from hdL_one _ _ _)) ?_ | fail)
 intro V8 HXgx HGR HS2
 have HUV8:Hid (Below V6.heap.size V6 V8):=by
  show Below _ _ _
  rw[<-HQgx.out]
  exact HBl.out.trans (bel_grown HGR.out (Nat.le_refl _) (by rw[HQgx.out];exact HBl.out.size))
 clear HA HBl HS HGR HS2 HQgx
 have HD8:=hid (Bn HD6.out HUV8.out)
 clear HUV8 HD6
 go_wp2_with fail
 refine(HWB.out V8 HD8.out).mono ?_
 rintro _ V9 ⟨rfl,hb9⟩
 have HD9:=hid (Bn HD8.out hb9)
 have HXgx9:=hid (blk_later HXgx.out hb9)
 clear hb9 HWB HXgx HD8
 obtain⟨gy,hgy⟩:∃g,g=V9.heap.size:=⟨_,rfl⟩
 have HQgy:=hid hgy
 clear hgy
 go_wp2_with (first | refine wpList_alloc_W rfl 27 rfl (some 18) rfl _ HZ27.out gy HQgy.out ?_ | fail)
 intro V10 HA HBl HS
 go_wp2_with (first | refine wpList_store_W rfl 27 _ _ rfl rfl gy (hdV y).toArray rfl rfl 27 _ HA.out (by rw[List.size_toArray,HYL.out];exact Tryd.size27h) (by simp only[List.size_toArray,HYL.out];rfl) (all_oneCell_toArray (show ∀u∈hdV y,u.oneCell'=true from hdL_one _ _ _)) ?_ | fail)
 intro V11 HXgy HGR HS2
 have HUV11:Hid (Below V9.heap.size V9 V11):=by
  show Below _ _ _
  rw[<-HQgy.out]
  exact HBl.out.trans (bel_grown HGR.out (Nat.le_refl _) (by rw[HQgy.out];exact HBl.out.size))
 clear HA HBl HS HGR HS2 HQgy
 have HD11:=hid (Bn HD9.out HUV11.out)
 have HXgx11:=hid (blk_later HXgx9.out HUV11.out)
 clear HUV11 HXgx9 HD9 hslB hslA
 have hslA:=fun W=>slice_pre aa A.length ca p (Nat.le_trans hpA hroomA) W
 have hslB:=fun W=>slice_pre ab B.length cb q (Nat.le_trans hqB hroomB) W
 obtain⟨m,hm⟩:∃m,m=min p q:=⟨_,rfl⟩
 have hmp:m<=p:=by omega
 have hmq:m<=q:=by omega
 have hmz:min (p:Int) (q:Int)=(m:Int):=by omega
 have HBAD2:=HBAD
 rw[<-hm] at HBAD2
 clear HBAD hm
 go_wp2
 go_loopw [21,22] (fun x21 x22 wr=>∃k:Nat,k<=m∧x22= .int .i64 (k:Int)∧x21= .bool (sameN A B k)∧Hid (Below V11.heap.size V11 wr)) (fun _ x22 _=>m-(RowKit.intOf x22).toNat)
 case atStart=>exact⟨0,by omega,rfl,rfl,Below.refl _ _⟩
 case round=>
  obtain⟨k,hk,rfl,rfl,HB⟩:=hrel
  by_cases hlt:k<m
  ·have hkz:(k:Int)<(m:Int):=by omega
   have hkA:k<A.length:=by omega
   have hkB:k<B.length:=by omega
   have hkzA:(k:Int)<(A.length:Int):=by omega
   have hkzB:(k:Int)<(B.length:Int):=by omega
   have HST:Hid (sameN A B (k+1)=(sameN A B k&&sameB (A.getD k recZ) (B.getD k recZ))):=rfl
   have HDW:=hid (Bn HD11.out HB.out)
   have hraw:=HRA5.out.later HDW.out
   have hrbw:=HRB5.out.later HDW.out
   obtain⟨b1,o1,rfl,hbw1,hcc1⟩:=hraw.cells (by omega)
   obtain⟨b2,o2,rfl,hbw2,hcc2⟩:=hrbw.cells (by omega)
   have hx1:=hcc1 k hkA
   have hx2:=hcc2 k hkB
   have hv1:=hraw.get hkA
   have hv2:=hrbw.get hkB
   generalize A.getD k recZ=xx at *
   generalize B.getD k recZ=yy at *
   have HXXL:=hid (Rec.cs_len hv1.len)
   have HYYL:=hid (Rec.cs_len hv2.len)
   have HXXR:=hid (fun X (hX:Below wr.heap.size wr X)=>range_later hx1 hX hbw1)
   have HYYR:=hid (fun X (hX:Below wr.heap.size wr X)=>range_later hx2 hX hbw2)
   have HSM:=hid (fun X (hX:Below wr.heap.size wr X)=>dsame_word xx yy X (hv1.later hX) (hv2.later hX))
   clear hx1 hx2 hv1 hv2 hcc1 hcc2 hbw1 hbw2 hraw hrbw HDW
   generalize hsn:sameN A B k=sn at *
   cases sn
   ·have HST2:Hid (sameN A B (k+1)=false):=HST.out
    clear HST HSM
    go_wp2_with fail
    refine wp_region_held_drew (S:=fun X=>Below wr.heap.size wr X) (by kernel_rfl) (Below.refl _ _).drew (fun hS_v0=>?_)
    have hd_v0:Below wr.heap.size wr wr.drew:=(Below.refl _ _).drew
    generalize wr.drew=v0 at *
    simp only[List.size_toArray,List.length_cons,List.length_nil,Nat.reduceAdd]
    clear hd_v0
    refine Ord.take (i:=0) (d:=76) (v:= .bool false) rfl rfl (by as_aux_lemma=>kernel_rfl) (by as_aux_lemma=>kernel_rfl) (by as_aux_lemma=>kernel_rfl) (fun _ _ _ h=>h) (by rfl) ?hF0 (by assumption) ?_
    case hF0=>intro wx hSw;go_simp;try with_reducible rfl
    try simp only[List.setIfInBounds_toArray,List.set_cons_zero,List.set_cons_succ]
    refine Ord.take (i:=1) (d:=77) (v:= .bool false) rfl rfl (by as_aux_lemma=>kernel_rfl) (by as_aux_lemma=>kernel_rfl) (by as_aux_lemma=>kernel_rfl) (fun _ _ _ h=>h) (by rfl) ?hF1 (by assumption) ?_
    case hF1=>intro wx hSw;go_simp;try with_reducible rfl
    try simp only[List.setIfInBounds_toArray,List.set_cons_zero,List.set_cons_succ]
    refine Ord.skip (i:=2) (d:=78) rfl rfl (by as_aux_lemma=>kernel_rfl) (by as_aux_lemma=>kernel_rfl) (by as_aux_lemma=>kernel_rfl) (fun _ _ _ h=>h) (by rfl) (by assumption) ?_
    simp only[List.setIfInBounds_toArray,List.set_cons_zero,List.set_cons_succ]
    refine Ord.skip (i:=3) (d:=79) rfl rfl (by as_aux_lemma=>kernel_rfl) (by as_aux_lemma=>kernel_rfl) (by as_aux_lemma=>kernel_rfl) (fun _ _ _ h=>h) (by rfl) (by assumption) ?_
    simp only[List.setIfInBounds_toArray,List.set_cons_zero,List.set_cons_succ]
    refine Ord.skip (i:=4) (d:=80) rfl rfl (by as_aux_lemma=>kernel_rfl) (by as_aux_lemma=>kernel_rfl) (by as_aux_lemma=>kernel_rfl) (fun _ _ _ h=>h) (by rfl) (by assumption) ?_
    simp only[List.setIfInBounds_toArray,List.set_cons_zero,List.set_cons_succ]
    refine Ord.skip (i:=5) (d:=81) rfl rfl (by as_aux_lemma=>kernel_rfl) (by as_aux_lemma=>kernel_rfl) (by as_aux_lemma=>kernel_rfl) (fun _ _ _ h=>h) (by rfl) (by assumption) ?_
    simp only[List.setIfInBounds_toArray,List.set_cons_zero,List.set_cons_succ]
    refine Ord.skip (i:=6) (d:=82) rfl rfl (by as_aux_lemma=>kernel_rfl) (by as_aux_lemma=>kernel_rfl) (by as_aux_lemma=>kernel_rfl) (fun _ _ _ h=>h) (by rfl) (by assumption) ?_
    simp only[List.setIfInBounds_toArray,List.set_cons_zero,List.set_cons_succ]
    refine Ord.skip (i:=7) (d:=83) rfl rfl (by as_aux_lemma=>kernel_rfl) (by as_aux_lemma=>kernel_rfl) (by as_aux_lemma=>kernel_rfl) (fun _ _ _ h=>h) (by rfl) (by assumption) ?_
    simp only[List.setIfInBounds_toArray,List.set_cons_zero,List.set_cons_succ]
    refine Ord.skip (i:=8) (d:=84) rfl rfl (by as_aux_lemma=>kernel_rfl) (by as_aux_lemma=>kernel_rfl) (by as_aux_lemma=>kernel_rfl) (fun _ _ _ h=>h) (by rfl) (by assumption) ?_
    simp only[List.setIfInBounds_toArray,List.set_cons_zero,List.set_cons_succ]
    refine Ord.skip (i:=9) (d:=85) rfl rfl (by as_aux_lemma=>kernel_rfl) (by as_aux_lemma=>kernel_rfl) (by as_aux_lemma=>kernel_rfl) (fun _ _ _ h=>h) (by rfl) (by assumption) ?_
    simp only[List.setIfInBounds_toArray,List.set_cons_zero,List.set_cons_succ]
    refine Ord.skip (i:=10) (d:=86) rfl rfl (by as_aux_lemma=>kernel_rfl) (by as_aux_lemma=>kernel_rfl) (by as_aux_lemma=>kernel_rfl) (fun _ _ _ h=>h) (by rfl) (by assumption) ?_
    simp only[List.setIfInBounds_toArray,List.set_cons_zero,List.set_cons_succ]
    refine Ord.take (i:=11) (d:=87) (v:= .bool false) rfl rfl (by as_aux_lemma=>kernel_rfl) (by as_aux_lemma=>kernel_rfl) (by as_aux_lemma=>kernel_rfl) (fun _ _ _ h=>h) (by rfl) ?hF11 (by assumption) ?_
    case hF11=>intro wx hSw;go_simp;try with_reducible rfl
    try simp only[List.setIfInBounds_toArray,List.set_cons_zero,List.set_cons_succ]
    refine Ord.take (i:=12) (d:=21) (v:=?vF12) rfl rfl (by as_aux_lemma=>kernel_rfl) (by as_aux_lemma=>kernel_rfl) (by as_aux_lemma=>kernel_rfl) (fun _ _ _ h=>h) (by rfl) ?hF12 (by assumption) ?_
    case hF12=>intro wx hSw;go_simp;try with_reducible rfl
    try simp only[List.setIfInBounds_toArray,List.set_cons_zero,List.set_cons_succ]
    refine wpAnyH_done (by as_aux_lemma=>kernel_rfl) ?_ _
    have HS9:=hid (Bn HB.out hS_v0)
    clear hS_v0
    go_wp2
    go_round
    case rel=>exact⟨k+1,by omega,by go_num,by rw[HST2.out],HS9.out⟩
    case measure=>first | (simp[RowKit.intOf];done) | (simp[RowKit.intOf];omega)
   ·generalize sameB xx yy=sb at *
    have HST2:Hid (sameN A B (k+1)=sb):=by show _=_;rw[HST.out];simp
    clear HST
    go_wp2_with fail
    refine wp_region_held_drew (S:=fun X=>Below wr.heap.size wr X) (by kernel_rfl) (Below.refl _ _).drew (fun hS_v0=>?_)
    have hd_v0:Below wr.heap.size wr wr.drew:=(Below.refl _ _).drew
    generalize wr.drew=v0 at *
    simp only[List.size_toArray,List.length_cons,List.length_nil,Nat.reduceAdd]
    clear hd_v0
    refine Ord.take (i:=0) (d:=76) (v:= .bool true) rfl rfl (by as_aux_lemma=>kernel_rfl) (by as_aux_lemma=>kernel_rfl) (by as_aux_lemma=>kernel_rfl) (fun _ _ _ h=>h) (by rfl) ?hT0 (by assumption) ?_
    case hT0=>intro wx hSw;go_simp;try with_reducible rfl
    try simp only[List.setIfInBounds_toArray,List.set_cons_zero,List.set_cons_succ]
    refine Ord.take (i:=1) (d:=77) (v:= .bool true) rfl rfl (by as_aux_lemma=>kernel_rfl) (by as_aux_lemma=>kernel_rfl) (by as_aux_lemma=>kernel_rfl) (fun _ _ _ h=>h) (by rfl) ?hT1 (by assumption) ?_
    case hT1=>intro wx hSw;go_simp;try with_reducible rfl
    try simp only[List.setIfInBounds_toArray,List.set_cons_zero,List.set_cons_succ]
    refine Ord.take (i:=2) (d:=78) (v:=?vT2) rfl rfl (by as_aux_lemma=>kernel_rfl) (by as_aux_lemma=>kernel_rfl) (by as_aux_lemma=>kernel_rfl) (fun _ _ _ h=>h) (by rfl) ?hT2 (by assumption) ?_
    case hT2=>intro wx hSw;go_simp;try with_reducible rfl
    try simp only[List.setIfInBounds_toArray,List.set_cons_zero,List.set_cons_succ]
    refine Ord.take (i:=3) (d:=79) (v:=?vT3) rfl rfl (by as_aux_lemma=>kernel_rfl) (by as_aux_lemma=>kernel_rfl) (by as_aux_lemma=>kernel_rfl) (fun _ _ _ h=>h) (by rfl) ?hT3 (by assumption) ?_
    case hT3=>intro wx hSw;go_simp;try with_reducible rfl
    try simp only[List.setIfInBounds_toArray,List.set_cons_zero,List.set_cons_succ]
    refine Ord.take (i:=4) (d:=80) (v:=?vT4) rfl rfl (by as_aux_lemma=>kernel_rfl) (by as_aux_lemma=>kernel_rfl) (by as_aux_lemma=>kernel_rfl) (fun _ _ _ h=>h) (by rfl) ?hT4 (by assumption) ?_
    case hT4=>intro wx hSw;go_simp;try with_reducible rfl
    try simp only[List.setIfInBounds_toArray,List.set_cons_zero,List.set_cons_succ]
    refine Ord.take (i:=5) (d:=81) (v:= .agg xx.cs.toArray) rfl rfl (by as_aux_lemma=>kernel_rfl) (by as_aux_lemma=>kernel_rfl) (by as_aux_lemma=>kernel_rfl) (fun _ _ _ h=>h) (by rfl) ?hT5 (by assumption) ?_
    case hT5=>intro wx hSw;exact exec_load 58 (.tmp 80) rfl b1 (o1+k*38) rfl (run_loadVar_mid wx b1 (o1+k*38) 58 xx.cs _ (HXXR.out _ hSw) Tryd.underlying58 rfl (by rw[HXXL.out];exact Tryd.size58))
    try simp only[List.setIfInBounds_toArray,List.set_cons_zero,List.set_cons_succ]
    refine Ord.take (i:=6) (d:=82) (v:=?vT6) rfl rfl (by as_aux_lemma=>kernel_rfl) (by as_aux_lemma=>kernel_rfl) (by as_aux_lemma=>kernel_rfl) (fun _ _ _ h=>h) (by rfl) ?hT6 (by assumption) ?_
    case hT6=>intro wx hSw;go_simp;try with_reducible rfl
    try simp only[List.setIfInBounds_toArray,List.set_cons_zero,List.set_cons_succ]
    refine Ord.take (i:=7) (d:=83) (v:=?vT7) rfl rfl (by as_aux_lemma=>kernel_rfl) (by as_aux_lemma=>kernel_rfl) (by as_aux_lemma=>kernel_rfl) (fun _ _ _ h=>h) (by rfl) ?hT7 (by assumption) ?_
    case hT7=>intro wx hSw;go_simp;try with_reducible rfl
    try simp only[List.setIfInBounds_toArray,List.set_cons_zero,List.set_cons_succ]
    refine Ord.take (i:=8) (d:=84) (v:=?vT8) rfl rfl (by as_aux_lemma=>kernel_rfl) (by as_aux_lemma=>kernel_rfl) (by as_aux_lemma=>kernel_rfl) (fun _ _ _ h=>h) (by rfl) ?hT8 (by assumption) ?_
    case hT8=>intro wx hSw;go_simp;try with_reducible rfl
    try simp only[List.setIfInBounds_toArray,List.set_cons_zero,List.set_cons_succ]
    refine Ord.take (i:=9) (d:=85) (v:= .agg yy.cs.toArray) rfl rfl (by as_aux_lemma=>kernel_rfl) (by as_aux_lemma=>kernel_rfl) (by as_aux_lemma=>kernel_rfl) (fun _ _ _ h=>h) (by rfl) ?hT9 (by assumption) ?_
    case hT9=>intro wx hSw;exact exec_load 58 (.tmp 84) rfl b2 (o2+k*38) rfl (run_loadVar_mid wx b2 (o2+k*38) 58 yy.cs _ (HYYR.out _ hSw) Tryd.underlying58 rfl (by rw[HYYL.out];exact Tryd.size58))
    try simp only[List.setIfInBounds_toArray,List.set_cons_zero,List.set_cons_succ]
    refine wpAnyH_ready (rs:= [10]) (by as_aux_lemma=>kernel_rfl) (by simp) (AllReadyH.cons rfl (fun K hK=>?_) AllReadyH.nil)
    go_simp
    go_simp
    refine(HSM.out v0 hS_v0).mono ?_
    rintro _ v1 ⟨rfl,hb_v1⟩
    have hS_v1:Below wr.heap.size wr v1:=Bn hS_v0 hb_v1
    clear hb_v1
    refine hK.out _ _ hS_v1 (fun _=>?_)
    clear hK K
    try simp only[List.setIfInBounds_toArray,List.set_cons_zero,List.set_cons_succ]
    try simp only[List.setIfInBounds_toArray,List.set_cons_zero,List.set_cons_succ]
    refine Ord.take (i:=11) (d:=87) (v:= .bool sb) rfl rfl (by as_aux_lemma=>kernel_rfl) (by as_aux_lemma=>kernel_rfl) (by as_aux_lemma=>kernel_rfl) (fun _ _ _ h=>h) (by rfl) ?hT11 (by assumption) ?_
    case hT11=>intro wx hSw;go_simp;try with_reducible rfl
    try simp only[List.setIfInBounds_toArray,List.set_cons_zero,List.set_cons_succ]
    refine Ord.take (i:=12) (d:=21) (v:=?vT12) rfl rfl (by as_aux_lemma=>kernel_rfl) (by as_aux_lemma=>kernel_rfl) (by as_aux_lemma=>kernel_rfl) (fun _ _ _ h=>h) (by rfl) ?hT12 (by assumption) ?_
    case hT12=>intro wx hSw;go_simp;try with_reducible rfl
    try simp only[List.setIfInBounds_toArray,List.set_cons_zero,List.set_cons_succ]
    refine wpAnyH_done (by as_aux_lemma=>kernel_rfl) ?_ _
    have HS9:=hid (Bn HB.out hS_v1)
    clear hS_v0 hS_v1
    go_wp2
    go_round
    case rel=>exact⟨k+1,by omega,by go_num,by rw[HST2.out],HS9.out⟩
    case measure=>first | (simp[RowKit.intOf];done) | (simp[RowKit.intOf];omega)
  ·have hkm:k=m:=by omega
   subst hkm
   have hkz:¬(k:Int)<(k:Int):=by omega
   have HX12:=hid (blk_range (blk_later HXgx11.out HB.out))
   have HXY:=hid (blk_later HXgy.out HB.out)
   have HD12:=hid (Bn HD11.out HB.out)
   have HBW12:=hid (Bn HB5.out HD12.out)
   clear HB HXgx11 HXgy HD11
   go_wp2_with (first | refine wpList_load_P rfl 27 _ rfl gx 0 rfl (hdV x) _ HX12.out Tryd.underlying27 rfl (by rw[HXL.out];exact Tryd.size27h) ?_ | fail)
   refine(HMW.out wr 0 x HBW12.out HMKA.out).mono ?_
   rintro _ V13 ⟨rfl,hb13⟩
   rw[HMYA.out,he0,<-HMQ.out]
   have HD13:=hid (Bn HD12.out hb13)
   have HY13:=hid (blk_later HXY.out hb13)
   clear hb13 HX12 HXY HBW12 HD12
   obtain⟨gm,hgm⟩:∃g,g=V13.heap.size:=⟨_,rfl⟩
   have HQgm:=hid hgm
   clear hgm
   go_wp2_with (first | refine wpList_alloc_W rfl 45 rfl (some 23) rfl _ HZ45.out gm HQgm.out ?_ | fail)
   intro V14 HA HBl HS
   go_wp2_with (first | refine wpList_store_W rfl 45 _ _ rfl rfl gm (mkV M).toArray rfl rfl 45 _ HA.out (by rw[List.size_toArray,HMLA.out];exact Tryd.size45) (by rw[List.size_toArray,List.size_toArray,HMLA.out,mkV_len mkZ_ok]) (all_oneCell_toArray (mkV_one _)) ?_ | fail)
   intro V15 HXgm HGR HS2
   have HUV15:Hid (Below V13.heap.size V13 V15):=by
    show Below _ _ _
    rw[<-HQgm.out]
    exact HBl.out.trans (bel_grown HGR.out (Nat.le_refl _) (by rw[HQgm.out];exact HBl.out.size))
   clear HA HBl HS HGR HS2 HQgm
   have HD15:=hid (Bn HD13.out HUV15.out)
   have HY15:=hid (blk_range (blk_later HY13.out HUV15.out))
   have HBW15:=hid (Bn HB5.out HD15.out)
   clear HUV15 HD13 HY13
   go_wp2_with (first | refine wpList_load_P rfl 27 _ rfl gy 0 rfl (hdV y) _ HY15.out Tryd.underlying27 rfl (by rw[HYL.out];exact Tryd.size27h) ?_ | fail)
   refine(HMW.out V15 1 y HBW15.out HMKB.out).mono ?_
   rintro _ V16 ⟨rfl,hb16⟩
   rw[HMYB.out,he0,<-HNQ.out]
   have HD16:=hid (Bn HD15.out hb16)
   have HM16:=hid (blk_later HXgm.out hb16)
   clear hb16 HY15 HBW15 HD15 HXgm
   obtain⟨gn,hgn⟩:∃g,g=V16.heap.size:=⟨_,rfl⟩
   have HQgn:=hid hgn
   clear hgn
   go_wp2_with (first | refine wpList_alloc_W rfl 45 rfl (some 25) rfl _ HZ45.out gn HQgn.out ?_ | fail)
   intro V17 HA HBl HS
   go_wp2_with (first | refine wpList_store_W rfl 45 _ _ rfl rfl gn (mkV N).toArray rfl rfl 45 _ HA.out (by rw[List.size_toArray,HMLB.out];exact Tryd.size45) (by rw[List.size_toArray,List.size_toArray,HMLB.out,mkV_len mkZ_ok]) (all_oneCell_toArray (mkV_one _)) ?_ | fail)
   intro V18 HXgn HGR HS2
   have HUV18:Hid (Below V16.heap.size V16 V18):=by
    show Below _ _ _
    rw[<-HQgn.out]
    exact HBl.out.trans (bel_grown HGR.out (Nat.le_refl _) (by rw[HQgn.out];exact HBl.out.size))
   clear HA HBl HS HGR HS2 HQgn
   have HD18:=hid (Bn HD16.out HUV18.out)
   have HM18:=hid (blk_later HM16.out HUV18.out)
   clear HUV18 HD16 HM16
   generalize hsn:sameN A B k=sn at *
   cases sn
   ·have hE:∀L:List Rec,(∀r∈L,Rv w r∧r.ps.length<=60)->(∀z,z=M∨z=N->dhasB L z.2.1=true)->colB L (A.take p)=false->colB L (B.take q)=true:=fun L h1 h2 h3=>by
     cases h4:colB L (B.take q) with
     | true=>rfl
     | false=>
       have:=HBAD2.out L h1 h2 h3 h4
       first
        | cases this
        | (rw[hsn] at this;cases this)
    have HE:=hid hE
    clear hE HBAD2 hsn
    go_wp2
    have hbA:=bel_alc V18 (.cells #[.slice al C.length cl,.slice aa A.length ca,.slice ab B.length cb] 23)
    have hgA:=heap_alc V18 (.cells #[.slice al C.length cl,.slice aa A.length ca,.slice ab B.length cb] 23)
    generalize V18.alloc (.cells #[.slice al C.length cl,.slice aa A.length ca,.slice ab B.length cb] 23)=V19 at *
    have HD19:=hid (Bn HD18.out hbA)
    have HM19:=hid (blk_later HM18.out hbA)
    have HN19:=hid (blk_later HXgn.out hbA)
    have HG19:=hid hgA
    clear hbA hgA HD18 HM18 HXgn
    generalize V18.heap.size=gl at *
    go_loopw [112] (fun x112 wr=>∃k2:Nat,k2<=3∧x112= .int .i64 (k2:Int)∧Hid (Below V19.heap.size V19 wr)) (fun x112 _=>3-(RowKit.intOf x112).toNat)
    case atStart=>exact⟨0,by omega,rfl,Below.refl _ _⟩
    case round=>
     obtain⟨k2,hk2,rfl,HB2⟩:=hrel
     by_cases hlt2:k2<3
     ·have hkz2:(k2:Int)<3:=by omega
      have HDW:=hid (Bn HD19.out HB2.out)
      have hcl:=blk_later HG19.out HB2.out
      obtain⟨ac,cc,L,hcell,hrr,hvv,hll⟩:∃(ac:Option Addr) (cc:Nat) (L:List Rec),wr.cell? ⟨gl,k2,none⟩=some (.slice ac L.length cc)∧Rr wr ac cc L∧(∀r∈L,Rv w r∧r.ps.length<=60)∧L.length<=30:=by
       rcases (show k2=0∨k2=1∨k2=2 by omega) with rfl | rfl | rfl
       ·exact⟨al,cl,C,(Joins.cell_of_block hcl 0).trans rfl,HRC5.out.later HDW.out,HVC.out,HNC.out⟩
       ·exact⟨aa,ca,A,(Joins.cell_of_block hcl 1).trans rfl,HRA5.out.later HDW.out,HVA.out,HNA.out⟩
       ·exact⟨ab,cb,B,(Joins.cell_of_block hcl 2).trans rfl,HRB5.out.later HDW.out,HVB.out,HNB.out⟩
      have HRL:=hid hrr
      have HVL:=hid hvv
      have HNL:=hid hll
      have HMr:=hid (blk_range (blk_later HM19.out HB2.out))
      have HNr:=hid (blk_range (blk_later HN19.out HB2.out))
      obtain⟨q1,hq1⟩:∃g,g=wr.heap.size:=⟨_,rfl⟩
      have HQ1:=hid hq1
      clear hcl hrr hvv hll hq1
      go_wp2_with (first | refine wpList_load_P rfl 45 _ rfl gm 0 rfl (mkV M) _ HMr.out Tryd.underlying45 rfl (by rw[HMLA.out];exact Tryd.size45) ?_ | refine wpList_load_P rfl 45 _ rfl gn 0 rfl (mkV N) _ HNr.out Tryd.underlying45 rfl (by rw[HMLB.out];exact Tryd.size45) ?_ | refine wpList_buildTwoM rfl _ _ rfl (some 120) rfl M N HMOA.out HMOB.out rfl rfl q1 HQ1.out ?_ | fail)
      intro X1 HN1 HBl1
      rw[HQ1.out] at HBl1
      have HBX1:=hid (Bn HB2.out HBl1.out)
      have HDX1:=hid (Bn HDW.out HBl1.out)
      have HRL1:=hid (HRL.out.later HBl1.out)
      clear HBl1 HMr HNr HQ1 HRL HDW HB2 hcell
      go_wp2_with fail
      refine(HAU.out X1 L ac cc M N q1 (Bn HB5.out HDX1.out) HRL1.out (fun r q=>(HVL.out r q).2) HNL.out HMOA.out HMOB.out HN1.out).mono ?_
      rintro _ X2 ⟨rfl,hb2⟩
      have HBX2:=hid (Bn HBX1.out hb2)
      have HDX2:=hid (Bn HDX1.out hb2)
      have HRL2:=hid (HRL1.out.later hb2)
      have HGA:=hid (fun(h:(audR key L [M,N]).1=6)=>(good_has h).2)
      generalize (audR key L [M,N]).1=f1 at *
      generalize (audR key L [M,N]).2.1=f2 at *
      generalize (audR key L [M,N]).2.2=f3 at *
      clear hb2 HBX1 HDX1 HRL1 HN1
      have hfl1:=field40 f1 f2 f3
      by_cases h6:f1=6
      ·have hg0:=(HGA.out h6 0 (by simp)).2
       have hg1:=(HGA.out h6 1 (by simp)).2
       have hg:∀z,z=M∨z=N->dhasB L z.2.1=true:=fun z hz=>by
        rcases hz with rfl | rfl
        ·exact hg0
        ·exact hg1
       have HEL:=hid (HE.out L HVL.out hg)
       have HC1:=hid (HCLA.out X2 L ac cc HDX2.out HRL2.out (fun r q=>(HVL.out r q).2))
       have HC2:=hid (fun X (hX:Below X2.heap.size X2 X)=>HCLB.out X L ac cc (Bn HDX2.out hX) (HRL2.out.later hX) (fun r q=>(HVL.out r q).2))
       generalize colB L (A.take p)=z1 at *
       generalize colB L (B.take q)=z2 at *
       subst h6
       clear hg0 hg1 hg HGA HRL2 HDX2
       go_wp2_with fail
       refine HC1.out.mono ?_
       rintro _ X3 ⟨rfl,hb3⟩
       have HS3:=hid hb3
       have HBX3:=hid (Bn HBX2.out hb3)
       clear hb3 HC1 HBX2
       cases z1
       ·have hz2:=HEL.out rfl
        subst hz2
        clear HEL
        go_wp2_with fail
        refine(HC2.out X3 HS3.out).mono ?_
        rintro _ X4 ⟨rfl,hb4⟩
        have HBX4:=hid (Bn HBX3.out hb4)
        clear hb4 HC2 HBX3 HS3
        go_wp2
        go_round
        case rel=>exact⟨k2+1,by omega,by go_num,HBX4.out⟩
        case measure=>first | (simp[RowKit.intOf];done) | (simp[RowKit.intOf];omega)
       ·clear HEL HC2 HS3
        go_wp2
        go_round
        case rel=>exact⟨k2+1,by omega,by go_num,HBX3.out⟩
        case measure=>first | (simp[RowKit.intOf];done) | (simp[RowKit.intOf];omega)
      ·clear HGA
       go_wp2
       go_round
       case rel=>exact⟨k2+1,by omega,by go_num,HBX2.out⟩
       case measure=>first | (simp[RowKit.intOf];done) | (simp[RowKit.intOf];omega)
     ·have hk3:k2=3:=by omega
      subst hk3
      have HBE:=hid (Bn HB5.out (Bn HD19.out HB2.out))
      go_wp2
      go_ret
      exact⟨rfl,HBE.out⟩
   ·clear HBAD2 hsn
    go_wp2
    go_ret
    exact⟨rfl,Bn HB5.out HD18.out⟩
set_option maxRecDepth 100000 in
theorem lifted(os:Os)(started:os.Started)(H:Type)(enc:TypeId×Value->H):
 ReturnsInHanded {} Tryd.checked os 7 .any (fun w args=>(Rows.checkForksSpec.pre enc Tryd.prog Tryd.f7 [] false w args∧laidMetH Tryd.prog laidL w)∧sizedMet enc Tryd.prog Tryd.f7 (OpenSpec.ofChange Rows.checkForksSpec) false w args)
  (Rows.checkForksSpec.post enc Tryd.prog Tryd.f7 false true false false):=by
 refine returnsInHanded_of_change_and (C:=Tryd.checked) (X:=fun w _=>laidMetH Tryd.prog laidL w) (fun _ _ _ hh h=>h.of_heap hh) own started (by kernel_rfl) Tryd.func7
  (ChangeSpec.witness_shaped (enc:=enc) (C:=Tryd.checked) (os:=os) (X:=fun w _=>laidMetH Tryd.prog laidL w) false (World.doorLaid Tryd.prog 400 os) #[.slice none 0 0,.slice none 0 0,.slice none 0 0,.slice none 0 0,.int .u8 0,.int .u8 0] 8 rfl (World.shaped_of_RefB (by kernel_rfl) (by kernel_rfl)) (by kernel_rfl) (by kernel_rfl) (by kernel_rfl) (door_met os _)) ?_
 intro W base args ds gs before hval0 hW _ _ hL _
 have hval:∀(j:Nat) t v,Tryd.f7.params[j]?=some t->args[j]?=some v->Value.okWide Tryd.prog W .any base t v:=hval0
 have hW':=hW
 obtain⟨p,q,hA0,hV,rfl,_,_⟩:=hW
 have hA:DataW.TrodAll enc Tryd.prog W 0 (fun _=>true) true Tryd.f7.params.toList args.toList ds p:=hA0
 rw[Tryd.params7] at hA hval
 obtain⟨v0,vs0,d0,ds0,p0,q0,hargs,rfl,rfl,h0,r0⟩:=trodAll_cons hA
 obtain⟨v1,vs1,d1,ds1,p1,q1,rfl,rfl,rfl,h1,r1⟩:=trodAll_cons r0
 obtain⟨v2,vs2,d2,ds2,p2,q2,rfl,rfl,rfl,h2,r2⟩:=trodAll_cons r1
 obtain⟨v3,vs3,d3,ds3,p3,q3,rfl,rfl,rfl,h3,r3⟩:=trodAll_cons r2
 obtain⟨v4,vs4,d4,ds4,p4,q4,rfl,rfl,rfl,h4,r4⟩:=trodAll_cons r3
 obtain⟨v5,vs5,d5,ds5,p5,q5,rfl,rfl,rfl,h5,r5⟩:=trodAll_cons r4
 obtain⟨rfl,rfl,rfl⟩:=trodAll_nil r5
 obtain rfl:args= #[v0,v1,v2,v3,v4,v5]:=by cases args;simp_all
 obtain⟨rfl,rfl⟩:=trodVars_none hV
 have hlaid:=of_laid hL
 obtain⟨a4,rfl,rfl,rfl,w4⟩:=open_int Tryd.underlying5 (hval 4 5 v4 rfl rfl) h4
 obtain⟨a5,rfl,rfl,rfl,w5⟩:=open_int Tryd.underlying5 (hval 5 5 v5 rfl rfl) h5
 clear hA0
 simp only[List.append_nil] at hW'
 have hlt0:∀x∈p0,x.block<W.heap.size:=fun x hx=>hW'.lt x (by simp[hx])
 have hk0:=h0
 obtain⟨a0,cap0,l0,rfl,hr0⟩:=open_key (hval 0 22 v0 rfl rfl) h0 hlt0
 have hlt1:∀x∈p1,x.block<W.heap.size:=fun x hx=>hW'.lt x (by simp[hx])
 have hk1:=h1
 obtain⟨a1,cap1,l1,rfl,hr1⟩:=open_recs (hval 1 23 v1 rfl rfl) h1 hlt1
 have hlt2:∀x∈p2,x.block<W.heap.size:=fun x hx=>hW'.lt x (by simp[hx])
 have hk2:=h2
 obtain⟨a2,cap2,l2,rfl,hr2⟩:=open_recs (hval 2 23 v2 rfl rfl) h2 hlt2
 have hlt3:∀x∈p3,x.block<W.heap.size:=fun x hx=>hW'.lt x (by simp[hx])
 have hk3:=h3
 obtain⟨a3,cap3,l3,rfl,hr3⟩:=open_recs (hval 3 23 v3 rfl rfl) h3 hlt3
 clear hval0
 refine(walk a0 cap0 l0 a1 cap1 l1 a2 cap2 l2 a3 cap3 l3 a4 w4 a5 w5 W hlaid hr0 hr1 hr2 hr3).mono fun e W' ⟨he,hb⟩=>?_
 subst he
 exact⟨_,rfl,_,_,_,[]++ [],_,[],hW',trodAll_cons_mk (shut_bool Tryd.underlying4 _) trodAll_mk0,(trodAll_cons_mk (Below.trod Tryd.laidOut (by kernel_rfl) (of_decide_eq_true (by kernel_rfl)) hk0 hb hlt0) (trodAll_cons_mk (Below.trod Tryd.laidOut (by kernel_rfl) (of_decide_eq_true (by kernel_rfl)) hk1 hb hlt1) (trodAll_cons_mk (Below.trod Tryd.laidOut (by kernel_rfl) (of_decide_eq_true (by kernel_rfl)) hk2 hb hlt2) (trodAll_cons_mk (Below.trod Tryd.laidOut (by kernel_rfl) (of_decide_eq_true (by kernel_rfl)) hk3 hb hlt3) (trodAll_cons_mk (shut_int Tryd.underlying5 w4) (trodAll_cons_mk (shut_int Tryd.underlying5 w5) trodAll_mk0)))))),rfl,hb.frame _,fun h=>by cases h⟩
theorem over:Rows.checkForksRow.holds Tryd.pinned (OpenSpec.ofChange Rows.checkForksSpec):=
 OpenClaim.holds_of_wide 7 Tryd.f7 rfl rfl rfl rfl rfl rfl rfl ⟨rfl,rfl,rfl,rfl,rfl⟩ rfl rfl rfl rfl rfl (by kernel_rfl) Tryd.func7 (by kernel_rfl)
  (of_decide_eq_true (by kernel_rfl)) (by unfold Func.isWrapper;first | (rw[if_pos (by decide +kernel)];kernel_rfl) | (rw[if_neg (by decide +kernel)];exact⟨rfl,rfl⟩))
  (fun os started H enc _=>lifted os started H enc)
theorem card:Rows.CheckForksCardSaid:=
 Claim7.holds_tied_plain_at .later [] [.data,.data] true (true, "6c4824eea2cfdc05c637caf113dadd9efee948d7ff46397d3b1084f8d6b5d258") false
  over (fun _ h=>by cases h) (by kernel_rfl) (fun _ h=>by cases h) checkForks_row_tie rfl ⟨rfl,rfl⟩ (by kernel_rfl) rfl
  (fun f fn hf hfn=>by
   obtain rfl:f=7:=Option.some.inj ((show Tryd.prog.funcNamed "saltern/salternlaw16.CheckForks" = some 7 by kernel_rfl).symm.trans hf) |>.symm
   obtain rfl:fn=Tryd.f7:=(Option.some.inj (Tryd.func7.symm.trans hfn)).symm
   exact⟨by kernel_rfl,fun j t ht=>by
    rw[Tryd.params7] at ht
    have hm:t ∈ [22,23,23,23,5,5]:=by simpa using Array.mem_of_getElem? ht
    have hall:([22,23,23,23,5,5].all fun u=> !Tryd.prog.wantsStandIn u)=true:=by kernel_rfl
    exact(show Tryd.prog.wantsStandIn t=false by simpa using List.all_eq_true.1 hall t hm)⟩)
  (by kernel_rfl)
end Go.Proofs.YtplinkmagnihmaaDoor.checkForks
namespace Go.Proofs.YtplinkmagnihmaaDoor
theorem checkForks_holds:Rows.CheckForksCardSaid:=checkForks.card
#print axioms checkForks_holds
end Go.Proofs.YtplinkmagnihmaaDoor
