/-
  The mathematics of both Audits: what hold finds mark by mark is the first fault of the worst kind. The document's side of marks: Has. The document's side of marks: IsHead, Check, body.
-/
import Derived.Test.YtplinkmagnihmaaDoorCkJa
import Derived.Test.YtplinkmagnihmaaDoorCkJb
import Derived.Test.YtplinkmagnihmaaDoorCkJd
namespace Go.Proofs.YtplinkmagnihmaaDoor
open Go.ChangeShapes Go.WideShapes Go.ChangeAt Go.RowKit Go.Deep Go.Lib
attribute [local irreducible] Go.wpList in
set_option maxHeartbeats 6400000 in
set_option maxRecDepth 100000 in
theorem isHead_word(h:Hd)(w:World)(hl:h.2.2.length=32):Calls Tryd.prog 56 #[.agg (hdV h).toArray] w fun e w'=>e= .returned (.bool (headB h))∧Below w.heap.size w w':=by
 have HB:=hid (bel_alc w (.cells (hdV h).toArray 27))
 have hbx:=heap_alc w (.cells (hdV h).toArray 27)
 have HR:=hid (blk_range hbx)
 have c0:=hd_seq HR.out
 have c1:=hd_epoch HR.out
 have HLN:=hid (hdV_len hl)
 have hgd:=guard55
 clear hbx
 by_cases hz:h=hdZ
 ·have heq:∀V,(Op.equalIn 10000 27 (.agg (hdV h).toArray) (.agg #[.int .i64 0,.int .i64 0,.int .u8 0,.int .u8 0,.int .u8 0,.int .u8 0,.int .u8 0,.int .u8 0,.int .u8 0,.int .u8 0,.int .u8 0,.int .u8 0,.int .u8 0,.int .u8 0,.int .u8 0,.int .u8 0,.int .u8 0,.int .u8 0,.int .u8 0,.int .u8 0,.int .u8 0,.int .u8 0,.int .u8 0,.int .u8 0,.int .u8 0,.int .u8 0,.int .u8 0,.int .u8 0,.int .u8 0,.int .u8 0,.int .u8 0,.int .u8 0,.int .u8 0,.int .u8 0])).run Tryd.prog V= .ok true V:=fun V=>(eq55 h hdZ hl rfl V).trans (by rw[decide_eq_true hz])
  have HE:Hid (headB h=true):=by show _=_;unfold headB;rw[decide_eq_true hz];rfl
  rw[HE.out]
  clear hz
  go_enter Tryd.func56,Tryd.ntmps56
  go_wp2_with (first | refine wpList_load_g rfl 27 _ rfl w.heap.size 0 rfl (hdV h) _ HR.out Tryd.underlying27 rfl (by rw[HLN.out];exact Tryd.size27h) ?_ | fail)
  go_ret
  exact⟨rfl,HB.out⟩
 ·have heq:∀V,(Op.equalIn 10000 27 (.agg (hdV h).toArray) (.agg #[.int .i64 0,.int .i64 0,.int .u8 0,.int .u8 0,.int .u8 0,.int .u8 0,.int .u8 0,.int .u8 0,.int .u8 0,.int .u8 0,.int .u8 0,.int .u8 0,.int .u8 0,.int .u8 0,.int .u8 0,.int .u8 0,.int .u8 0,.int .u8 0,.int .u8 0,.int .u8 0,.int .u8 0,.int .u8 0,.int .u8 0,.int .u8 0,.int .u8 0,.int .u8 0,.int .u8 0,.int .u8 0,.int .u8 0,.int .u8 0,.int .u8 0,.int .u8 0,.int .u8 0,.int .u8 0])).run Tryd.prog V= .ok false V:=fun V=>(eq55 h hdZ hl rfl V).trans (by rw[decide_eq_false hz])
  obtain⟨q,hq⟩:∃q,q=headB h:=⟨_,rfl⟩
  rw[<-hq]
  have HE:Hid (q=(decide (1<=h.1∧h.1<=1073741824)&&decide (1<=h.2.1∧h.2.1<=1073741824))):=by show _=_;rw[hq];unfold headB;rw[decide_eq_false hz];rfl
  clear hz hq
  obtain⟨n,hn⟩:∃n,n=h.1:=⟨_,rfl⟩
  obtain⟨k,hk⟩:∃k,k=h.2.1:=⟨_,rfl⟩
  rw[<-hn] at c0 HE
  rw[<-hk] at c1 HE
  clear hn hk
  by_cases h1:1<=n
  ·by_cases h2:n<=1073741824
   ·by_cases h3:1<=k
    ·by_cases h4:k<=1073741824
     ·have HQ:Hid (q=true):=by show _=_;rw[HE.out,decide_eq_true ⟨h1,h2⟩,decide_eq_true ⟨h3,h4⟩];rfl
      rw[HQ.out]
      go_enter Tryd.func56,Tryd.ntmps56
      go_wp2_with (first | refine wpList_load_g rfl 27 _ rfl w.heap.size 0 rfl (hdV h) _ HR.out Tryd.underlying27 rfl (by rw[HLN.out];exact Tryd.size27h) ?_ | fail)
      go_ret
      exact⟨rfl,HB.out⟩
     ·have HQ:Hid (q=false):=by show _=_;rw[HE.out,decide_eq_false (fun e:1<=k∧k<=1073741824=>h4 e.2)];simp
      rw[HQ.out]
      go_enter Tryd.func56,Tryd.ntmps56
      go_wp2_with (first | refine wpList_load_g rfl 27 _ rfl w.heap.size 0 rfl (hdV h) _ HR.out Tryd.underlying27 rfl (by rw[HLN.out];exact Tryd.size27h) ?_ | fail)
      go_ret
      exact⟨rfl,HB.out⟩
    ·have HQ:Hid (q=false):=by show _=_;rw[HE.out,decide_eq_false (fun e:1<=k∧k<=1073741824=>h3 e.1)];simp
     rw[HQ.out]
     go_enter Tryd.func56,Tryd.ntmps56
     go_wp2_with (first | refine wpList_load_g rfl 27 _ rfl w.heap.size 0 rfl (hdV h) _ HR.out Tryd.underlying27 rfl (by rw[HLN.out];exact Tryd.size27h) ?_ | fail)
     go_ret
     exact⟨rfl,HB.out⟩
   ·have HQ:Hid (q=false):=by show _=_;rw[HE.out,decide_eq_false (fun e:1<=n∧n<=1073741824=>h2 e.2)];simp
    rw[HQ.out]
    go_enter Tryd.func56,Tryd.ntmps56
    go_wp2_with (first | refine wpList_load_g rfl 27 _ rfl w.heap.size 0 rfl (hdV h) _ HR.out Tryd.underlying27 rfl (by rw[HLN.out];exact Tryd.size27h) ?_ | fail)
    go_ret
    exact⟨rfl,HB.out⟩
  ·have HQ:Hid (q=false):=by show _=_;rw[HE.out,decide_eq_false (fun e:1<=n∧n<=1073741824=>h1 e.1)];simp
   rw[HQ.out]
   go_enter Tryd.func56,Tryd.ntmps56
   go_wp2_with (first | refine wpList_load_g rfl 27 _ rfl w.heap.size 0 rfl (hdV h) _ HR.out Tryd.underlying27 rfl (by rw[HLN.out];exact Tryd.size27h) ?_ | fail)
   go_ret
   exact⟨rfl,HB.out⟩
set_option maxHeartbeats 3200000 in
set_option maxRecDepth 100000 in
theorem dcheckM_word(m:Mrk)(w:World)(h:MOk m):Calls Tryd.prog 40 #[.agg (mkV m).toArray] w fun e w'=>e= .returned (.int .i64 (e160 (mayM m)))∧Below w.heap.size w w':=by
 have HB:=hid (bel_alc w (.cells (mkV m).toArray 45))
 have hbx:=heap_alc w (.cells (mkV m).toArray 45)
 have hr0:=blk_range hbx
 have c0:=mk_site hr0
 have HR:=hid (mk_hd hr0)
 have HLN:=hid (hdV_len h.hd.len)
 have HMH:=hid (fun V=>isHead_word m.2.1 V h.hd.len)
 clear hbx hr0
 obtain⟨r,hr⟩:∃r,r=headB m.2.1:=⟨_,rfl⟩
 have hmm:mayM m=((decide (m.1=0)||decide (m.1=1))&&r):=by rw[hr];rfl
 rw[hmm]
 rw[<-hr] at HMH
 obtain⟨s,hs⟩:∃s,s=m.1:=⟨_,rfl⟩
 rw[<-hs] at c0
 rw[<-hs]
 clear hs hr hmm
 by_cases h0:s<0
 ·rw[decide_eq_false (show ¬s=0 by omega),decide_eq_false (show ¬s=1 by omega)]
  go_enter Tryd.func40,Tryd.ntmps40
  go_wp2_with (first | refine wpList_load_g rfl 27 _ rfl w.heap.size 1 rfl (hdV m.2.1) _ HR.out Tryd.underlying27 rfl (by rw[HLN.out];exact Tryd.size27h) ?_ | fail)
  go_ret
  exact⟨rfl,HB.out⟩
 ·by_cases h1:1<s
  ·rw[decide_eq_false (show ¬s=0 by omega),decide_eq_false (show ¬s=1 by omega)]
   go_enter Tryd.func40,Tryd.ntmps40
   go_wp2_with (first | refine wpList_load_g rfl 27 _ rfl w.heap.size 1 rfl (hdV m.2.1) _ HR.out Tryd.underlying27 rfl (by rw[HLN.out];exact Tryd.size27h) ?_ | fail)
   go_ret
   exact⟨rfl,HB.out⟩
  ·have HQ:Hid ((decide (s=0)||decide (s=1))=true):=by
    show _=_
    rw[Bool.or_eq_true,decide_eq_true_eq,decide_eq_true_eq]
    omega
   rw[HQ.out,Bool.true_and]
   cases r
   all_goals
    go_enter Tryd.func40,Tryd.ntmps40
    go_wp2_with (first | refine wpList_load_g rfl 27 _ rfl w.heap.size 1 rfl (hdV m.2.1) _ HR.out Tryd.underlying27 rfl (by rw[HLN.out];exact Tryd.size27h) ?_ | fail)
    refine(HMH.out _).mono ?_
    rintro _ w1 ⟨rfl,hb⟩
    have HB1:=hid (Bn HB.out hb)
    clear hb
    go_wp2
    go_ret
    exact⟨rfl,HB1.out⟩
end Go.Proofs.YtplinkmagnihmaaDoor
namespace Go.Proofs.YtplinkmagnihmaaDoor
open Go.ChangeShapes Go.WideShapes Go.ChangeAt Go.RowKit Go.Deep Go.Lib
def dhasB(l:List Rec)(h:Hd):Bool:=decide (0<=h.1∧h.1<=(l.length:Int))&&(decide ((wlk hdZ (l.take h.1.toNat) 0).2.2=0)&&decide ((wlk hdZ (l.take h.1.toNat) 0).1=h))
theorem Rr.pre{w:World}{a:Option Addr}{cap:Nat}{l:List Rec}(h:Rr w a cap l){n:Nat}(hn:n<=l.length):Rr w a cap (l.take n):=by
 have hl:(l.take n).length=n:=by rw[List.length_take];omega
 refine⟨by rw[hl];exact Nat.le_trans hn h.room,h.most,h.none0,fun h0=>?_,fun r hr=>h.fits r (List.mem_of_mem_take hr)⟩
 obtain⟨b,off,ha,hb,hc⟩:=h.cells (by omega)
 refine⟨b,off,ha,hb,fun j hj=>?_⟩
 have:=hc j (by omega)
 rw[show(l.take n).getD j recZ=l.getD j recZ from by simp[List.getD,List.getElem?_take_of_lt (show j<n by omega)]]
 exact this
set_option maxRecDepth 100000 in
theorem slice_pre(a:Option Addr)(len cap n:Nat)(h:n<=cap)(W:World):(Instr.slice 23 (.slice a len cap) none (some (.int .i64 (n:Int))) none).run Tryd.prog W= .ok (.slice a n cap) W:=by
 have:=run_slice_h (P:=Tryd.prog) W 23 a len cap Tryd.underlying23 .i64 (n:Int) (by omega) (by omega)
 rw[this,Int.toNat_natCast]
 have hs:(sizeOf (Tryd.prog.elem 23)).run Tryd.prog W= .ok 38 W:=by kernel_rfl
 rw[hs]
 show Result.ok (sliced a 0 n cap 38) W=_
 unfold sliced
 cases a with
 | none=>simp
 | some ad=>cases hcz:decide (cap=0)<;>simp[Addr.add]
set_option maxHeartbeats 6400000 in
set_option maxRecDepth 100000 in
theorem dhas_word(h:Hd)(a:Option Addr)(cap:Nat)(l:List Rec)(w:World)(hl:h.2.2.length=32)(hr:Rr w a cap l)(hn:∀r∈l,r.ps.length<=1000):
 Calls Tryd.prog 14 #[.slice a l.length cap,.agg (hdV h).toArray] w fun e w'=>e= .returned (.bool (dhasB l h))∧Below w.heap.size w w':=by
 have hB1:=bel_alc w (.cells (hdV h).toArray 27)
 have hbx:=heap_alc w (.cells (hdV h).toArray 27)
 have hsz:(w.alloc (.cells (hdV h).toArray 27)).heap.size=w.heap.size+1:=by simp
 obtain⟨W1,hW1⟩:∃W1,W1=w.alloc (.cells (hdV h).toArray 27):=⟨_,rfl⟩
 rw[<-hW1] at hB1 hbx hsz
 have HW1:=hid hW1
 have HB:=hid hB1
 have HBX:=hid hbx
 have HS1:=hid hsz
 have HLN:=hid (hdV_len hl)
 have HRR:=hid hr
 have hroom:=hr.room
 have hmost:=hr.most
 unfold maxLen at hmost
 have c0:W1.cell? ⟨w.heap.size,0,none⟩=some (.int .i64 h.1):=hd_seq (blk_range hbx)
 obtain⟨q,hq⟩:∃q,q=dhasB l h:=⟨_,rfl⟩
 rw[<-hq]
 unfold dhasB at hq
 have HQ:=hid hq
 have HH:=hid hl
 have HN:=hid hn
 have HC0:=hid c0
 clear hq hl hr hn hW1 hbx hB1 hsz c0
 by_cases h0:h.1<0
 ·have HF:Hid (q=false):=by show _=_;rw[HQ.out,decide_eq_false (by omega)];rfl
  rw[HF.out]
  have c0:=HC0.out
  obtain⟨z,hz⟩:∃z,z=h.1:=⟨_,rfl⟩
  rw[<-hz] at h0 c0
  have HZ:=hid hz
  clear hz HQ HC0
  rw[HW1.out] at c0
  go_enter Tryd.func14,Tryd.ntmps14
  go_wp2
  go_ret
  exact⟨rfl,by rw[<-HW1.out];exact HB.out⟩
 ·obtain⟨n,hz⟩:∃n:Nat,h.1=(n:Int):=⟨h.1.toNat,by omega⟩
  rw[hz] at HQ HC0
  rw[Int.toNat_natCast] at HQ
  have c0:=HC0.out
  clear HC0 h0
  by_cases hnl:l.length<n
  ·have HF:Hid (q=false):=by show _=_;rw[HQ.out,decide_eq_false (by omega)];rfl
   rw[HF.out]
   have HZ:=hid hz
   clear hz HQ
   rw[HW1.out] at c0
   go_enter Tryd.func14,Tryd.ntmps14
   go_wp2
   go_ret
   exact⟨rfl,by rw[<-HW1.out];exact HB.out⟩
  ·have hsl:=fun W=>slice_pre a l.length cap n (by omega) W
   obtain⟨l',hl'⟩:∃l',l'=l.take n:=⟨_,rfl⟩
   rw[<-hl'] at HQ
   have hlen:l'.length=n:=by rw[hl',List.length_take];omega
   have HWK:=hid (fun V (hV:Below w.heap.size w V)=>(show Calls Tryd.prog 22 #[.agg #[.int .i64 0,.int .i64 0,.int .u8 0,.int .u8 0,.int .u8 0,.int .u8 0,.int .u8 0,.int .u8 0,.int .u8 0,.int .u8 0,.int .u8 0,.int .u8 0,.int .u8 0,.int .u8 0,.int .u8 0,.int .u8 0,.int .u8 0,.int .u8 0,.int .u8 0,.int .u8 0,.int .u8 0,.int .u8 0,.int .u8 0,.int .u8 0,.int .u8 0,.int .u8 0,.int .u8 0,.int .u8 0,.int .u8 0,.int .u8 0,.int .u8 0,.int .u8 0,.int .u8 0,.int .u8 0],.slice a n cap] V (fun e w'=>e= .returned (.tuple #[.agg (hdV (wlk hdZ l' 0).1).toArray,.int .i64 ((wlk hdZ l' 0).2.1:Int),.int .i64 (wlk hdZ l' 0).2.2])∧Below V.heap.size V w') from by
    have:=dwalk_word hdZ a cap l' V rfl (by rw[hl'];exact(HRR.out.pre (by omega)).later hV) (fun r hr=>HN.out r (List.mem_of_mem_take (by rw[<-hl'];exact hr)))
    rw[hlen] at this
    exact this))
   have HXL:=hid (wlk_len l' hdZ 0 rfl)
   have HF:Hid (q=(decide ((wlk hdZ l' 0).2.2=0)&&decide ((wlk hdZ l' 0).1=h))):=by show _=_;rw[HQ.out,decide_eq_true (by omega)];rfl
   have HZ:=hid hz
   have HLL:=hid hlen
   clear hz HQ hl' hlen HN
   obtain⟨X,hX⟩:∃X,X=(wlk hdZ l' 0).1:=⟨_,rfl⟩
   obtain⟨E,hE⟩:∃E,E=(wlk hdZ l' 0).2.2:=⟨_,rfl⟩
   obtain⟨K0,hK0⟩:∃K0,K0=(wlk hdZ l' 0).2.1:=⟨_,rfl⟩
   rw[<-hX,<-hE,<-hK0] at HWK
   rw[<-hX,<-hE] at HF
   rw[<-hX] at HXL
   clear hX hE hK0
   have HXV:=hid (hdV_len HXL.out)
   have HZ27:=hid Tryd.zero27
   rw[HW1.out] at c0
   go_enter Tryd.func14,Tryd.ntmps14
   go_wp2_with fail
   rw[<-HW1.out]
   refine(HWK.out W1 HB.out).mono ?_
   rintro _ W2 ⟨rfl,hb2⟩
   have HX2:=hid (blk_later HBX.out hb2)
   have HB2:=hid (Bn HB.out hb2)
   obtain⟨g2,hg2⟩:∃g2,g2=W2.heap.size:=⟨_,rfl⟩
   have HGE:Hid (w.heap.size<g2):=by show _<_;rw[hg2];have:=hb2.size;have:=HS1.out;omega
   have HGQ:=hid hg2
   clear hb2 c0 hsl HWK hg2
   go_wp2_with (first | refine wpList_alloc_W rfl 27 rfl (some 5) rfl _ HZ27.out g2 HGQ.out ?_ | fail)
   intro W3 HG3 HB3 HS3
   go_wp2_with (first | refine wpList_store_W rfl 27 _ _ rfl rfl g2 (hdV X).toArray rfl rfl 27 _ HG3.out (by rw[List.size_toArray,HXV.out];exact Tryd.size27) (by simp only[List.size_toArray,HXV.out];rfl) (all_oneCell_toArray (show ∀u∈hdV X,u.oneCell'=true from hdL_one _ _ _)) ?_ | fail)
   intro W4 HG4 HGR4 HS4
   have HB4:Hid (Below W2.heap.size W2 W4):=by
    show Below _ _ _
    rw[<-HGQ.out]
    exact HB3.out.trans (bel_grown HGR4.out (Nat.le_refl _) (by rw[HGQ.out];exact HB3.out.size))
   have HX4:=hid (blk_later HX2.out HB4.out)
   have HBB:=hid (Bn HB2.out HB4.out)
   have HR4:=hid (blk_range HX4.out)
   have HR5:=hid (blk_range HG4.out)
   clear HG3 HB3 HS3 HGR4 HS4 HB4 HGQ HX2 HX4 HG4
   have hgd:=guard55
   by_cases hE:E=0
   ·obtain⟨p,hp⟩:∃p,p=decide (X=h):=⟨_,rfl⟩
    have heq:∀V,(Op.equalIn 10000 27 (.agg (hdV X).toArray) (.agg (hdV h).toArray)).run Tryd.prog V= .ok p V:=fun V=>(eq55 X h HXL.out HH.out V).trans (by rw[hp])
    have HP:Hid (q=p):=by show _=_;rw[HF.out,decide_eq_true hE,hp];rfl
    clear hp HF
    go_wp2_with (first | refine wpList_load_g rfl 27 _ rfl g2 0 rfl (hdV X) _ HR5.out Tryd.underlying27 rfl (by rw[HXV.out];exact Tryd.size27) ?_ | refine wpList_load_g rfl 27 _ rfl w.heap.size 0 rfl (hdV h) _ HR4.out Tryd.underlying27 rfl (by rw[HLN.out];exact Tryd.size27) ?_ | fail)
    go_ret
    exact⟨(show _=Ending.returned (Value.bool q) by rw[HP.out];try rfl),HBB.out⟩
   ·have HP:Hid (q=false):=by show _=_;rw[HF.out,decide_eq_false hE];rfl
    clear HF
    go_wp2_with fail
    go_ret
    exact⟨(show _=Ending.returned (Value.bool q) by rw[HP.out];try rfl),HBB.out⟩
end Go.Proofs.YtplinkmagnihmaaDoor
namespace Go.Proofs.YtplinkmagnihmaaDoor
open Go.ChangeShapes Go.WideShapes Go.ChangeAt Go.RowKit Go.Deep Go.Lib
theorem hs_wlk:∀(l:List Rec) (h:Hd) (i:Nat),((wlk h l i).2.2=0->(hsL h l).length=l.length+1)∧((wlk h l i).2.2≠0->(hsL h l).length<=l.length∧(wlk h l i).2.1+1=i+(hsL h l).length)
 | [],h,i=>by simp[wlk,hsL]
 | r::l,h,i=>by
   have ih:=hs_wlk l (nxtH h r) (i+1)
   rw[wlk,hsL]
   by_cases hf:fltH h r=0
   ·rw[if_pos hf,if_pos hf]
    refine⟨fun q=>by have:=ih.1 q;simp only[List.length_cons];omega,fun q=>?_⟩
    have:=ih.2 q
    simp only[List.length_cons]
    omega
   ·rw[if_neg hf,if_neg hf]
    exact⟨fun q=>absurd q hf,fun _=>by simp⟩
theorem hs_get:∀(l:List Rec) (h:Hd) (i n:Nat),(hsL h l).length=l.length+1->n<=l.length->(wlk h (l.take n) i).2.2=0∧(wlk h (l.take n) i).1=(hsL h l).getD n hdZ
 | [],h,i,n,_,hn=>by
   have:n=0:=by simpa using hn
   subst this
   simp[wlk,hsL]
 | r::l,h,i,0,hl,_=>by
   rw[hsL] at hl|-
   split<;>simp[wlk]
 | r::l,h,i,n+1,hl,hn=>by
   rw[hsL] at hl|-
   by_cases hf:fltH h r=0
   ·rw[if_pos hf] at hl|-
    have:=hs_get l (nxtH h r) (i+1) n (by simpa using hl) (by simpa using hn)
    rw[List.take_succ_cons,wlk,if_pos hf]
    simpa using this
   ·rw[if_neg hf] at hl
    simp at hl
theorem has_both{l:List Rec}(hl:(hsL hdZ l).length=l.length+1){x:Hd}(hx:x.1<=(l.length:Int)):hasB (hsL hdZ l) x=dhasB l x:=by
 unfold hasB dhasB
 by_cases h0:0<=x.1
 ·have hg:=hs_get l hdZ 0 x.1.toNat hl (by omega)
  rw[hg.1,hg.2,decide_eq_true h0,decide_eq_true (show 0<=x.1∧x.1<=(l.length:Int) from⟨h0,hx⟩),decide_eq_true rfl]
  rfl
 ·rw[decide_eq_false h0,decide_eq_false (show ¬(0<=x.1∧x.1<=(l.length:Int)) from fun q=>h0 q.1)]
  rfl
def unS(key:List Nat)(ms:List Mrk)(i:Nat):Prop:=sealedB key (ms.getD i mkZ)=false
def clash(ms:List Mrk)(j k:Nat):Prop:=(ms.getD j mkZ).2.1.1=(ms.getD k mkZ).2.1.1∧¬(ms.getD j mkZ).2.1=(ms.getD k mkZ).2.1
def lieM(l:List Rec)(ms:List Mrk)(i:Nat):Prop:=(ms.getD i mkZ).2.1.1<=(l.length:Int)∧dhasB l (ms.getD i mkZ).2.1=false
def ahd(l:List Rec)(ms:List Mrk)(i:Nat):Prop:=(l.length:Int)<(ms.getD i mkZ).2.1.1
def D5(l:List Rec)(ms:List Mrk)(n:Nat)(f:Int×Int×Int):Prop:=
 (∃i,i<n∧f=(5,(i:Int),0)∧ahd l ms i∧∀j,j<i->¬ahd l ms j)∨((∀j,j<n->¬ahd l ms j)∧f=(6,0,0))
def D4(l:List Rec)(ms:List Mrk)(n:Nat)(f:Int×Int×Int):Prop:=
 (∃i,i<n∧f=(4,(i:Int),0)∧lieM l ms i∧∀j,j<i->¬lieM l ms j)∨((∀j,j<n->¬lieM l ms j)∧D5 l ms n f)
def D3(l:List Rec)(ms:List Mrk)(n:Nat)(f:Int×Int×Int):Prop:=
 (∃j k,j<k∧k<n∧f=(3,(j:Int),(k:Int))∧clash ms j k∧(∀k',k'<k->∀j',j'<k'->¬clash ms j' k')∧∀j',j'<j->¬clash ms j' k) ∨
 ((∀k',k'<n->∀j',j'<k'->¬clash ms j' k')∧D4 l ms n f)
def D2(key:List Nat)(l:List Rec)(ms:List Mrk)(n:Nat)(f:Int×Int×Int):Prop:=
 (∃i,i<n∧f=(2,(i:Int),0)∧unS key ms i∧∀j,j<i->¬unS key ms j)∨((∀j,j<n->¬unS key ms j)∧D3 l ms n f)
theorem fst1_spec{ms:List Mrk}{i:Nat}(hi:i<ms.length):fst1 ms i<=i∧(ms.getD (fst1 ms i) mkZ).2.1.1=(ms.getD i mkZ).2.1.1∧∀j,j<fst1 ms i->¬(ms.getD j mkZ).2.1.1=(ms.getD i mkZ).2.1.1:=by
 have hlen:(ms.take (i+1)).length=i+1:=by rw[List.length_take];omega
 have hget:∀j (hj:j<(ms.take (i+1)).length),(ms.take (i+1))[j]=ms.getD j mkZ:=by
  intro j hj
  have:j<ms.length:=by omega
  rw[List.getElem_take]
  simp[List.getD,List.getElem?_eq_getElem this]
 unfold fst1 fsI
 cases hf:(ms.take (i+1)).findIdx? (fun m=>decide (m.2.1.1=(ms.getD i mkZ).2.1.1)) with
 | none=>
   rw[List.findIdx?_eq_none_iff] at hf
   have:=hf _ (List.getElem_mem (show i<(ms.take (i+1)).length by omega))
   rw[hget] at this
   simp at this
 | some k=>
   rw[List.findIdx?_eq_some_iff_getElem] at hf
   obtain⟨hk,h1,h2⟩:=hf
   rw[hget] at h1
   refine⟨by simp only[Option.getD_some];omega,by simpa using h1,fun j hj=>?_⟩
   have:=h2 j hj
   rw[hget] at this
   simpa using this
theorem fork_yes{ms:List Mrk}{n:Nat}(hn:n<ms.length)(h:forkB ms n=true):fst1 ms n<n∧clash ms (fst1 ms n) n∧∀j,j<fst1 ms n->¬clash ms j n:=by
 obtain⟨h1,h2,h3⟩:=fst1_spec hn
 have hne:¬(ms.getD (fst1 ms n) mkZ).2.1=(ms.getD n mkZ).2.1:=by simpa [forkB] using h
 refine⟨?_,⟨h2,hne⟩,fun j hj q=>h3 j hj q.1⟩
 rcases Nat.lt_or_ge (fst1 ms n) n with q | q
 ·exact q
 ·have:fst1 ms n=n:=by omega
  rw[this] at hne
  exact absurd rfl hne
theorem fork_no{ms:List Mrk}{n:Nat}(hn:n<ms.length)(h:forkB ms n=false)(hc:∀k',k'<n->∀j',j'<k'->¬clash ms j' k'):∀j,j<n->¬clash ms j n:=by
 obtain⟨h1,h2,h3⟩:=fst1_spec hn
 have he:(ms.getD (fst1 ms n) mkZ).2.1=(ms.getD n mkZ).2.1:=by simpa [forkB] using h
 intro j hj q
 rcases Nat.lt_trichotomy j (fst1 ms n) with hl | hl | hl
 ·exact h3 j hl q.1
 ·exact q.2 (by rw[hl];exact he)
 ·refine hc j hj (fst1 ms n) hl ⟨by rw[h2,q.1],fun e=>q.2 ?_⟩
  rw[<-e]
  exact he
theorem below_succ{P:Nat->Prop}{n:Nat}(h:∀j,j<n->P j)(hn:P n):∀j,j<n+1->P j:=fun j hj=>by
 rcases Nat.lt_or_ge j n with q | q
 ·exact h j q
 ·have:j=n:=by omega
  rw[this];exact hn
theorem D2_step{key:List Nat}{l:List Rec}{ms:List Mrk}{n:Nat}{f:Int×Int×Int}(hl:(hsL hdZ l).length=l.length+1)(hn:n<ms.length)(h:D2 key l ms n f):D2 key l ms (n+1) (stepA key (hsL hdZ l) ms n f):=by
 have hx:∀x:Hd,(x.1<((hsL hdZ l).length:Int))↔x.1<=(l.length:Int):=fun x=>by rw[hl];omega
 rcases h with ⟨i,hi,rfl,hu,hb⟩ | ⟨hS,h3⟩
 ·have e:stepA key (hsL hdZ l) ms n (2,(i:Int),0)=(2,(i:Int),0):=by simp[stepA]
  rw[e]
  exact .inl ⟨i,by omega,rfl,hu,hb⟩
 ·by_cases hs:sealedB key (ms.getD n mkZ)=false
  ·have e:stepA key (hsL hdZ l) ms n f=(2,(n:Int),0):=by
    have h6:f.1=6∨f.1=5∨f.1=4∨f.1=3:=by
     rcases h3 with ⟨j,k,_,_,rfl,_⟩ | ⟨_,⟨i,_,rfl,_⟩ | ⟨_,⟨i,_,rfl,_⟩ | ⟨_,rfl⟩⟩⟩<;>simp
    unfold stepA
    rw[if_pos ⟨h6,hs⟩]
   rw[e]
   exact .inl ⟨n,by omega,rfl,hs,hS⟩
  ·have hS':=below_succ hS hs
   refine .inr ⟨hS',?_⟩
   rcases h3 with ⟨j,k,hjk,hk,rfl,hc,hb,hb'⟩ | ⟨hC,h4⟩
   ·have e:stepA key (hsL hdZ l) ms n (3,(j:Int),(k:Int))=(3,(j:Int),(k:Int)):=by
     unfold stepA
     rw[if_neg (fun q=>hs q.2),if_neg (fun q=>absurd q.1 (by simp)),if_neg (fun q=>absurd q.1 (by simp)),if_neg (fun q=>absurd q.1 (by simp))]
    rw[e]
    exact .inl ⟨j,k,hjk,by omega,rfl,hc,hb,hb'⟩
   ·by_cases hf:forkB ms n=true
    ·obtain⟨q1,q2,q3⟩:=fork_yes hn hf
     have e:stepA key (hsL hdZ l) ms n f=(3,(fst1 ms n:Int),(n:Int)):=by
      have h6:f.1=6∨f.1=5∨f.1=4:=by
       rcases h4 with ⟨i,_,rfl,_⟩ | ⟨_,⟨i,_,rfl,_⟩ | ⟨_,rfl⟩⟩<;>simp
      unfold stepA
      rw[if_neg (fun q=>hs q.2),if_pos ⟨h6,hf⟩]
     rw[e]
     exact .inl ⟨fst1 ms n,n,q1,by omega,rfl,q2,hC,q3⟩
    ·have hf':forkB ms n=false:=by simpa using hf
     have hC':=below_succ hC (fork_no hn hf' hC)
     refine .inr ⟨hC',?_⟩
     rcases h4 with ⟨i,hi,rfl,hu,hb⟩ | ⟨hL,h5⟩
     ·have e:stepA key (hsL hdZ l) ms n (4,(i:Int),0)=(4,(i:Int),0):=by
       unfold stepA
       rw[if_neg (fun q=>hs q.2),if_neg (fun q=>hf q.2),if_neg (fun q=>absurd q.1 (by simp)),if_neg (fun q=>absurd q.1 (by simp))]
      rw[e]
      exact .inl ⟨i,by omega,rfl,hu,hb⟩
     ·by_cases hli:(ms.getD n mkZ).2.1.1<((hsL hdZ l).length:Int)∧hasB (hsL hdZ l) (ms.getD n mkZ).2.1=false
      ·have hle:=(hx (ms.getD n mkZ).2.1).1 hli.1
       have hlm:lieM l ms n:=⟨hle,by rw[<-has_both hl hle];exact hli.2⟩
       have e:stepA key (hsL hdZ l) ms n f=(4,(n:Int),0):=by
        have h6:f.1=6∨f.1=5:=by
         rcases h5 with ⟨i,_,rfl,_⟩ | ⟨_,rfl⟩<;>simp
        unfold stepA
        rw[if_neg (fun q=>hs q.2),if_neg (fun q=>hf q.2),if_pos ⟨h6,hli.1,hli.2⟩]
       rw[e]
       exact .inl ⟨n,by omega,rfl,hlm,hL⟩
      ·have hlm:¬lieM l ms n:=fun q=>hli ⟨(hx _).2 q.1,by rw[has_both hl q.1];exact q.2⟩
       refine .inr ⟨below_succ hL hlm,?_⟩
       rcases h5 with ⟨i,hi,rfl,hu,hb⟩ | ⟨hA,rfl⟩
       ·have e:stepA key (hsL hdZ l) ms n (5,(i:Int),0)=(5,(i:Int),0):=by
         unfold stepA
         rw[if_neg (fun q=>hs q.2),if_neg (fun q=>hf q.2),if_neg (fun q=>hli q.2),if_neg (fun q=>absurd q.1 (by simp))]
        rw[e]
        exact .inl ⟨i,by omega,rfl,hu,hb⟩
       ·by_cases ha:(ms.getD n mkZ).2.1.1<((hsL hdZ l).length:Int)
        ·have e:stepA key (hsL hdZ l) ms n (6,0,0)=(6,0,0):=by
          unfold stepA
          rw[if_neg (fun q=>hs q.2),if_neg (fun q=>hf q.2),if_neg (fun q=>hli q.2),if_neg (fun q=>q.2 ha)]
         rw[e]
         have hle:=(hx (ms.getD n mkZ).2.1).1 ha
         exact .inr ⟨below_succ hA (fun q=>by unfold ahd at q;omega),rfl⟩
        ·have e:stepA key (hsL hdZ l) ms n (6,0,0)=(5,(n:Int),0):=by
          unfold stepA
          rw[if_neg (fun q=>hs q.2),if_neg (fun q=>hf q.2),if_neg (fun q=>hli q.2),if_pos ⟨rfl,ha⟩]
         rw[e]
         have hgt:ahd l ms n:=by unfold ahd;rw[hl] at ha;omega
         exact .inl ⟨n,by omega,rfl,hgt,hA⟩
theorem D2_aud{key:List Nat}{l:List Rec}{ms:List Mrk}(hl:(hsL hdZ l).length=l.length+1):∀n,n<=ms.length->D2 key l ms n (audF key (hsL hdZ l) ms n)
 | 0,_=>by
   rw[audF]
   exact .inr ⟨fun j hj=>absurd hj (Nat.not_lt_zero _),.inr ⟨fun k hk=>absurd hk (Nat.not_lt_zero _),.inr ⟨fun j hj=>absurd hj (Nat.not_lt_zero _),.inr ⟨fun j hj=>absurd hj (Nat.not_lt_zero _),rfl⟩⟩⟩⟩
 | n+1,h=>by
   rw[audF]
   exact D2_step hl (by omega) (D2_aud hl n (by omega))
end Go.Proofs.YtplinkmagnihmaaDoor
