/-
  Marks of check: a mark's cells, what may be; the contracts of check's within, mayHead, may, Check.
-/
import Derived.Test.YtplinkmagnihmaaDoorCkU
namespace Go.Proofs.YtplinkmagnihmaaDoor
open Go.ChangeShapes Go.WideShapes Go.ChangeAt Go.RowKit Go.Deep Go.Lib
abbrev Mrk:=Int×Hd×List Int
def mkV(m:Mrk):List Value:= .int .i64 m.1::(hdV m.2.1++m.2.2.map (Value.int .u8))
structure HOk (h:Hd):Prop where
 seq:(Lit.int .i64 h.1).wf=true
 epoch:(Lit.int .i64 h.2.1).wf=true
 len:h.2.2.length=32
 u8:∀j,(Lit.int .u8 (h.2.2.getD j 0)).wf=true
structure MOk (m:Mrk):Prop where
 site:(Lit.int .i64 m.1).wf=true
 hd:HOk m.2.1
 mlen:m.2.2.length=32
 mu8:∀j,(Lit.int .u8 (m.2.2.getD j 0)).wf=true
def hdZ:Hd:=(0,0,z32)
theorem hdV_len{h:Hd}(hl:h.2.2.length=32):(hdV h).length=34:=hdL_len _ _ _ hl
theorem mkV_len{m:Mrk}(h:MOk m):(mkV m).length=67:=by
 unfold mkV
 rw[List.length_cons,List.length_append,hdV_len h.hd.len,List.length_map,h.mlen]
theorem mkV_one(m:Mrk):∀u∈mkV m,u.oneCell'=true:=by
 intro u hu
 unfold mkV at hu
 rcases List.mem_cons.1 hu with rfl | hu
 ·rfl
 ·rcases List.mem_append.1 hu with hu | hu
  ·exact hdL_one _ _ _ u hu
  ·obtain⟨z,_,rfl⟩:=List.mem_map.1 hu
   rfl
theorem mk_site{w:World}{b o:Nat}{m:Mrk}(h:w.rangeAt b o (mkV m)):w.cell? ⟨b,o,none⟩=some (.int .i64 m.1):=h 0 _ rfl
theorem mk_hd{w:World}{b o:Nat}{m:Mrk}(h:w.rangeAt b o (mkV m)):w.rangeAt b (o+1) (hdV m.2.1):=fun j v hv=>by
 have:=h (j+1) v (by
  unfold mkV
  rw[List.getElem?_cons_succ,List.getElem?_append_left (List.getElem?_eq_some_iff.1 hv).1]
  exact hv)
 rw[show o+1+j=o+(j+1) from by omega]
 exact this
theorem mk_mac{w:World}{b o:Nat}{m:Mrk}(hl:m.2.1.2.2.length=32)(h:w.rangeAt b o (mkV m)):w.rangeAt b (o+35) (m.2.2.map (Value.int .u8)):=fun j v hv=>by
 have:=h (35+j) v (by
  unfold mkV
  rw[show 35+j=(34+j)+1 from by omega,List.getElem?_cons_succ,List.getElem?_append_right (by rw[hdV_len hl];omega),hdV_len hl,show 34+j-34=j from by omega]
  exact hv)
 rw[show o+35+j=o+(35+j) from by omega]
 exact this
theorem hd_seq{w:World}{b o:Nat}{h:Hd}(hr:w.rangeAt b o (hdV h)):w.cell? ⟨b,o,none⟩=some (.int .i64 h.1):=hr 0 _ rfl
theorem hd_epoch{w:World}{b o:Nat}{h:Hd}(hr:w.rangeAt b o (hdV h)):w.cell? ⟨b,o+1,none⟩=some (.int .i64 h.2.1):=hr 1 _ rfl
theorem hd_chain{w:World}{b o:Nat}{h:Hd}(hr:w.rangeAt b o (hdV h)):w.rangeAt b (o+2) (h.2.2.map (Value.int .u8)):=fun j v hv=>by
 have:=hr (j+2) v hv
 rw[show o+2+j=o+(j+2) from by omega]
 exact this
theorem Tryd.size45:(Tryd.prog.info? 45).map (·.size)=some 67:=by kernel_rfl
theorem Tryd.size27h:(Tryd.prog.info? 27).map (·.size)=some 34:=by kernel_rfl
def headB(h:Hd):Bool:=decide (h=hdZ)||(decide (1<=h.1∧h.1<=1073741824)&&decide (1<=h.2.1∧h.2.1<=1073741824))
def mayM(m:Mrk):Bool:=(decide (m.1=0)||decide (m.1=1))&&headB m.2.1
def e160(b:Bool):Int:=if b then 0 else 160
theorem cwithin_word(n m:Int)(w:World):Calls Tryd.prog 69 #[.int .i64 n,.int .i64 m] w fun e w'=>e= .returned (.bool (decide (1<=n∧n<=m)))∧w'=w:=by
 by_cases h1:1<=n
 ·by_cases h2:n<=m
  ·rw[decide_eq_true (show 1<=n∧n<=m from⟨h1,h2⟩)]
   go_enter Tryd.func69,Tryd.ntmps69
   go_wp2
   go_ret
   exact⟨rfl,rfl⟩
  ·rw[decide_eq_false (show ¬(1<=n∧n<=m) from fun h=>h2 h.2)]
   go_enter Tryd.func69,Tryd.ntmps69
   go_wp2
   go_ret
   exact⟨rfl,rfl⟩
 ·rw[decide_eq_false (show ¬(1<=n∧n<=m) from fun h=>h1 h.1)]
  go_enter Tryd.func69,Tryd.ntmps69
  go_wp2
  go_ret
  exact⟨rfl,rfl⟩
set_option maxHeartbeats 3200000 in
set_option maxRecDepth 100000 in
theorem mayHead_word(h:Hd)(w:World)(hl:h.2.2.length=32):Calls Tryd.prog 51 #[.agg (hdV h).toArray] w fun e w'=>e= .returned (.bool (headB h))∧Below w.heap.size w w':=by
 have HB:=hid (bel_alc w (.cells (hdV h).toArray 27))
 have hbx:=heap_alc w (.cells (hdV h).toArray 27)
 have HR:=hid (blk_range hbx)
 have c0:=hd_seq HR.out
 have c1:=hd_epoch HR.out
 have HLN:=hid (hdV_len hl)
 have hgd:=guard55
 clear hbx
 by_cases hz:h=hdZ
 ·have heq:∀V,(Op.equalIn 10000 27 (.agg (hdV h).toArray) (.agg #[.int .i64 0,.int .i64 0,.int .u8 0,.int .u8 0,.int .u8 0,.int .u8 0,.int .u8 0,.int .u8 0,.int .u8 0,.int .u8 0,.int .u8 0,.int .u8 0,.int .u8 0,.int .u8 0,.int .u8 0,.int .u8 0,.int .u8 0,.int .u8 0,.int .u8 0,.int .u8 0,.int .u8 0,.int .u8 0,.int .u8 0,.int .u8 0,.int .u8 0,.int .u8 0,.int .u8 0,.int .u8 0,.int .u8 0,.int .u8 0,.int .u8 0,.int .u8 0,.int .u8 0,.int .u8 0])).run Tryd.prog V= .ok true V:=fun V=>(eq55 h hdZ hl rfl V).trans (by rw[decide_eq_true hz])
  have HE:Hid (headB h=true):=by show _=_;unfold headB;rw[decide_eq_true hz];rfl
  rw[HE.out]
  clear hz
  go_enter Tryd.func51,Tryd.ntmps51
  go_wp2_with (first | refine wpList_load_g rfl 27 _ rfl w.heap.size 0 rfl (hdV h) _ HR.out Tryd.underlying27 rfl (by rw[HLN.out];exact Tryd.size27h) ?_ | fail)
  go_ret
  exact⟨rfl,HB.out⟩
 ·have heq:∀V,(Op.equalIn 10000 27 (.agg (hdV h).toArray) (.agg #[.int .i64 0,.int .i64 0,.int .u8 0,.int .u8 0,.int .u8 0,.int .u8 0,.int .u8 0,.int .u8 0,.int .u8 0,.int .u8 0,.int .u8 0,.int .u8 0,.int .u8 0,.int .u8 0,.int .u8 0,.int .u8 0,.int .u8 0,.int .u8 0,.int .u8 0,.int .u8 0,.int .u8 0,.int .u8 0,.int .u8 0,.int .u8 0,.int .u8 0,.int .u8 0,.int .u8 0,.int .u8 0,.int .u8 0,.int .u8 0,.int .u8 0,.int .u8 0,.int .u8 0,.int .u8 0])).run Tryd.prog V= .ok false V:=fun V=>(eq55 h hdZ hl rfl V).trans (by rw[decide_eq_false hz])
  have HE:Hid (headB h=(decide (1<=h.1∧h.1<=1073741824)&&decide (1<=h.2.1∧h.2.1<=1073741824))):=by show _=_;unfold headB;rw[decide_eq_false hz];rfl
  rw[HE.out]
  clear hz
  obtain⟨n,hn⟩:∃n,n=h.1:=⟨_,rfl⟩
  obtain⟨k,hk⟩:∃k,k=h.2.1:=⟨_,rfl⟩
  rw[<-hn] at c0
  rw[<-hk] at c1
  rw[<-hn,<-hk]
  have HNN:=hid hn
  have HKK:=hid hk
  clear hn hk
  go_enter Tryd.func51,Tryd.ntmps51
  go_wp2_with (first | refine wpList_load_g rfl 27 _ rfl w.heap.size 0 rfl (hdV h) _ HR.out Tryd.underlying27 rfl (by rw[HLN.out];exact Tryd.size27h) ?_ | fail)
  refine(cwithin_word n 1073741824 _).mono ?_
  rintro _ w0 ⟨rfl,hw⟩
  obtain rfl:=hw.symm
  clear hw
  by_cases h1:1<=n∧n<=1073741824
  ·have H1:=hid h1
   rw[decide_eq_true h1]
   clear h1
   go_wp2_with fail
   refine(cwithin_word k 1073741824 _).mono ?_
   rintro _ w0 ⟨rfl,hw⟩
   obtain rfl:=hw.symm
   clear hw
   by_cases h2:1<=k∧k<=1073741824
   ·have H2:=hid h2
    rw[decide_eq_true h2]
    clear h2
    go_wp2
    go_ret
    exact⟨by rw[decide_eq_true H1.out,decide_eq_true H2.out];rfl,HB.out⟩
   ·have H2:=hid h2
    rw[decide_eq_false h2]
    clear h2
    go_wp2
    go_ret
    exact⟨by rw[decide_eq_true H1.out,decide_eq_false H2.out];rfl,HB.out⟩
  ·have H1:=hid h1
   rw[decide_eq_false h1]
   clear h1
   go_wp2
   go_ret
   exact⟨by rw[decide_eq_false H1.out];rfl,HB.out⟩
set_option maxHeartbeats 3200000 in
set_option maxRecDepth 100000 in
theorem cmay_word(m:Mrk)(w:World)(h:MOk m):Calls Tryd.prog 34 #[.agg (mkV m).toArray] w fun e w'=>e= .returned (.bool (mayM m))∧Below w.heap.size w w':=by
 have HB:=hid (bel_alc w (.cells (mkV m).toArray 45))
 have hbx:=heap_alc w (.cells (mkV m).toArray 45)
 have hr0:=blk_range hbx
 have c0:=mk_site hr0
 have HR:=hid (mk_hd hr0)
 have HLN:=hid (hdV_len h.hd.len)
 have HMH:=hid (fun V=>mayHead_word m.2.1 V h.hd.len)
 clear hbx hr0
 unfold mayM
 obtain⟨s,hs⟩:∃s,s=m.1:=⟨_,rfl⟩
 rw[<-hs] at c0
 rw[<-hs]
 have HSS:=hid hs
 clear hs
 by_cases h0:s=0
 ·subst h0
  go_enter Tryd.func34,Tryd.ntmps34
  go_wp2_with (first | refine wpList_load_g rfl 27 _ rfl w.heap.size 1 rfl (hdV m.2.1) _ HR.out Tryd.underlying27 rfl (by rw[HLN.out];exact Tryd.size27h) ?_ | fail)
  refine(HMH.out _).mono ?_
  rintro _ w1 ⟨rfl,hb⟩
  have HB1:=hid (Bn HB.out hb)
  clear hb
  go_wp2
  go_ret
  exact⟨rfl,HB1.out⟩
 ·by_cases h1:s=1
  ·subst h1
   go_enter Tryd.func34,Tryd.ntmps34
   go_wp2_with (first | refine wpList_load_g rfl 27 _ rfl w.heap.size 1 rfl (hdV m.2.1) _ HR.out Tryd.underlying27 rfl (by rw[HLN.out];exact Tryd.size27h) ?_ | fail)
   refine(HMH.out _).mono ?_
   rintro _ w1 ⟨rfl,hb⟩
   have HB1:=hid (Bn HB.out hb)
   clear hb
   go_wp2
   go_ret
   exact⟨rfl,HB1.out⟩
  ·go_enter Tryd.func34,Tryd.ntmps34
   go_wp2_with (first | refine wpList_load_g rfl 27 _ rfl w.heap.size 1 rfl (hdV m.2.1) _ HR.out Tryd.underlying27 rfl (by rw[HLN.out];exact Tryd.size27h) ?_ | fail)
   go_ret
   exact⟨by rw[decide_eq_false h0,decide_eq_false h1];rfl,HB.out⟩
set_option maxHeartbeats 3200000 in
set_option maxRecDepth 100000 in
theorem ccheck_word(m:Mrk)(w:World)(h:MOk m):Calls Tryd.prog 20 #[.agg (mkV m).toArray] w fun e w'=>e= .returned (.int .i64 (e160 (mayM m)))∧Below w.heap.size w w':=by
 have HB:=hid (bel_alc w (.cells (mkV m).toArray 45))
 have hbx:=heap_alc w (.cells (mkV m).toArray 45)
 have HR:=hid (blk_range hbx)
 have HLN:=hid (mkV_len h)
 have HMH:=hid (fun V=>cmay_word m V h)
 clear hbx
 obtain⟨q,hq⟩:∃q,q=mayM m:=⟨_,rfl⟩
 have HQ:=hid hq
 rw[<-hq]
 clear hq
 cases q
 all_goals
  go_enter Tryd.func20,Tryd.ntmps20
  go_wp2_with (first | refine wpList_load_P rfl 45 _ rfl w.heap.size 0 rfl (mkV m) _ HR.out Tryd.underlying45 rfl (by rw[HLN.out];exact Tryd.size45) ?_ | fail)
  refine(HMH.out _).mono ?_
  rintro _ w1 ⟨rfl,hb⟩
  rw[<-HQ.out]
  have HB1:=hid (Bn HB.out hb)
  clear hb
  go_wp2
  go_ret
  exact⟨rfl,HB1.out⟩
end Go.Proofs.YtplinkmagnihmaaDoor
