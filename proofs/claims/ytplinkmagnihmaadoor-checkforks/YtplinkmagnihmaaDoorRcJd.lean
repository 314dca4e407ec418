/-
  The document's side: a record that is made to follow. The document's side: which records follow, the head behind one. The chain up to a record: record's Chain and the document's. Declarations that later texts of another seat want, out of several. The contract of the document's Sum: the digest of all rows. The document's side: a record's bytes. The document's side: which records may be. The document's side: a file's size, a path.
-/
import Derived.Test.YtplinkmagnihmaaDoorCkJc
import Derived.Test.YtplinkmagnihmaaDoorRcJb
import Derived.Test.YtplinkmagnihmaaDoorShJa
import Derived.Test.YtplinkmagnihmaaDoorRcJc
namespace Go.Proofs.YtplinkmagnihmaaDoor
open Go.ChangeShapes Go.WideShapes Go.ChangeAt Go.RowKit Go.Deep
set_option maxHeartbeats 3200000 in
set_option maxRecDepth 100000 in
theorem dsize_word(a:Option Addr)(cap:Nat)(l:List Pc)(w:World)(hr:Rp w a cap l):
 Calls Tryd.prog 70 #[.slice a l.length cap] w fun e w'=>e= .returned (.tuple #[.int .i64 (sizO l).1,.int .i64 (sizO l).2])∧w'=w:=by
 have hroom:=hr.room
 have hmost:=hr.most
 unfold maxLen at hmost
 have HR:=hid hr
 obtain⟨len,hle⟩:∃n,n=l.length:=⟨_,rfl⟩
 have HL:=hid hle
 rw[<-hle] at hroom|-
 clear hr hle
 by_cases hlong:4096<len
 ·have e1:((4096:Nat):Int)<(len:Int):=by omega
  have HS:Hid (sizO l=(0,130)):=by show _=_;unfold sizO;rw[<-HL.out,if_pos hlong]
  go_enter Tryd.func70,Tryd.ntmps70
  go_wp2
  go_ret2
  exact⟨by rw[HS.out];rfl,rfl⟩
 go_enter Tryd.func70,Tryd.ntmps70
 go_wp2
 go_loop [4,5] (fun x4 x5=>∃k:Nat,k<=len∧x5= .int .i64 (k:Int)∧x4= .int .i64 (sumP (l.take k))∧Hid ((l.take k).all nOk=true)) (fun _ x5=>len-(intOf x5).toNat)
 case atStart=>exact⟨0,by omega,rfl,rfl,rfl⟩
 case round=>
  obtain⟨k,hk,rfl,rfl,HA⟩:=hrel
  have hsb:=sumP_bound _ HA.out
  have htl:(l.take k).length<=4096:=by simp;omega
  by_cases hlt:k<len
  ·have hkz:(k:Int)<(len:Int):=by omega
   obtain⟨b,off,rfl,hbw,hc⟩:=HR.out.cells (by rw[<-HL.out];omega)
   have hrg:=(hc k (by rw[<-HL.out];exact hlt))
   have hok:=HR.out.get (j:=k) (by rw[<-HL.out];exact hlt)
   have HTK:=hid (take_pc l k (by rw[<-HL.out];exact hlt))
   have HNO:=hid (all_false l k (by rw[<-HL.out];exact hlt))
   generalize hx:l.getD k pc0=x at *
   have hcn:w.cell? ⟨b,off+k*33+32,none⟩=some (.int .i64 x.2):=hrg 32 _ (pcC_n hok.len)
   have hwf:=wf_i64 hok.i64
   clear hrg hc hok
   obtain⟨S,hS⟩:∃S,S=sumP (l.take k):=⟨_,rfl⟩
   have HS:=hid hS
   rw[<-hS] at hsb|-
   clear hS
   by_cases hx1:x.2<1
   ·have HX:Hid (nOk x=false):=decide_eq_false (by omega)
    go_wp2
    go_ret2
    refine⟨?_,rfl⟩
    unfold sizO
    rw[<-HL.out,if_neg hlong,HNO.out HX.out]
    rfl
   ·by_cases hx2:4096<x.2
    ·have HX:Hid (nOk x=false):=decide_eq_false (by omega)
     go_wp2
     go_ret2
     refine⟨?_,rfl⟩
     unfold sizO
     rw[<-HL.out,if_neg hlong,HNO.out HX.out]
     rfl
    ·have HX:Hid (nOk x=true):=decide_eq_true (by omega)
     go_wp2
     go_round
     case rel=>exact⟨k+1,by omega,by go_num,by rw[HTK.out,sumP_app,HS.out];simp[sumP],by show _=_;rw[HTK.out,List.all_append,HA.out];simp[HX.out]⟩
     case measure=>simp[intOf];omega
  ·have hkl:k=len:=by omega
   subst hkl
   have HT:Hid (l.take k=l):=List.take_of_length_le (by rw[HL.out];exact Nat.le_refl _)
   rw[HT.out] at hsb HA|-
   obtain⟨S,hS⟩:∃S,S=sumP l:=⟨_,rfl⟩
   have HS:=hid hS
   rw[<-hS] at hsb|-
   clear hS
   by_cases hbig:1048576<S
   ·go_wp2
    go_ret2
    refine⟨?_,rfl⟩
    unfold sizO
    rw[<-HL.out,if_neg hlong,if_pos HA.out,<-HS.out,if_pos (by omega)]
    rfl
   ·go_wp2
    go_ret2
    refine⟨?_,rfl⟩
    unfold sizO
    rw[<-HL.out,if_neg hlong,if_pos HA.out,<-HS.out,if_neg (by omega)]
    rfl
set_option maxHeartbeats 3200000 in
set_option maxRecDepth 100000 in
theorem dpath_word(s:ByteArray)(w:World)(hs:s.size<=maxLen):Calls Tryd.prog 71 #[.string s] w fun e w'=>e= .returned (.bool (pathB s))∧w'=w:=by
 unfold maxLen at hs
 by_cases hx0:(s.size:Int)<1
 ·have HX:Hid (decide (1<=s.size∧s.size<=255)=false):=decide_eq_false (by omega)
  have HP:Hid (pathB s=false):=by show _=_;unfold pathB;rw[HX.out];rfl
  go_enter Tryd.func71,Tryd.ntmps71
  go_wp2
  go_ret
  exact⟨by rw[HP.out];rfl,rfl⟩
 by_cases hx1:255<(s.size:Int)
 ·have HX:Hid (decide (1<=s.size∧s.size<=255)=false):=decide_eq_false (by omega)
  have HP:Hid (pathB s=false):=by show _=_;unfold pathB;rw[HX.out];rfl
  go_enter Tryd.func71,Tryd.ntmps71
  go_wp2
  go_ret
  exact⟨by rw[HP.out];rfl,rfl⟩
 have HX:Hid (decide (1<=s.size∧s.size<=255)=true):=decide_eq_true (by omega)
 have e0:decide ((s.size:Int)<1)=false:=decide_eq_false hx0
 have e1:decide (255<(s.size:Int))=false:=decide_eq_false hx1
 have e2:decide (255<s.size)=false:=decide_eq_false (by omega)
 go_enter Tryd.func71,Tryd.ntmps71
 go_wp2
 go_loop [3] (fun x=>∃k:Nat,k<=s.size∧x= .int .i64 (k:Int)∧Hid ((s.data.toList.take k).all chr8=true)) (fun x=>s.size-(intOf x).toNat)
 case atStart=>exact⟨0,by omega,rfl,rfl⟩
 case round=>
  obtain⟨k,hk,rfl,HA⟩:=hrel
  by_cases hlt:k<s.size
  ·have hkz:(k:Int)<(s.size:Int):=by omega
   have HTK:=hid (str_take s k hlt)
   by_cases h33:(33:Int)<=(s[k].toNat:Int)
   ·by_cases h126:(s[k].toNat:Int)<=126
    ·have HC:Hid (chr8 s[k]=true):=decide_eq_true (by omega)
     go_wp2
     go_round
     case rel=>exact⟨k+1,by omega,by go_num,by show _=_;rw[HTK.out,List.all_append,HA.out];simp[HC.out]⟩
     case measure=>simp[intOf];omega
    ·have HC:Hid (chr8 s[k]=false):=decide_eq_false (by omega)
     go_wp2
     go_ret
     exact⟨(path_no s k hlt HC.out) ▸ rfl,rfl⟩
   ·have HC:Hid (chr8 s[k]=false):=decide_eq_false (by omega)
    go_wp2
    go_ret
    exact⟨(path_no s k hlt HC.out) ▸ rfl,rfl⟩
  ·have hkl:k=s.size:=by omega
   have HP:Hid (pathB s=true):=by
    show _=_
    have:=HA.out
    rw[List.take_of_length_le (by show s.size<=k;omega)] at this
    unfold pathB
    rw[HX.out,this]
    rfl
   go_wp2
   go_ret
   exact⟨HP.out ▸ rfl,rfl⟩
end Go.Proofs.YtplinkmagnihmaaDoor
namespace Go.Proofs.YtplinkmagnihmaaDoor
open Go.ChangeShapes Go.WideShapes Go.ChangeAt Go.RowKit Go.Deep
set_option maxHeartbeats 3200000 in
set_option maxRecDepth 100000 in
theorem dcheck_word(r:Rec)(w:World)(h:Rv w r):Calls Tryd.prog 52 #[.agg r.cs.toArray] w fun e w'=>e= .returned (.int .i64 (e130 (mayB r)))∧Below w.heap.size w w':=by
 have hb:=hid (bel_alc w (.cells r.cs.toArray 58))
 have B0:=Bx.mk' w r h.len
 have c0:=B0.c0
 have c1:=B0.c1
 have c34:=B0.c34
 have c35:=B0.c35
 have c36:=B0.c36
 have c37:=B0.c37
 have hroom:=h.row.room
 have hmost:=h.row.most
 unfold maxLen at hmost
 have HSZ:=hid (dsize_word r.a r.cap r.ps _ (h.row.later hb.out))
 have HPT:=hid (fun V=>dpath_word r.path V h.path)
 have hor:=siz_or r.ps
 have hpn:r.path=ByteArray.empty↔r.path.size=0:=⟨fun e=>by rw[e];rfl,ba_nil _⟩
 have hz0:r.ps.length=0->(sizO r.ps).2=0:=fun e=>by rw[List.length_eq_zero_iff.1 e];rfl
 have HM:Hid (mayB r=(decide (1<=r.seq∧r.seq<=1073741824)&&decide (1<=r.epoch∧r.epoch<=1073741824)&&(if r.kind=1 then decide (r.site=0∨r.site=1)&&decide (r.path.size=0)&&decide (r.ps.length=0)
  else if r.kind=3 then decide (r.ps.length=0)&&(decide (r.site=0)&&pathB r.path&&decide ((sizO r.ps).2=0))
  else if r.kind=2 then decide (r.site=0)&&pathB r.path&&decide ((sizO r.ps).2=0)
  else false))):=rfl
 clear B0 h
 generalize r.cs.toArray=H at *
 generalize mayB r=MB at *
 generalize (sizO r.ps).1=E1 at *
 generalize (sizO r.ps).2=E2 at *
 generalize pathB r.path=PB at *
 generalize r.ps.length=L at *
 generalize r.site=si at *
 generalize r.path=pa at *
 generalize r.seq=sq at *
 generalize r.epoch=ep at *
 generalize r.kind=ki at *
 by_cases s1:sq<1
 ·have HE:Hid (MB=false):=by show _=_;rw[HM.out,decide_eq_false (show ¬(1<=sq∧sq<=1073741824) by omega)];rfl
  go_enter Tryd.func52,Tryd.ntmps52
  go_wp2
  go_ret
  exact⟨by rw[HE.out];rfl,hb.out⟩
 by_cases s2:1073741824<sq
 ·have HE:Hid (MB=false):=by show _=_;rw[HM.out,decide_eq_false (show ¬(1<=sq∧sq<=1073741824) by omega)];rfl
  go_enter Tryd.func52,Tryd.ntmps52
  go_wp2
  go_ret
  exact⟨by rw[HE.out];rfl,hb.out⟩
 by_cases s3:ep<1
 ·have HE:Hid (MB=false):=by show _=_;rw[HM.out,decide_eq_false (show ¬(1<=ep∧ep<=1073741824) by omega)];simp
  go_enter Tryd.func52,Tryd.ntmps52
  go_wp2
  go_ret
  exact⟨by rw[HE.out];rfl,hb.out⟩
 by_cases s4:1073741824<ep
 ·have HE:Hid (MB=false):=by show _=_;rw[HM.out,decide_eq_false (show ¬(1<=ep∧ep<=1073741824) by omega)];simp
  go_enter Tryd.func52,Tryd.ntmps52
  go_wp2
  go_ret
  exact⟨by rw[HE.out];rfl,hb.out⟩
 rw[decide_eq_true (show 1<=sq∧sq<=1073741824 by omega),decide_eq_true (show 1<=ep∧ep<=1073741824 by omega)] at HM
 simp only[Bool.true_and,Bool.and_self] at HM
 go_enter Tryd.func52,Tryd.ntmps52
 go_wp2_with fail
 refine HSZ.out.mono ?_
 rintro _ w0 ⟨rfl,hw⟩
 obtain rfl:=hw.symm
 clear hw HSZ
 by_cases k1:ki=1
 ·subst k1
  rw[if_pos rfl] at HM
  clear HPT
  by_cases hp:pa=ByteArray.empty
  ·rw[decide_eq_true (hpn.1 hp)] at HM
   subst hp
   clear hpn hz0 hor
   by_cases hl:L=0
   ·rw[decide_eq_true hl] at HM
    subst hl
    by_cases hs:si=0
    ·subst hs
     have HE:Hid (MB=true):=HM.out
     go_wp2
     go_ret
     exact⟨by rw[HE.out];rfl,hb.out⟩
    ·by_cases hs1:si=1
     ·subst hs1
      have HE:Hid (MB=true):=HM.out
      go_wp2
      go_ret
      exact⟨by rw[HE.out];rfl,hb.out⟩
     ·have HE:Hid (MB=false):=by show _=_;rw[HM.out,decide_eq_false (show ¬(si=0∨si=1) by omega)];rfl
      go_wp2
      go_ret
      exact⟨by rw[HE.out];rfl,hb.out⟩
   ·have HE:Hid (MB=false):=by show _=_;rw[HM.out,decide_eq_false hl];simp
    have hl2:((L:Int)==0)=false:=by rw[beq_eq_false_iff_ne];omega
    by_cases hs:si=0
    ·subst hs
     go_wp2
     go_ret
     exact⟨by rw[HE.out];rfl,hb.out⟩
    ·by_cases hs1:si=1
     ·subst hs1
      go_wp2
      go_ret
      exact⟨by rw[HE.out];rfl,hb.out⟩
     ·go_wp2
      go_ret
      exact⟨by rw[HE.out];rfl,hb.out⟩
  ·have HE:Hid (MB=false):=by show _=_;rw[HM.out,decide_eq_false (fun e=>hp (hpn.2 e))];simp
   have hpe:=ba_some pa hp
   clear hpn hz0 hor
   by_cases hs:si=0
   ·subst hs
    go_wp2
    go_ret
    exact⟨by rw[HE.out];rfl,hb.out⟩
   ·by_cases hs1:si=1
    ·subst hs1
     go_wp2
     go_ret
     exact⟨by rw[HE.out];rfl,hb.out⟩
    ·go_wp2
     go_ret
     exact⟨by rw[HE.out];rfl,hb.out⟩
 ·rw[if_neg k1] at HM
  clear hpn
  by_cases k2:ki=2
  ·subst k2
   rw[if_neg (by decide),if_pos rfl] at HM
   by_cases hs:si=0
   ·subst hs
    go_wp2_with fail
    refine(HPT.out _).mono ?_
    rintro _ w0 ⟨rfl,hw⟩
    obtain rfl:=hw.symm
    clear hw HPT
    cases PB with
    | false=>
      have HE:Hid (MB=false):=by show _=_;rw[HM.out];simp
      go_wp2
      go_ret
      exact⟨by rw[HE.out];rfl,hb.out⟩
    | true=>
      clear hz0
      rcases hor with ho | ho
      ·subst ho
       have HE:Hid (MB=true):=HM.out
       go_wp2
       go_ret
       exact⟨by rw[HE.out];rfl,hb.out⟩
      ·subst ho
       have HE:Hid (MB=false):=HM.out
       go_wp2
       go_ret
       exact⟨by rw[HE.out];rfl,hb.out⟩
   ·have HE:Hid (MB=false):=by show _=_;rw[HM.out,decide_eq_false hs];simp
    clear HPT
    go_wp2
    go_ret
    exact⟨by rw[HE.out];rfl,hb.out⟩
  ·by_cases k3:ki=3
   ·subst k3
    rw[if_pos rfl] at HM
    by_cases hs:si=0
    ·subst hs
     go_wp2_with fail
     refine(HPT.out _).mono ?_
     rintro _ w0 ⟨rfl,hw⟩
     obtain rfl:=hw.symm
     clear hw HPT
     cases PB with
     | false=>
       have HE:Hid (MB=false):=by show _=_;rw[HM.out];simp
       go_wp2
       go_ret
       exact⟨by rw[HE.out];rfl,hb.out⟩
     | true=>
       by_cases hl:L=0
       ·have hE2:=hz0 hl
        subst hl hE2
        have HE:Hid (MB=true):=HM.out
        go_wp2
        go_ret
        exact⟨by rw[HE.out];rfl,hb.out⟩
       ·have HE:Hid (MB=false):=by show _=_;rw[HM.out,decide_eq_false hl];rfl
        have hl2:((L:Int)==0)=false:=by rw[beq_eq_false_iff_ne];omega
        go_wp2
        go_ret
        exact⟨by rw[HE.out];rfl,hb.out⟩
    ·have HE:Hid (MB=false):=by show _=_;rw[HM.out,decide_eq_false hs];simp
     clear HPT
     go_wp2
     go_ret
     exact⟨by rw[HE.out];rfl,hb.out⟩
   ·rw[if_neg k3,if_neg k2] at HM
    have HE:Hid (MB=false):=HM.out
    clear HPT
    go_wp2
    go_ret
    exact⟨by rw[HE.out];rfl,hb.out⟩
end Go.Proofs.YtplinkmagnihmaaDoor
namespace Go.Proofs.YtplinkmagnihmaaDoor
open Go.ChangeShapes Go.WideShapes Go.ChangeAt Go.RowKit Go.Deep Go.Lib
theorem Wr.begin(w W:World)(r:Rec)(x y:Int)(h:Bx W w.heap.size r)(hb:Below w.heap.size w W):Wr w (W.alloc (.cells #[.int .u8 x,.int .u8 y] 5)) r (.slice (some ⟨W.heap.size,0,none⟩) 2 2) [x,y]:=
 ⟨⟨rfl,.inr ⟨W.heap.size,2,#[.int .u8 x,.int .u8 y],rfl,h.lt,heap_alc W _,Nat.le_refl _,by unfold maxLen;omega,rfl,rfl⟩⟩,h.later (bel_alc _ _),Bn hb (bel_alc _ _),by simp⟩
structure Wq (w W:World) (r:Rec) (v:Value) (A:List Int):Prop where
 own:W.ownsRow (w.heap.size+1) 5 1 v A.length (A.map (Value.int .u8))
 box:Bx W w.heap.size r
 bel:Below w.heap.size w W
theorem Wr.q{w W:World}{r:Rec}{v:Value}{A:List Int}(h:Wr w W r v A):Wq w W r v A:=⟨h.own,h.box,h.bel⟩
theorem Wq.ge{w W:World}{r:Rec}{v:Value}{A:List Int}(h:Wq w W r v A):w.heap.size+1<=W.heap.size:=h.box.lt
theorem Wq.later{w W W':World}{r:Rec}{v:Value}{A:List Int}(h:Wq w W r v A)(hb:Below W.heap.size W W'):Wq w W' r v A:=⟨own_later h.own hb,h.box.later hb,Bn h.bel hb⟩
theorem Wq.app{w W W':World}{r:Rec}{v v':Value}{A Z:List Int}(h:Wq w W r v A)(ho:W'.ownsRow (w.heap.size+1) 5 1 v' (A++Z).length ((A++Z).map (Value.int .u8)))(hb:Below (w.heap.size+1) W W'):Wq w W' r v' (A++Z):=
 ⟨ho,⟨(hb.block _ (Nat.lt_succ_self _)).trans h.box.blk,h.box.len⟩,h.bel.trans (hb.mono (Nat.le_succ _))⟩
def BytQ(b:Bool)(w w':World)(v:Value)(l:List Int):Prop:=(b=false∧v= .slice none 0 0)∨(b=true∧w'.ownsRow w.heap.size 5 1 v l.length (l.map (Value.int .u8)))
set_option maxHeartbeats 6400000 in
set_option maxRecDepth 100000 in
theorem dbytes_word(r:Rec)(w:World)(h:Rv w r):
 Calls Tryd.prog 36 #[.agg r.cs.toArray] w fun e w'=>∃v,e= .returned (.tuple #[v,.int .i64 (e130 (mayB r))])∧Below w.heap.size w w'∧BytQ (mayB r) w w' v (wrB r):=by
 have hb:=hid (bel_alc w (.cells r.cs.toArray 58))
 have HBX:=hid (Bx.mk' w r h.len)
 have HLD:=hid HBX.out.range
 have HLL:=hid (Rec.cs_len h.len)
 have HCK:=hid (dcheck_word r _ (h.later hb.out))
 have HVV:=hid h
 have HMP:Hid (mayB r=true->((1<=r.seq∧r.seq<=1073741824)∧1<=r.epoch∧r.epoch<=1073741824)∧kindB r=true):=fun hm=>by
  unfold mayB at hm
  simpa [and_assoc] using hm
 clear h
 generalize mayB r=MB at *
 go_enter Tryd.func36,Tryd.ntmps36
 go_wp2_with (first | refine wpList_load_g rfl 58 _ rfl w.heap.size 0 rfl r.cs _ HLD.out Tryd.underlying58 rfl (by rw[HLL.out];exact Tryd.size58) ?_ | fail)
 refine HCK.out.mono ?_
 rintro _ W00 ⟨rfl,hb2⟩
 have HB2:=hid (Bn hb.out hb2)
 have HX2:=hid (HBX.out.later hb2)
 clear hb2 HCK HLD HBX
 cases MB with
 | false=>
   go_wp2
   go_ret2
   exact⟨_,rfl,HB2.out,.inl ⟨rfl,rfl⟩⟩
 | true=>
 obtain⟨⟨hsq,hep⟩,hkb⟩:=HMP.out rfl
 have hki:r.kind=1∨r.kind=2∨r.kind=3:=by
  unfold kindB at hkb
  split at hkb
  ·exact .inl ‹_›
  ·split at hkb
   ·exact .inr (.inr ‹_›)
   ·split at hkb
    ·exact .inr (.inl ‹_›)
    ·cases hkb
 have hk0:1<=r.kind:=by omega
 have hk1:r.kind<=3:=by omega
 have H0:=hid (Wr.begin w W00 r 82 r.kind HX2.out HB2.out)
 have c34:=HX2.out.c34
 have c0:=H0.out.box.c0
 have HV1:=hid (fun V=>varr_ri r.seq V (by omega) (by omega))
 have HV2:=hid (fun V=>varr_ri r.epoch V (by omega) (by omega))
 have HKB:=hid hkb
 have hsq1:=hsq.1
 have hsq2:=hsq.2
 have hep1:=hep.1
 have hep2:=hep.2
 clear hsq hep hkb HMP HX2 HB2
 have HL1:=hid (vint10 r.seq)
 have HL2:=hid (vint10 r.epoch)
 go_wp2_with fail
 refine(HV1.out _).mono ?_
 rintro _ W1 ⟨a1,c1,rfl,hr1,hb1⟩
 have H1:=hid (H0.out.later hb1)
 have R1:=hid hr1
 clear hr1 hb1 H0 HV1 c0 c34
 go_wp2_with (at_builtin;refine own_app _ rfl _ _ rfl (w.heap.size+1) _ [82,r.kind] rfl H1.out.own a1 c1 (vint r.seq) rfl R1.out (by have:=HL1.out;simp;omega) H1.out.ge ?_)
 intro v2 W2 ho2 hb2
 have H2:=hid (H1.out.app (Z:=vint r.seq) (by simpa using ho2) hb2 (by have:=HL1.out;simp;omega))
 have c1:=H2.out.box.c1
 clear ho2 hb2 H1 R1
 generalize hA2: [82,r.kind]++vint r.seq=A2 at *
 have HA2:=hid hA2
 have HN2:Hid (A2.length<=12):=by show _<=_;rw[<-hA2];have:=HL1.out;simp;omega
 clear hA2
 go_wp2_with fail
 refine(HV2.out _).mono ?_
 rintro _ W3 ⟨a3,c3,rfl,hr3,hb3⟩
 have H3:=hid (H2.out.later hb3)
 have R3:=hid hr3
 clear hr3 hb3 H2 HV2 c1
 go_wp2_with (at_builtin;refine own_app _ rfl _ _ rfl (w.heap.size+1) _ A2 rfl H3.out.own a3 c3 (vint r.epoch) rfl R3.out (by have:=HL2.out;have:=HN2.out;omega) H3.out.ge ?_)
 intro v4 W4 ho4 hb4
 have H4:=hid (H3.out.app (Z:=vint r.epoch) (by simpa using ho4) hb4 (by have:=HL2.out;have:=HN2.out;simp;omega))
 have R4:=hid (H4.out.box.ri HVV.out.u8)
 have HPL:=hid HVV.out.len
 clear ho4 hb4 H3 R3
 generalize hA4:A2++vint r.epoch=A4 at *
 have HA4:=hid hA4
 have HN4:Hid (A4.length<=22):=by show _<=_;rw[<-hA4];have:=HL2.out;have:=HN2.out;simp;omega
 clear hA4
 go_wp2_with (at_builtin;refine own_app _ rfl _ _ rfl (w.heap.size+1) _ A4 rfl H4.out.own (some ⟨w.heap.size,2,none⟩) 32 r.prev (by rw[HPL.out];rfl) R4.out (by have:=HPL.out;have:=HN4.out;omega) H4.out.ge ?_)
 intro v5 W5 ho5 hb5
 have H5:=hid (H4.out.app (Z:=r.prev) (by simpa using ho5) hb5 (by have:=HPL.out;have:=HN4.out;simp;omega))
 clear ho5 hb5 H4 R4
 have HA5:Hid (A4++r.prev=wrH r):=by show _=_;rw[<-HA4.out,<-HA2.out];rfl
 have HN5:Hid ((wrH r).length<=54):=by show _<=_;rw[<-HA5.out];have:=HPL.out;have:=HN4.out;simp;omega
 rw[HA5.out] at H5
 clear HA5 HA4 HA2 HN4 HN2 HL1 HL2
 have c34:=H5.out.box.c34
 have c35:=H5.out.box.c35
 have c36:=H5.out.box.c36
 have hmost:r.path.size<=9223372036854775807:=by have:=HVV.out.path;unfold maxLen at this;omega
 by_cases h1:r.kind=1
 ·have HKL:Hid (wrB r=wrH r++ [r.site]):=by show _=_;unfold wrB;rw[if_pos h1]
  have hst:0<=r.site∧r.site<=1:=by
   have:=HKB.out
   unfold kindB at this
   rw[if_pos h1] at this
   simp only[Bool.and_eq_true,decide_eq_true_eq] at this
   omega
  have hst0:=hst.1
  have hst1:=hst.2
  rw[h1] at c34
  have H6:=hid (H5.out.later (bel_alc W5 (.cells #[.int .u8 r.site] 5)))
  have R6:=hid (ri_one W5 r.site (by omega))
  clear hst h1
  go_wp2_with (at_builtin;refine own_app _ rfl _ _ rfl (w.heap.size+1) _ (wrH r) rfl H6.out.own (some ⟨W5.heap.size,0,none⟩) 1 [r.site] rfl R6.out (by have:=HN5.out;simp;omega) H6.out.ge ?_)
  intro v7 W7 ho7 hb7
  have H7:=hid (H6.out.app (Z:= [r.site]) (by simpa using ho7) hb7 (by have:=HN5.out;simp;omega))
  clear ho7 hb7
  go_wp2
  go_ret2
  exact⟨_,rfl,H7.out.bel,.inr ⟨rfl,by rw[HKL.out];exact own_base H7.out.own (Nat.le_succ _)⟩⟩
 ·have hpb:pathB r.path=true∧(r.kind=2->(sizO r.ps).2=0):=by
   have:=HKB.out
   unfold kindB at this
   rw[if_neg h1] at this
   rcases hki with q | q | q
   ·exact absurd q h1
   ·rw[q] at this;simp at this;exact⟨this.1.2,fun _=>this.2⟩
   ·rw[q] at this;simp at this;exact⟨this.2.1.2,fun e=>by omega⟩
  have hpz:r.path.size<=255:=by
   have:=hpb.1
   unfold pathB at this
   simp only[Bool.and_eq_true,decide_eq_true_eq] at this
   omega
  have H6:=hid (H5.out.later (bel_alc W5 (.cells #[.int .u8 (r.path.size:Int)] 5)))
  have R6:=hid (ri_one W5 (r.path.size:Int) (by omega))
  have HPB:=hid hpb
  clear hpb
  go_wp2_with (at_builtin;refine own_app _ rfl _ _ rfl (w.heap.size+1) _ (wrH r) rfl H6.out.own (some ⟨W5.heap.size,0,none⟩) 1 [(r.path.size:Int)] rfl R6.out (by have:=HN5.out;simp;omega) H6.out.ge ?_)
  intro v7 W7 ho7 hb7
  have H7:=hid (H6.out.app (Z:= [(r.path.size:Int)]) (by simpa using ho7) hb7 (by have:=HN5.out;simp;omega))
  clear ho7 hb7 H6 R6 H5 c34 c35 c36
  have c36:=H7.out.box.c36
  generalize hA7:wrH r++ [(r.path.size:Int)]=A7 at *
  have HA7:=hid hA7
  have HN7:Hid (A7.length<=55):=by show _<=_;rw[<-hA7];have:=HN5.out;simp;omega
  clear hA7
  obtain⟨i0,hi,hz0,hz1,hz2⟩:=info_parts Tryd.info5W
  go_wp2_with (at_builtin;refine wpList_append_own_string _ rfl _ _ 22 9 rfl (w.heap.size+1) 5 i0 Tryd.underlying22 Tryd.underlying9 hi hz0 hz1 hz2 _ A7.length (A7.map (Value.int .u8)) rfl H7.out.own r.path rfl (by have:=HN7.out;unfold maxLen;omega) (by have:=HN7.out;omega) H7.out.ge ?_)
  intro v8 W8 ho8 hg8 _
  have hb8:Below (w.heap.size+1) W7 W8:=(Below.refl _ W7).grown hg8 H7.out.ge (fun j hj=>(H7.out.own.lt j hj).1)
  have ho8':W8.ownsRow (w.heap.size+1) 5 1 v8 (A7++pathL r.path).length ((A7++pathL r.path).map (Value.int .u8)):=by
   rw[pathL_cells] at ho8
   rw[List.length_append,pathL_len,List.map_append]
   exact ho8
  have H8:=hid (H7.out.app (Z:=pathL r.path) ho8' hb8 (by have:=HN7.out;rw[List.length_append,pathL_len];omega))
  have HN8:Hid ((A7++pathL r.path).length<=310):=by show _<=_;have:=HN7.out;rw[List.length_append,pathL_len];omega
  clear ho8 ho8' hg8 hb8 H7 c36
  have c34:=H8.out.box.c34
  have c37:=H8.out.box.c37
  by_cases h2:r.kind=2
  ·have HKL:Hid (wrB r=(A7++pathL r.path)++pcsB r.ps):=by show _=_;unfold wrB;rw[if_neg h1,if_pos h2,HA7.out]
   have hsz:=HPB.out.2 h2
   have hsz2:r.ps.length<=4096∧r.ps.all nOk=true:=by
    unfold sizO at hsz
    split at hsz
    ·cases hsz
    ·split at hsz
     ·exact⟨by omega, ‹_›⟩
     ·cases hsz
   rw[h2] at c34
   have HOK:=hid hsz2.2
   have hln:=hsz2.1
   have hro:=HVV.out.row.room
   have hmo:=HVV.out.row.most
   unfold maxLen at hmo
   have HVL:=hid (fun V=>varr_ri (r.ps.length:Int) V (by omega) (by omega))
   have HL9:=hid (vint10 (r.ps.length:Int))
   have HQ8:=hid H8.out.q
   obtain⟨len,hle⟩:∃n,n=r.ps.length:=⟨_,rfl⟩
   have HLE:=hid hle
   rw[<-hle] at c37 hln hro HVL HL9
   clear hsz hsz2 h1 h2 hle H8
   generalize hA8:A7++pathL r.path=A8 at *
   go_wp2_with fail
   refine(HVL.out _).mono ?_
   rintro _ W9 ⟨a9,c9,rfl,hr9,hb9⟩
   have H9:=hid (HQ8.out.later hb9)
   have R9:=hid hr9
   clear hr9 hb9 HQ8 HVL c34 c37
   go_wp2_with (at_builtin;refine own_app _ rfl _ _ rfl (w.heap.size+1) _ A8 rfl H9.out.own a9 c9 (vint (len:Int)) rfl R9.out (by have:=HL9.out;have:=HN8.out;omega) H9.out.ge ?_)
   intro v10 W10 ho10 hb10
   have H10:=hid (H9.out.app (Z:=vint (len:Int)) (by simpa using ho10) hb10)
   clear ho10 hb10 H9 R9
   go_wp2
   go_loopw [5,6] (fun x5 x6 wr=>∃k:Nat,k<=len∧x6= .int .i64 (k:Int)∧Hid (Wq w wr r x5 (A8++vint (len:Int)++(r.ps.take k).flatMap pcB))) (fun _ x6 _=>len-(RowKit.intOf x6).toNat)
   case atStart=>exact⟨0,by omega,rfl,by show Wq _ _ _ _ _;simpa using H10.out⟩
   case round=>
    obtain⟨k,hk,rfl,HQ⟩:=hrel
    clear H10
    have c37:=HQ.out.box.c37
    rw[<-HLE.out] at c37
    by_cases hlt:k<len
    ·have hkz:(k:Int)<(len:Int):=by omega
     have HRW:=hid (HVV.out.row.later HQ.out.bel)
     obtain⟨b,off,hra,hbw,hc⟩:=HRW.out.cells (by rw[<-HLE.out];omega)
     have hrg:=(hc k (by rw[<-HLE.out];exact hlt))
     have hok:=HRW.out.get (j:=k) (by rw[<-HLE.out];exact hlt)
     have hnk:nOk (r.ps.getD k pc0)=true:=List.all_eq_true.1 HOK.out _ (by simp[List.getD,List.getElem?_eq_getElem (show k<r.ps.length by rw[<-HLE.out];exact hlt)])
     have HTK:=hid (take_pc r.ps k (by rw[<-HLE.out];exact hlt))
     have HFL:Hid ((A8++vint (len:Int)++(r.ps.take k).flatMap pcB).length<=180000):=by
      show _<=_
      have h1:=HL9.out
      have h0:=HN8.out
      have h2:=flat_len (r.ps.take k) (fun x hx=>(HRW.out.fits x (List.mem_of_mem_take hx)).len)
      have h3:(r.ps.take k).length<=4096:=by simp;omega
      rw[List.length_append,List.length_append]
      omega
     generalize r.ps.getD k pc0=x at *
     have hxr:=of_decide_eq_true hnk
     have hx1:=hxr.1
     have hx2:=hxr.2
     have hcn:wr.cell? ⟨b,off+k*33+32,none⟩=some (.int .i64 x.2):=hrg 32 _ (pcC_n hok.len)
     have HDR:Hid (Ri wr .u8 (some ⟨b,off+k*33,none⟩) 32 x.1):=
      ⟨by rw[hok.len];omega,by unfold maxLen;omega,fun _=>⟨b,off+k*33,rfl,hbw,fun j hj=>by
       rw[hok.len] at hj
       exact hrg j _ (pcC_d hok.len j hj)⟩,hok.u8⟩
     have HXL:=hid hok.len
     have HV:=hid (fun V=>varr_ri x.2 V (by omega) (by omega))
     have HVL:=hid (vint10 x.2)
     rw[hra] at c37
     have HRA:=hid hra
     generalize hAA:A8++vint (len:Int)++(r.ps.take k).flatMap pcB=AA at *
     have HAA:=hid hAA
     have HBB:Hid (b<w.heap.size):=by
      obtain⟨b',off',ha',hb',_⟩:=HVV.out.row.cells (by rw[<-HLE.out];omega)
      rw[hra] at ha'
      injection ha' with ha'
      injection ha' with q1 q2
      show b<_
      omega
     clear hrg hc hok hxr hnk hAA HRW hra
     go_wp2_with fail
     refine(HV.out _).mono ?_
     rintro _ W1 ⟨a1,c1,rfl,hr1,hb1⟩
     have H1:=hid (HQ.out.later hb1)
     have R1:=hid hr1
     have D1:=hid (HDR.out.later hb1)
     clear hr1 hb1 HV HDR HQ hcn c37
     go_wp2_with (at_builtin;refine own_app _ rfl _ _ rfl (w.heap.size+1) _ AA rfl H1.out.own a1 c1 (vint x.2) rfl R1.out (by have:=HFL.out;have:=HVL.out;omega) H1.out.ge ?_)
     intro v2 W2 ho2 hb2
     have H2:=hid (H1.out.app (Z:=vint x.2) (by simpa using ho2) hb2)
     have D2:Hid (Ri W2 .u8 (some ⟨b,off+k*33,none⟩) 32 x.1):=⟨D1.out.room,D1.out.most,fun h0=>by
      obtain⟨b',off',e',_,hc'⟩:=D1.out.cells h0
      injection e' with e'
      injection e' with q1 q2
      subst q1 q2
      refine⟨_,_,rfl,Nat.lt_of_lt_of_le HBB.out (Nat.le_trans (Nat.le_succ _) H2.out.ge),fun j hj=>?_⟩
      rw[hb2.cell (p:=⟨b,off+k*33+j,none⟩) (by have:=HBB.out;show b<_;omega)]
      exact hc' j hj,D1.out.fits⟩
     have d37:=H2.out.box.c37
     rw[<-HLE.out,HRA.out] at d37
     clear ho2 hb2 H1 R1 D1
     go_wp2_with (at_builtin;refine own_app _ rfl _ _ rfl (w.heap.size+1) _ (AA++vint x.2) rfl H2.out.own _ 32 x.1 (by rw[HXL.out];rfl) D2.out (by have:=HFL.out;have:=HVL.out;have:=HXL.out;rw[List.length_append];omega) H2.out.ge ?_)
     intro v3 W3 ho3 hb3
     have H3:=hid (H2.out.app (Z:=x.1) (by simpa using ho3) hb3)
     clear ho3 hb3 H2 D2 d37
     go_wp2
     go_round
     case rel=>exact⟨k+1,by omega,by go_num,by show Wq _ _ _ _ _;rw[HTK.out,List.flatMap_append,<-List.append_assoc,HAA.out];simpa [pcB] using H3.out⟩
     case measure=>simp[RowKit.intOf];omega
    ·have hkl:k=len:=by omega
     have hkz:¬(k:Int)<(len:Int):=by omega
     have HT:Hid (r.ps.take k=r.ps):=List.take_of_length_le (by rw[<-HLE.out];omega)
     have HF:Hid (A8++vint (len:Int)++(r.ps.take k).flatMap pcB=wrB r):=by
      show _=_
      rw[HT.out,HKL.out,List.append_assoc]
      unfold pcsB
      rw[HLE.out]
     rw[HF.out] at HQ
     go_wp2
     go_ret2
     exact⟨_,rfl,HQ.out.bel,.inr ⟨rfl,own_base HQ.out.own (Nat.le_succ _)⟩⟩
  ·have HKL:Hid (wrB r=A7++pathL r.path):=by show _=_;unfold wrB;rw[if_neg h1,if_neg h2,HA7.out]
   have h3:r.kind=3:=by omega
   rw[h3] at c34
   clear h1 h2 h3 c37
   go_wp2
   go_ret2
   exact⟨_,rfl,H8.out.bel,.inr ⟨rfl,by rw[HKL.out];exact own_base H8.out.own (Nat.le_succ _)⟩⟩
end Go.Proofs.YtplinkmagnihmaaDoor
namespace Go.Proofs.YtplinkmagnihmaaDoor.Sh
open Go.RowKit Sha

set_option maxHeartbeats 3200000 in
set_option maxRecDepth 100000 in
theorem sum_ref (a : Option Addr) (cap : Nat) (l : List (List Nat)) (w : World) (hr : Ps w a cap l) (hbd : l.flatten.length ≤ 500000) :
    Calls Tryd.prog 54 #[.slice a l.length cap] w fun e w' => e = .returned (.agg (arr .u8 (digest l.flatten))) ∧ Below w.heap.size w w' := by
  have hroom := hr.room
  have hmost := hr.most
  unfold maxLen at hmost
  have HPS := hid hr
  have HFT := hid (flat_take l)
  have HFL := hid (flat_le l)
  have HTK : Hid (l.take l.length = l) := List.take_length
  clear hr
  generalize hnl : l.length = n at *
  have HNL := hid hnl
  clear hnl
  have b0 := bel_alloc w (.cells (arr .u8 z32) 24)
  have hres0 := heap_new w (.cells (arr .u8 z32) 24)
  have hsz0 : (w.alloc (.cells (arr .u8 z32) 24)).heap.size = w.heap.size + 1 := by simp
  go_enter Tryd.func54, Tryd.ntmps54
  go_wp2_with (refine wpList_alloc_at rfl 24 rfl (some 2) rfl (arr .u8 z32) Tryd.zero24 w.heap.size rfl ?_)
  generalize w.alloc (.cells (arr .u8 z32) 24) = w1 at *
  go_loopw [3, 4] (fun v i wr => ∃ k : Nat, k ≤ n ∧ i = .int .i64 k ∧ wr.ownsRow (w.heap.size + 1) 5 1 v (l.take k).flatten.length (V (l.take k).flatten) ∧ Below (w.heap.size + 1) w1 wr) (fun _ i _ => n - (intOf i).toNat)
  case atStart => exact ⟨0, by omega, rfl, World.ownsRow_nil _ _ _ _, Below.refl _ _⟩
  case round =>
    obtain ⟨k, hk, rfl, hown, hbel⟩ := hrel
    have hbw : Below w.heap.size w wr := b0.trans (hbel.mono (by omega))
    by_cases hlt : k < n
    · have hkn : (k : Int) < (n : Int) := by omega
      have HF := hid (HFT.out k hlt)
      have hle := HFL.out (k + 1)
      rw [HF.out, List.length_append] at hle
      obtain ⟨bb, off, rfl, hbb, hc⟩ := HPS.out.cells (by have := HNL.out; omega)
      obtain ⟨v, a', cap', hck, hrd⟩ := hc k (by have := HNL.out; omega)
      have hv := hrd.val
      subst hv
      have hck' : wr.cell? ⟨bb, off + k, none⟩ = some (.slice a' (l.getD k []).length cap') := (hbw.cell (p := ⟨bb, off + k, none⟩) hbb).trans hck
      have hrd' := hrd.later hbw
      clear hc hck hrd
      generalize l.getD k [] = y at *
      have hszr := hbel.size
      generalize (l.take k).flatten = fl at *
      go_wp2_with (at_builtin; refine app_any _ rfl _ _ rfl (w.heap.size + 1) _ fl rfl hown a' cap' y rfl hrd' (by omega) (by omega) ?_)
      intro v' w2 hown' hgrow
      have hb2 := hbel.grown hgrow (by omega) (fun j hj => (hown.lt j hj).1)
      have R : w2.ownsRow (w.heap.size + 1) 5 1 v' (l.take (k + 1)).flatten.length (V (l.take (k + 1)).flatten) := by
        rw [HF.out, List.length_append]; exact hown'
      clear hown hgrow hown'
      go_wp2
      exact ⟨⟨k + 1, by omega, by go_num, R, hb2⟩, by simp [intOf]; omega⟩
    · obtain rfl : k = n := by omega
      rw [HTK.out] at hown
      have hszr := hbel.size
      have hres : wr.heap[w.heap.size]? = some (.cells (arr .u8 z32) 24 (0, 0)) := by rw [hbel.block _ (by omega)]; exact hres0
      have hres0' := hres0
      have HFLT : Hid (∀ j, l.flatten.getD j 0 < 256) := HPS.out.lt
      clear HFT HFL HPS hres0
      generalize hfl : l.flatten = fl at *
      have HFLE := hid hfl
      clear hfl HTK
      obtain ⟨aa, ca, rfl⟩ := own_slice hown
      have hN : fl.length < 2 ^ 64 := by omega
      have HPD := hid (fun W : World => pad_ref fl.length W hN)
      have hpl := pad_length fl.length
      have HPL := hid (pad_lt fl.length)
      have HAL' := hid (getD_app fl (pad fl.length) HFLT.out HPL.out)
      generalize hpd : pad fl.length = pd at *
      have HPDE := hid hpd
      clear hpd
      generalize hfn : fl.length = fn at *
      have HFN := hid hfn
      clear hfn
      have hfi : ((fn : Int) : Int) % 18446744073709551616 = (fn : Int) := by omega
      go_wp2_with fail
      go_at_call 72
      refine (HPD.out _).mono ?_
      rintro _ w2 ⟨pv, rfl, hpo, hpb⟩
      obtain ⟨pg, pc, rfl, hpg, hprd⟩ := rd_own hpo (by omega) HPL.out
      have hown2 := own_later hown hpb
      have hb2 : Below (w.heap.size + 1) w1 w2 := hbel.trans (hpb.mono (by omega))
      have hsz2 := hpb.size
      clear hpo hown
      have hown2' : w2.ownsRow (w.heap.size + 1) 5 1 (.slice aa fn ca) fl.length (V fl) := by rw [HFN.out]; exact hown2
      clear hown2
      have hpl1 := hpl.2.2
      have hl1 : fl.length ≤ 500000 := by have := HFN.out; omega
      go_wp2_with (at_builtin; refine app_any _ rfl _ _ rfl (w.heap.size + 1) _ fl rfl hown2' _ pc pd rfl hprd (by omega) (by omega) ?_)
      intro v' w3 hown3 hgrow
      have hb3 : Below (w.heap.size + 1) w1 w3 := hb2.grown hgrow (by omega) (fun j hj => (hown2'.lt j hj).1)
      have hsz3 := hb3.size
      have hown4 : w3.ownsRow (w.heap.size + 1) 5 1 v' (fl ++ pd).length (V (fl ++ pd)) := by first | exact hown3 | (rw [List.length_append]; exact hown3)
      have hlen : (fl ++ pd).length = fn + pd.length := by rw [List.length_append, HFN.out]
      have HDG : Hid (digest fl = Sha.bytes (blocks ((fl ++ pd).length / 64) (fl ++ pd) Sha.start)) := by
        rw [digest, HFN.out, HPDE.out]
        exact rfl
      have HAL := HAL'
      clear HAL'
      generalize hal : fl ++ pd = al at *
      obtain ⟨ag, ac, rfl, hag, hard⟩ := rd_own hown4 (by omega) HAL.out
      have hres3 : w3.heap[w.heap.size]? = some (.cells (arr .u8 z32) 24 (0, 0)) := by rw [hb3.block _ (by omega)]; exact hres0'
      have HLEN := hid hlen
      have hal0 : 0 < al.length := by omega
      clear hlen
      clear hown3 hown4 hgrow hown2' hprd hb2 hpb hbel hres hpl1 hl1 hal hpg
      go_wp2_with fail
      go_at_call 73
      refine (start_ref _).mono ?_
      rintro _ w4 ⟨rfl, hb4⟩
      have hgS : w.heap.size < w4.heap.size := by have := hb4.size; omega
      have hagS : ag < w4.heap.size := by
        obtain ⟨b, off, hb, hlt, _⟩ := hard.cells (by omega)
        injection hb with hb
        injection hb with h1 h2
        subst h1
        have := hb4.size
        omega
      have hgC : (w4.alloc (.cells (arr .u32 z8) 122)).heap[w4.heap.size]? = some (.cells (arr .u32 z8) 122 (0, 0)) := heap_new _ _
      have hbw3 : Below w.heap.size w w3 := b0.trans (hb3.mono (by omega))
      have hM : MemS w ((w4.alloc (.cells (arr .u32 z8) 122)).setRow w4.heap.size (arr .u32 Sha.start.list)) w4.heap.size ag ac al Sha.start := by
        have hb5 : Below w4.heap.size w4 ((w4.alloc (.cells (arr .u32 z8) 122)).setRow w4.heap.size (arr .u32 Sha.start.list)) := below_setRow (bel_alloc _ _) (Nat.le_refl _) _
        have hb6 := Bn hb4 hb5
        refine ⟨?_, setRow_heap _ _ _ _ _ _ hgC, hard.later hb6, Bn hbw3 hb6⟩
        rw [hb6.block _ (by omega)]; exact hres3
      go_wp2_with (first
        | (refine wpList_alloc_at rfl 122 rfl (some 5) rfl (arr .u32 z8) Tryd.zero122 w4.heap.size rfl ?_)
        | (refine wpList_store_rowTo rfl 122 _ _ rfl rfl w4.heap.size (arr .u32 Sha.start.list) rfl rfl 122 _ hgC Tryd.size122 rfl (arr_one _ _) ?_))
      generalize (w4.alloc (.cells (arr .u32 z8) 122)).setRow w4.heap.size (arr .u32 Sha.start.list) = w5 at *
      generalize w4.heap.size = gS at *
      obtain ⟨M, hMM⟩ : ∃ M, al.length = 64 * M := ⟨al.length / 64, by have := HLEN.out; omega⟩
      have HBL : Hid (∀ j, al.getD j 0 < 256) := HAL
      have HD2 : Hid (digest fl = Sha.bytes (blocks M al Sha.start)) := by
        rw [HDG.out, hMM, Nat.mul_div_cancel_left _ (by decide)]; exact rfl
      have hMb : M ≤ 100000 := by have := HLEN.out; omega
      have HSN := hid (fun m => blocksG_snoc Sha.step m al Sha.start)
      have HOK := hid (fun m => blocks_ok m al Sha.start start_ok)
      have HMM := hid hMM
      generalize hall : al.length = aln at *
      have HMA := hid hMM
      clear HMM
      have HALL := hid hall
      have haln : aln ≤ 600000 := by have := HLEN.out; omega
      clear HLEN hpl HFN HPDE hfi hN
      clear hMM
      clear HDG hgC hard hres3 hb4 hb3 hbw3 HPD HPL HAL hall
      go_loopw [6] (fun i wr => ∃ m : Nat, m ≤ M ∧ i = .int .i64 (64 * (m : Int)) ∧ MemS w wr gS ag ac al (blocks m al Sha.start)) (fun i _ => 64 * M + 64 - (intOf i).toNat)
      case atStart => exact ⟨0, by omega, rfl, hM⟩
      case round =>
        obtain ⟨m, hm, rfl, hM⟩ := hrel
        by_cases hmM : m < M
        · have hcond : 64 * (m : Int) + 64 ≤ (aln : Int) := by have := HMA.out; omega
          have hma : 64 * m + 64 ≤ aln := by omega
          have HM := hid hM
          clear hM
          have hgB := heap_new wr (.cells (arr .u8 z64) 111)
          have hM1b := bel_alloc wr (.cells (arr .u8 z64) 111)
          have hM1 := HM.out.later hM1b
          go_wp2_with (refine wpList_alloc_at rfl 111 rfl (some 7) rfl (arr .u8 z64) Tryd.zero111 wr.heap.size rfl ?_)
          generalize hwr2 : wr.alloc (.cells (arr .u8 z64) 111) = wr2 at *
          clear hwr2
          obtain ⟨ab0, ao0, hae0, hag0, _⟩ := HM.out.rd.cells (by rw [HALL.out]; omega)
          injection hae0 with hae0
          injection hae0 with hae01 hae02
          subst hae01
          clear hae02
          have hg1 : w.heap.size < wr.heap.size := (Array.getElem?_eq_some_iff.1 HM.out.res).1
          have hg2 : gS < wr.heap.size := (Array.getElem?_eq_some_iff.1 HM.out.sv).1
          generalize hgBn : wr.heap.size = gB at *
          clear hgBn
          have hbl64 : ((al.drop (64 * m)).take 64).length = 64 := by rw [List.length_take, List.length_drop, HALL.out]; omega
          have HBG := hid (blk_get al (64 * m))
          have HBLT := hid (blk_lt al HBL.out (64 * m))
          have HNX := hid (HSN.out m)
          generalize hblk : (al.drop (64 * m)).take 64 = bk at *
          have HM1 := hid hM1
          go_loopw [8] (fun i wq => ∃ k : Nat, k ≤ 64 ∧ i = .int .i64 k ∧ MemS w wq gS ag ac al (blocks m al Sha.start) ∧ wq.heap[gB]? = some (.cells (arr .u8 (fillL 64 bk k)) 111 (0, 0))) (fun i _ => 64 - (intOf i).toNat)
          case atStart => exact ⟨0, by omega, rfl, HM1.out, by rw [fillL_zero]; exact hgB⟩
          case round =>
            obtain ⟨q, hq, rfl, hMq, hgq⟩ := hrel
            by_cases hq64 : q < 64
            · have hq' : (q : Int) < 64 := by omega
              obtain ⟨ab, ao, hae, habw, hac⟩ := hMq.rd.cells (by rw [HALL.out]; omega)
              injection hae with hae
              injection hae with hae1 hae2
              subst hae1 hae2
              have ca := hac (64 * m + q) (by rw [HALL.out]; omega)
              rw [Nat.zero_add, ← HBG.out q hq64] at ca
              have hfl := fillL_length 64 bk q hbl64 (by omega)
              have cb := (Joins.cell_of_block hgq q).trans (arr_get .u8 _ q (by omega))
              have fz := Joins.unfrozen_of_block hgq q
              have hput := Joins.block_setCell hgq (i := q) (.int .u8 ((bk.getD q 0 : Nat) : Int))
              rw [arr_set, fillL_set 64 bk q hbl64 hq64] at hput
              have hblt := HBLT.out q
              have HP := hid hput
              have HMq := hid hMq
              have HGQ := hid hgq
              clear hac hput hMq hgq hfl
              generalize bk.getD q 0 = bq at *
              generalize (fillL 64 bk q).getD q 0 = old at *
              have hMn := HMq.out.keep ((Below.refl gB wr).setCell (p := ⟨gB, q, none⟩) (Nat.le_refl _) (.int .u8 (bq : Int))) hg1 hg2 hag0
              have HMn := hid hMn
              clear hMn
              go_wp2
              exact ⟨⟨q + 1, by omega, by go_num, HMn.out, HP.out⟩, by simp [intOf]; omega⟩
            · obtain rfl : q = 64 := by omega
              rw [fillL_full 64 bk hbl64] at hgq
              have hsv := hMq.sv
              have hok := HOK.out m
              have HST := hid (fun W : World => step_ref (blocks m al Sha.start) bk W hok hbl64 HBLT.out)
              have HNX2 : Hid (blocks (m + 1) al Sha.start = Sha.step (blocks m al Sha.start) bk) := HNX.out
              have HMq := hid hMq
              clear hMq HNX
              have hsz8 : (arr .u32 (blocks m al Sha.start).list).size = 8 := arr_size _ _
              have hsz64 : (arr .u8 bk).size = 64 := (arr_size _ _).trans hbl64
              generalize blocks m al Sha.start = sm at *
              go_wp2_with (first
                | (refine wpList_load_row rfl 122 _ rfl gS rfl 122 (arr .u32 sm.list) (0, 0) _ hsv Tryd.underlying122 rfl (by rw [hsz8]; exact Tryd.size122) ?_)
                | (refine wpList_load_row rfl 111 _ rfl gB rfl 111 (arr .u8 bk) (0, 0) _ hgq Tryd.underlying111 rfl (by rw [hsz64]; exact Tryd.size111o) ?_))
              go_at_call 74
              refine (HST.out _).mono ?_
              rintro _ w7 ⟨rfl, hb7⟩
              have hM7 := HMq.out.later hb7
              have hsv7 := hM7.sv
              have hM8 : MemS w (w7.setRow gS (arr .u32 (Sha.step sm bk).list)) gS ag ac al (Sha.step sm bk) := by
                refine ⟨?_, setRow_heap _ _ _ _ _ _ hsv7, ⟨hM7.rd.val, hM7.rd.room, hM7.rd.most, fun h0 => ?_, hM7.rd.hi, hM7.rd.nil⟩, below_setRow hM7.bel (by omega) _⟩
                · rw [setRow_other _ _ _ _ (by omega)]; exact hM7.res
                · obtain ⟨b, off, ha, hbw, hc⟩ := hM7.rd.cells h0
                  injection ha with ha'
                  injection ha' with hb1 hb2
                  subst hb1 hb2
                  refine ⟨ag, 0, rfl, by simpa [World.setRow] using hbw, fun j hj => ?_⟩
                  rw [World.cell?_of_block (w := w7) (setRow_other _ _ _ _ (show ag ≠ gS by omega))]
                  exact hc j hj
              have HM8 := hid hM8
              have hszS : (arr .u32 (Sha.step sm bk).list).size = 8 := arr_size _ _
              clear hM8 hM7
              go_wp2_with (refine wpList_store_rowTo rfl 122 _ _ rfl rfl gS (arr .u32 (Sha.step sm bk).list) rfl rfl 122 _ hsv7 (by rw [hszS]; exact Tryd.size122) (by rw [hszS]; exact hsz8) (arr_one _ _) ?_)
              clear hsv7
              generalize hW8 : w7.setRow gS (arr .u32 (Sha.step sm bk).list) = W8 at *
              clear hW8
              go_wp2
              exact ⟨⟨m + 1, by omega, by go_num, by rw [HNX2.out]; exact HM8.out⟩, by simp [intOf]; omega⟩
        · obtain rfl : m = M := by omega
          have hcond : ¬ 64 * (m : Int) + 64 ≤ (aln : Int) := by have := HMA.out; omega
          have hsv := hM.sv
          have hres := hM.res
          have hbel := hM.bel
          have HBY := hid (fun W : World => bytes_ref (blocks m al Sha.start) W (HOK.out m))
          rw [← HD2.out] at HBY
          have HM := hid hM
          have hsz8 : (arr .u32 (blocks m al Sha.start).list).size = 8 := arr_size _ _
          clear hM
          go_wp2_with (refine wpList_load_row rfl 122 _ rfl gS rfl 122 (arr .u32 (blocks m al Sha.start).list) (0, 0) _ hsv Tryd.underlying122 rfl (by rw [hsz8]; exact Tryd.size122) ?_)
          go_at_call 75
          refine (HBY.out _).mono ?_
          rintro _ w7 ⟨rfl, hb7⟩
          have hM7 := HM.out.later hb7
          have hres7 := hM7.res
          have hbel7 := hM7.bel
          have hsz32 : (arr .u8 (digest fl)).size = 32 := by rw [HD2.out]; exact arr_size _ _
          clear hM7
          go_wp2_with (refine wpList_store_rowTo rfl 24 _ _ rfl rfl w.heap.size (arr .u8 (digest fl)) rfl rfl 24 _ hres7 (by rw [hsz32]; exact Tryd.size24) (by rw [hsz32]; rfl) (arr_one _ _) ?_)
          refine bodyPost_ret (results_cell_row (ty := 24) rfl _ _ _ _ _ _ _ rfl (setRow_heap _ _ _ _ _ _ hres7) Tryd.underlying24 rfl (by rw [hsz32]; exact Tryd.size24)) rfl ?_
          exact ⟨by rw [HFLE.out], below_setRow hbel7 (Nat.le_refl _) _⟩
end Go.Proofs.YtplinkmagnihmaaDoor.Sh
namespace Go.Proofs.YtplinkmagnihmaaDoor
open Go.RowKit

theorem Tryd.zero24p : ∀ w, (zeroValue 24).run Tryd.prog w = .ok (.agg (u8A z32)) w := fun w => by kernel_rfl
theorem Tryd.size24p : (Tryd.prog.info? 24).map (·.size) = some 32 := by kernel_rfl
set_option maxHeartbeats 3200000 in
set_option maxRecDepth 100000 in
theorem of_doc (b off cap : Nat) (zs : List Int) (w : World) (hr : Ri w .u8 (some ⟨b, off, none⟩) cap zs) (hn : zs.length ≤ 100000) :
    Calls Tryd.prog 37 #[.slice (some ⟨b, off, none⟩) zs.length cap] w fun e w' => e = .returned (.agg (u8A (digL zs))) ∧ Below w.heap.size w w' := by
  have b0 := bel_alc w (.cells (u8A z32) 24)
  have e0 := heap_alc w (.cells (u8A z32) 24)
  have s0 : (w.alloc (.cells (u8A z32) 24)).heap.size = w.heap.size + 1 := by simp
  have b1 := bel_alc (w.alloc (.cells (u8A z32) 24)) (.cells #[.slice (some ⟨b, off, none⟩) zs.length cap] 22)
  have e1 := heap_alc (w.alloc (.cells (u8A z32) 24)) (.cells #[.slice (some ⟨b, off, none⟩) zs.length cap] 22)
  rw [s0] at e1
  have hps : Sh.Ps ((w.alloc (.cells (u8A z32) 24)).alloc (.cells #[.slice (some ⟨b, off, none⟩) zs.length cap] 22)) (some ⟨w.heap.size + 1, 0, none⟩) 1 [nats zs] := by
    refine ⟨Nat.le_refl _, by unfold maxLen; omega, fun _ => ⟨w.heap.size + 1, 0, rfl, by simp, fun j hj => ?_⟩⟩
    have : j = 0 := by simp at hj; omega
    subst this
    exact ⟨.slice (some ⟨b, off, none⟩) zs.length cap, some ⟨b, off, none⟩, cap, by rw [Nat.zero_add]; exact Joins.cell_of_block e1 0, (hr.rdS.later b0).later b1⟩
  have HSM := hid (Sh.sum_ref (some ⟨w.heap.size + 1, 0, none⟩) 1 [nats zs] _ hps (by simp [nats_len]; omega))
  rw [show [nats zs].flatten = nats zs from by simp, arr_dig] at HSM
  change Hid (Calls Tryd.prog 54 #[.slice (some ⟨w.heap.size + 1, 0, none⟩) 1 1] _ fun e w' => e = .returned (.agg (u8A (digL zs))) ∧ _) at HSM
  have HB1 := hid (Bn b0 b1)
  have HE0 := hid ((b1.block _ (by rw [s0]; omega)).trans e0)
  have HG : Hid (w.heap.size < ((w.alloc (.cells (u8A z32) 24)).alloc (.cells #[.slice (some ⟨b, off, none⟩) zs.length cap] 22)).heap.size) := by show _ < _; simp; omega
  have hdl := digL_len zs
  have HZ : Hid ((u8A z32).size = 32) := rfl
  generalize digL zs = d at *
  generalize zs.length = L at *
  have HDL := hid hdl
  clear b0 e0 b1 e1 hps hr hdl
  go_enter Tryd.func37, Tryd.ntmps37
  go_wp2_with (refine wpList_alloc_at rfl 24 rfl (some 2) rfl (u8A z32) Tryd.zero24p w.heap.size rfl ?_)
  refine HSM.out.mono ?_
  rintro _ W2 ⟨rfl, hb2⟩
  have HE2 := hid ((hb2.block _ HG.out).trans HE0.out)
  have HB2 := hid (Bn HB1.out hb2)
  clear hb2 HSM HE0 HB1 HG
  go_wp2_with (refine wpList_store_rowTo rfl 24 _ _ rfl rfl w.heap.size (u8A d) rfl rfl 24 _ HE2.out (by rw [u8A_size, HDL.out]; exact Tryd.size24p) (by rw [HZ.out, u8A_size, HDL.out]) (u8A_one _) ?_)
  refine bodyPost_ret (results_cell_row (ty := 24) rfl _ _ _ _ _ _ _ rfl (setRow_heap _ _ _ _ _ _ HE2.out) Tryd.underlying24 rfl (by rw [u8A_size, HDL.out]; exact Tryd.size24p)) rfl ?_
  exact ⟨rfl, below_setRow HB2.out (Nat.le_refl _) _⟩
end Go.Proofs.YtplinkmagnihmaaDoor
namespace Go.Proofs.YtplinkmagnihmaaDoor
open Go.ChangeShapes Go.WideShapes Go.ChangeAt Go.RowKit Go.Deep
theorem Tryd.zero25:∀w,(zeroValue 25).run Tryd.prog w= .ok (.agg (u8A z32)) w:=fun w=>by kernel_rfl
theorem Tryd.built23:Tryd.prog.built 25 []=some (u8A z32):=by kernel_rfl
def chnD(r:Rec):List Int:=if mayB r=true then digL (wrB r) else z32
theorem chnD_len(r:Rec):(chnD r).length=32:=by
 unfold chnD
 split
 ·exact digL_len _
 ·rfl
theorem size_dig{d:List Int}(h:d.length=32):(Tryd.prog.info? 25).map (·.size)=some (u8A d).size:=by rw[u8A_size,h];exact Tryd.size25
theorem load_dig{W:World}{g:Nat}{d:List Int}(h:W.heap[g]?=some (.cells (u8A d) 25))(hl:d.length=32):(loadVar 25 ⟨g,0,none⟩).run Tryd.prog W= .ok (.agg (u8A d)) W:=
 run_loadVar_row (P:=Tryd.prog) W g 25 25 (u8A d) (0,0) _ h Tryd.underlying25 rfl (size_dig hl)
structure Cn (w W:World) (r:Rec):Prop where
 box:Bx W w.heap.size r
 out:W.heap[w.heap.size+1]?=some (.cells (u8A z32) 25)
 bel:Below w.heap.size w W
theorem Cn.later{w W W':World}{r:Rec}(h:Cn w W r)(hb:Below W.heap.size W W'):Cn w W' r:=
 ⟨h.box.later hb,(hb.block _ (Array.getElem?_eq_some_iff.1 h.out).1).trans h.out,Bn h.bel hb⟩
theorem Cn.start(w:World)(r:Rec)(h:r.prev.length=32):Cn w ((w.alloc (.cells r.cs.toArray 58)).alloc (.cells (u8A z32) 25)) r:=by
 have s1:(w.alloc (.cells r.cs.toArray 58)).heap.size=w.heap.size+1:=by simp
 have HO:=heap_alc (w.alloc (.cells r.cs.toArray 58)) (.cells (u8A z32) 25)
 rw[s1] at HO
 exact⟨(Bx.mk' w r h).later (bel_alc _ _),HO,Bn (bel_alc _ _) (bel_alc _ _)⟩
theorem wr_pos(r:Rec):0<(wrB r).length:=by
 unfold wrB wrH
 split
 ·simp
 ·split<;>simp
theorem z32_size:(u8A z32).size=32:=rfl
set_option maxHeartbeats 3200000 in
set_option maxRecDepth 100000 in
theorem dchain_word(r:Rec)(w:World)(h:Rv w r)(hn:r.ps.length<=1000):
 Calls Tryd.prog 43 #[.agg r.cs.toArray] w fun e w'=>e= .returned (.tuple #[.agg (u8A (chnD r)),.int .i64 (e130 (mayB r))])∧Below w.heap.size w w':=by
 have C0:=Cn.start w r h.len
 obtain⟨W0,hW0⟩:∃W0,W0=(w.alloc (.cells r.cs.toArray 58)).alloc (.cells (u8A z32) 25):=⟨_,rfl⟩
 rw[<-hW0] at C0
 have HW0:=hid hW0
 clear hW0
 have HS1:Hid (w.heap.size+1=(w.alloc (.cells r.cs.toArray 58)).heap.size):=by show _=_;simp
 have HC0:=hid C0
 have HX0:=hid C0.box.range
 have HLL:=hid (Rec.cs_len h.len)
 have HBY:=hid (dbytes_word r W0 (h.later C0.bel))
 have HM8:Hid (mayB r=true->∀j,(Lit.int .u8 ((wrB r).getD j 0)).wf=true):=fun q=>get_u8 (wr_mem h q)
 have HWL:Hid (mayB r=true->(wrB r).length<=100000):=fun q=>wr_len h q hn
 have HWP:=hid (wr_pos r)
 have HCD:Hid (chnD r=if mayB r=true then digL (wrB r) else z32):=rfl
 have HDL:=hid (digL_len (wrB r))
 have HPS:=hid (fun bx ox cx V q2 (q0:(wrB r).length<=100000)=>of_doc bx ox cx (wrB r) V q2 q0)
 clear C0 h
 generalize chnD r=CD at *
 generalize mayB r=MB at *
 generalize digL (wrB r)=D at *
 generalize wrB r=BB at *
 go_enter Tryd.func43,Tryd.ntmps43
 go_wp2_with (first | refine wpList_alloc_to rfl 25 rfl (some 2) rfl _ Tryd.zero25 (w.heap.size+1) HS1.out W0 HW0.out ?_ | refine wpList_load_g rfl 58 _ rfl w.heap.size 0 rfl r.cs _ HX0.out Tryd.underlying58 rfl (by rw[HLL.out];exact Tryd.size58) ?_ | fail)
 refine HBY.out.mono ?_
 rintro _ W1 ⟨v,rfl,hb1,hp⟩
 have HC1:=hid (HC0.out.later hb1)
 have HO1:=hid HC1.out.out
 have HB1:=hid HC1.out.bel
 clear hb1 HC0 HX0 HBY
 rcases hp with ⟨rfl,rfl⟩ | ⟨rfl,ho⟩
 ·have HCE:Hid (CD=z32):=HCD.out.trans (if_neg (by simp))
  go_wp2_with (first | refine wpList_buildTo rfl 25 _ rfl (some 13) rfl (u8A z32) Tryd.built23 ?_ | refine wpList_store_rowTo rfl 25 _ _ rfl rfl (w.heap.size+1) (u8A z32) rfl rfl 25 _ HO1.out (size_dig rfl) rfl (u8A_one _) ?_ | fail)
  refine bodyPost_ret (results_row_tmp rfl _ _ (w.heap.size+1) _ rfl (load_dig (setRow_heap _ _ _ _ _ _ HO1.out) rfl)) rfl ?_
  exact⟨by rw[HCE.out];rfl,below_setRow HB1.out (by omega) _⟩
 ·have HCE:Hid (CD=D):=HCD.out.trans (if_pos rfl)
  obtain⟨ax,cx,rfl,hrx⟩:=Ri.own ho (HM8.out rfl)
  obtain⟨bx,ox,rfl,_,_⟩:=hrx.cells HWP.out
  have HRX:=hid hrx
  have HSZ:Hid ((u8A z32).size=(u8A D).size):=by show _=_;rw[u8A_size,u8A_size,HDL.out];rfl
  have HSM:=hid (HPS.out bx ox cx W1 HRX.out (HWL.out rfl))
  clear ho hrx HPS HM8 HC1
  go_wp2_with fail
  refine HSM.out.mono ?_
  rintro _ W2 ⟨rfl,hb2⟩
  have HO2:=hid ((hb2.block _ (Array.getElem?_eq_some_iff.1 HO1.out).1).trans HO1.out)
  have HB2:=hid (Bn HB1.out hb2)
  clear hb2 HSM
  go_wp2_with (first | refine wpList_store_rowTo rfl 25 _ _ rfl rfl (w.heap.size+1) (u8A D) rfl rfl 25 _ HO2.out (size_dig HDL.out) HSZ.out (u8A_one _) ?_ | fail)
  refine bodyPost_ret (results_row_tmp rfl _ _ (w.heap.size+1) _ rfl (load_dig (setRow_heap _ _ _ _ _ _ HO2.out) HDL.out)) rfl ?_
  exact⟨by rw[HCE.out];rfl,below_setRow HB2.out (by omega) _⟩
end Go.Proofs.YtplinkmagnihmaaDoor
namespace Go.Proofs.YtplinkmagnihmaaDoor
open Go.ChangeShapes Go.WideShapes Go.ChangeAt Go.RowKit Go.Deep
set_option maxHeartbeats 3200000 in
set_option maxRecDepth 100000 in
theorem dfollows_word(hs he:Int)(hc:List Int)(r:Rec)(w:World)(hcl:hc.length=32)(h:r.prev.length=32)(hq:1<=r.seq∧r.seq<=1073741824):
 Calls Tryd.prog 44 #[.agg (hdL hs he hc).toArray,.agg r.cs.toArray] w fun e w'=>e= .returned (.bool (folB hs he hc r))∧Below w.heap.size w w':=by
 have b1:=bel_alc w (.cells (hdL hs he hc).toArray 27)
 have b2:=bel_alc (w.alloc (.cells (hdL hs he hc).toArray 27)) (.cells r.cs.toArray 58)
 have s1:(w.alloc (.cells (hdL hs he hc).toArray 27)).heap.size=w.heap.size+1:=by simp
 have BH:=(Bh.mk' w hs he hc hcl).later b2
 have BX:=Bx.mk' (w.alloc (.cells (hdL hs he hc).toArray 27)) r h
 rw[s1] at BX
 have HB:=hid (Bn b1 b2)
 have d0:=BH.c0
 have d1:=BH.c1
 have c0:=BX.c0
 have c1:=BX.c1
 have c34:=BX.c34
 have HRC:=hid BH.chain
 have HRP:=hid BX.prev
 have HF:Hid (folB hs he hc r=(decide (r.seq-1=hs∧r.prev=hc)&&(if r.kind=1 then decide (he<r.epoch) else decide (r.epoch=he)))):=rfl
 have heq:∀V,(Op.equalIn 10000 25 (.agg (r.prev.map (Value.int .u8)).toArray) (.agg (hc.map (Value.int .u8)).toArray)).run Tryd.prog V= .ok (decide (r.prev=hc)) V:=fun V=>eq37 r.prev hc h hcl V
 have hgd:=guard37
 have HPL:Hid ((r.prev.map (Value.int .u8)).length=32):=by show _=_;simp[h]
 have HCL:Hid ((hc.map (Value.int .u8)).length=32):=by show _=_;simp[hcl]
 have hq1:=hq.1
 have hq2:=hq.2
 clear BH BX hq b1 b2
 generalize folB hs he hc r=F at *
 generalize (hdL hs he hc).toArray=A1 at *
 generalize r.cs.toArray=A2 at *
 generalize r.prev.map (Value.int .u8)=P at *
 generalize hc.map (Value.int .u8)=C at *
 generalize r.seq=sq at *
 generalize r.epoch=ep at *
 generalize r.kind=ki at *
 by_cases h1:sq-1=hs
 ·subst h1
  by_cases h2:r.prev=hc
  ·have hd2:decide (r.prev=hc)=true:=decide_eq_true h2
   rw[hd2] at heq
   have HF2:Hid (F=if ki=1 then decide (he<ep) else decide (ep=he)):=by show _=_;rw[HF.out,h2];simp
   clear HF h2 hd2
   by_cases h3:ki=1
   ·subst h3
    go_enter Tryd.func44,Tryd.ntmps44
    go_wp2_with (first | refine wpList_load_g rfl 25 _ rfl (w.heap.size+1) 2 rfl P _ HRP.out Tryd.underlying25 rfl (by rw[HPL.out];exact Tryd.size25) ?_ | refine wpList_load_g rfl 25 _ rfl w.heap.size 2 rfl C _ HRC.out Tryd.underlying25 rfl (by rw[HCL.out];exact Tryd.size25) ?_)
    go_ret
    exact⟨by rw[HF2.out];simp,HB.out⟩
   ·go_enter Tryd.func44,Tryd.ntmps44
    go_wp2_with (first | refine wpList_load_g rfl 25 _ rfl (w.heap.size+1) 2 rfl P _ HRP.out Tryd.underlying25 rfl (by rw[HPL.out];exact Tryd.size25) ?_ | refine wpList_load_g rfl 25 _ rfl w.heap.size 2 rfl C _ HRC.out Tryd.underlying25 rfl (by rw[HCL.out];exact Tryd.size25) ?_)
    go_ret
    exact⟨by rw[HF2.out,if_neg h3];rfl,HB.out⟩
  ·have hd2:decide (r.prev=hc)=false:=decide_eq_false h2
   rw[hd2] at heq
   have HF2:Hid (F=false):=by show _=_;rw[HF.out];simp[h2]
   clear HF h2 hd2
   go_enter Tryd.func44,Tryd.ntmps44
   go_wp2_with (first | refine wpList_load_g rfl 25 _ rfl (w.heap.size+1) 2 rfl P _ HRP.out Tryd.underlying25 rfl (by rw[HPL.out];exact Tryd.size25) ?_ | refine wpList_load_g rfl 25 _ rfl w.heap.size 2 rfl C _ HRC.out Tryd.underlying25 rfl (by rw[HCL.out];exact Tryd.size25) ?_)
   go_ret
   exact⟨by rw[HF2.out];rfl,HB.out⟩
 ·have HF2:Hid (F=false):=by show _=_;rw[HF.out];simp[h1]
  clear HF heq
  go_enter Tryd.func44,Tryd.ntmps44
  go_wp2
  go_ret
  exact⟨by rw[HF2.out];rfl,HB.out⟩
theorem wpList_store_as'{P:Program}{ops:Array Oper}{rest:List Oper}{o:Oper}{a:Act}{w:World}{Q:Exit->Act->World->Prop}(hgd:o.guard=none)(ty:TypeId)(x y:Operand)(ho:o.op= .store ty x y)(hd:o.dst=none)
 (W:World) (old cells:Array Value) (hw:w=W.alloc (.cells old ty)) (hx:a.eval x= .pointer (some ⟨W.heap.size,0,none⟩)) (hy:a.eval y= .agg cells) (hi:(P.info? ty).map (·.size)=some cells.size)
 (hold:old.size=cells.size) (h1:cells.all (·.oneCell')=true) (V:World) (hV:V=W.alloc (.cells cells ty)) (h:wpList P ops Q rest a V):wpList P ops Q (o::rest) a w:=by
 subst hV
 exact wpList_store_new hgd ty x y ho hd W old cells hw hx hy hi hold h1 h
set_option maxHeartbeats 6400000 in
set_option maxRecDepth 100000 in
theorem dnext_word(hs he:Int)(hc:List Int)(r:Rec)(w:World)(hcl:hc.length=32)(h:Rv w r)(hn:r.ps.length<=1000):
 Calls Tryd.prog 30 #[.agg (hdL hs he hc).toArray,.agg r.cs.toArray] w fun e w'=>e= .returned (.tuple #[.agg (hdL (nxO hs he hc r).1 (nxO hs he hc r).2.1 (nxO hs he hc r).2.2).toArray,.int .i64 (fltO hs he hc r)])∧Below w.heap.size w w':=by
 have N0:=Nx.start w hs he hc r hcl h.len
 obtain⟨W0,hW0⟩:∃W0,W0=((w.alloc (.cells (hdL hs he hc).toArray 27)).alloc (.cells r.cs.toArray 58)).alloc (.cells (hdL 0 0 z32).toArray 27):=⟨_,rfl⟩
 rw[<-hW0] at N0
 have HW0:=hid hW0
 clear hW0
 have HN0:=hid N0
 have HHL:=hid (hdL_len hs he hc hcl)
 have HRL:=hid (Rec.cs_len h.len)
 have HX0:=hid N0.box.range
 have HCH:=hid (dchain_word r _ (h.later N0.bel) hn)
 have HFW:=hid (fun V q=>dfollows_word hs he hc r V hcl h.len q)
 have HMQ:Hid (mayB r=true->1<=r.seq∧r.seq<=1073741824):=fun q=>(may_parts q).1
 have HNX:Hid (nxO hs he hc r=if fltO hs he hc r=0 then (r.seq,r.epoch,digL (wrB r)) else (0,0,z32)):=rfl
 have HFL:Hid (fltO hs he hc r=if mayB r=true then (if folB hs he hc r=true then 0 else 131) else 130):=rfl
 have HCD:Hid (mayB r=true->chnD r=digL (wrB r)):=fun q=>by unfold chnD;rw[if_pos q]
 have HCL:=hid (chnD_len r)
 have s1:(w.alloc (.cells (hdL hs he hc).toArray 27)).heap.size=w.heap.size+1:=by simp
 have HS2:Hid (w.heap.size+2=((w.alloc (.cells (hdL hs he hc).toArray 27)).alloc (.cells r.cs.toArray 58)).heap.size):=by show _=_;simp
 clear N0 h
 generalize nxO hs he hc r=NX at *
 generalize fltO hs he hc r=F at *
 generalize chnD r=CD at *
 generalize mayB r=MB at *
 generalize folB hs he hc r=FB at *
 generalize digL (wrB r)=DG at *
 go_enter Tryd.func30,Tryd.ntmps30
 go_wp2_with (first | refine wpList_alloc_to rfl 27 rfl (some 4) rfl _ Tryd.zero27 (w.heap.size+2) HS2.out W0 HW0.out ?_ | refine wpList_load_g rfl 58 _ rfl (w.heap.size+1) 0 rfl r.cs _ HX0.out Tryd.underlying58 rfl (by rw[HRL.out];exact Tryd.size58) ?_ | fail)
 refine HCH.out.mono ?_
 rintro _ W4 ⟨rfl,hb4⟩
 have hbb:=bel_alc W4 (.cells (u8A CD) 25)
 have HN4:=hid (HN0.out.later (Bn hb4 hbb))
 have HZX:Hid ((u8A z32).size=(u8A CD).size):=by show _=_;rw[u8A_size,u8A_size,HCL.out];rfl
 have HEC:=hid (heap_alc W4 (.cells (u8A CD) 25))
 obtain⟨W5,hW5⟩:∃W5,W5=W4.alloc (.cells (u8A CD) 25):=⟨_,rfl⟩
 have HW5:=hid hW5
 rw[<-hW5] at HN4 HEC
 have HO4:=hid HN4.out.out
 have HB4:=hid HN4.out.bel
 have HR5:=hid HN4.out.hd.range
 have HX5:=hid HN4.out.box.range
 clear HCH hb4 HN0 HX0 s1 hbb hW5
 cases MB with
 | false=>
   have HE:Hid (F=130):=HFL.out
   have HX:Hid (NX=(0,0,z32)):=by show _=_;rw[HNX.out,HE.out];rfl
   go_wp2_with (first | refine wpList_alloc_at rfl 25 rfl (some 6) rfl _ Tryd.zero25 W4.heap.size rfl ?_ | refine wpList_store_as' rfl 25 _ _ rfl rfl W4 (u8A z32) (u8A CD) rfl rfl rfl (size_dig HCL.out) HZX.out (u8A_one _) W5 HW5.out ?_ | refine wpList_buildTo rfl 27 _ rfl (some 15) rfl (hdL 0 0 z32).toArray Tryd.built55 ?_ | refine wpList_store_rowTo rfl 27 _ _ rfl rfl (w.heap.size+2) (hdL 0 0 z32).toArray rfl rfl 27 _ HO4.out (size_hd rfl) rfl (all_oneCell_toArray (hdL_one _ _ _)) ?_ | fail)
   refine bodyPost_ret (results_row_tmp rfl _ _ (w.heap.size+2) _ rfl (load_hd (setRow_heap _ _ _ _ _ _ HO4.out) rfl)) rfl ?_
   exact⟨by rw[HX.out,HE.out];rfl,below_setRow HB4.out (by omega) _⟩
 | true=>
   have HCE:=HCD.out rfl
   subst HCE
   have HFW2:=hid (HFW.out W5 (HMQ.out rfl))
   clear HFW HMQ
   go_wp2_with (first | refine wpList_alloc_at rfl 25 rfl (some 6) rfl _ Tryd.zero25 W4.heap.size rfl ?_ | refine wpList_store_as' rfl 25 _ _ rfl rfl W4 (u8A z32) (u8A CD) rfl rfl rfl (size_dig HCL.out) HZX.out (u8A_one _) W5 HW5.out ?_ | refine wpList_load_g rfl 58 _ rfl (w.heap.size+1) 0 rfl r.cs _ HX5.out Tryd.underlying58 rfl (by rw[HRL.out];exact Tryd.size58) ?_ | refine wpList_load_g rfl 27 _ rfl w.heap.size 0 rfl (hdL hs he hc) _ HR5.out Tryd.underlying27 rfl (by rw[HHL.out];exact Tryd.size27) ?_ | fail)
   refine HFW2.out.mono ?_
   rintro _ W6 ⟨rfl,hb6⟩
   have HN6:=hid (HN4.out.later hb6)
   have HO6:=hid HN6.out.out
   have HB6:=hid HN6.out.bel
   have c0:=HN6.out.box.c0
   have c1:=HN6.out.box.c1
   have HEC6:=hid ((hb6.block _ (Array.getElem?_eq_some_iff.1 HEC.out).1).trans HEC.out)
   have HRC:Hid (W6.rangeAt W4.heap.size 0 (CD.map (Value.int .u8))):=fun j v hv=>by
    rw[Nat.zero_add,Joins.cell_of_block HEC6.out j]
    unfold u8A
    rw[List.getElem?_toArray]
    exact hv
   have HML:Hid ((CD.map (Value.int .u8)).length=32):=by show _=_;simp[HCL.out]
   clear HFW2 hb6 HN4 HO4 HB4 HR5 HX5 HEC
   cases FB with
   | false=>
     have HE:Hid (F=131):=HFL.out
     have HX:Hid (NX=(0,0,z32)):=by show _=_;rw[HNX.out,HE.out];rfl
     go_wp2_with (first | refine wpList_buildTo rfl 27 _ rfl (some 21) rfl (hdL 0 0 z32).toArray Tryd.built55 ?_ | refine wpList_store_rowTo rfl 27 _ _ rfl rfl (w.heap.size+2) (hdL 0 0 z32).toArray rfl rfl 27 _ HO6.out (size_hd rfl) rfl (all_oneCell_toArray (hdL_one _ _ _)) ?_ | fail)
     refine bodyPost_ret (results_row_tmp rfl _ _ (w.heap.size+2) _ rfl (load_hd (setRow_heap _ _ _ _ _ _ HO6.out) rfl)) rfl ?_
     exact⟨by rw[HX.out,HE.out];rfl,below_setRow HB6.out (by omega) _⟩
   | true=>
     have HE:Hid (F=0):=HFL.out
     have HX:Hid (NX=(r.seq,r.epoch,CD)):=by show _=_;rw[HNX.out,HE.out];rfl
     have HBD:=hid (built55 r.seq r.epoch CD HCL.out)
     have HZH:Hid ((hdL 0 0 z32).toArray.size=(hdL r.seq r.epoch CD).toArray.size):=by show _=_;rw[List.size_toArray,List.size_toArray,hdL_len _ _ _ rfl,hdL_len _ _ _ HCL.out]
     go_wp2_with (first | refine wpList_load_g rfl 25 _ rfl W4.heap.size 0 rfl (CD.map (Value.int .u8)) _ HRC.out Tryd.underlying25 rfl (by rw[HML.out];exact Tryd.size25) ?_ | refine wpList_buildTo rfl 27 _ rfl (some 27) rfl (hdL r.seq r.epoch CD).toArray (Eq.trans (congrArg (Tryd.prog.built 27) (by first | rfl | (simp[go_sem];rfl))) HBD.out) ?_ | refine wpList_store_rowTo rfl 27 _ _ rfl rfl (w.heap.size+2) (hdL r.seq r.epoch CD).toArray rfl rfl 27 _ HO6.out (size_hd HCL.out) HZH.out (all_oneCell_toArray (hdL_one _ _ _)) ?_ | fail)
     refine bodyPost_ret (results_row_tmp rfl _ _ (w.heap.size+2) _ rfl (load_hd (setRow_heap _ _ _ _ _ _ HO6.out) HCL.out)) rfl ?_
     exact⟨by rw[HX.out,HE.out];rfl,below_setRow HB6.out (by omega) _⟩
end Go.Proofs.YtplinkmagnihmaaDoor
namespace Go.Proofs.YtplinkmagnihmaaDoor
open Go.ChangeShapes Go.WideShapes Go.ChangeAt Go.RowKit Go.Deep
def MkQ(hs he:Int)(hc:List Int)(r:Rec)(v:Value)(e:Int):Prop:=
 e=fltO hs he hc (mkR hs he hc r)∧((e≠0∧v= .agg recZ.cs.toArray)∨(e=0∧v= .agg (mkR hs he hc r).cs.toArray))
theorem flt_out(hs he:Int)(hc:List Int)(r:Rec)(hw:(Lit.int .i64 hs).wf=true)(h:hs<0∨1073741824<=hs):fltO hs he hc (mkR hs he hc r)=130:=by
 have hb:=wf_i64 hw
 unfold fltO
 rw[if_neg]
 intro q
 have:=(may_parts q).1
 have e:(mkR hs he hc r).seq=wrap64 (hs+1):=rfl
 rw[e] at this
 unfold wrap64 at this
 omega
set_option maxHeartbeats 6400000 in
set_option maxRecDepth 100000 in
theorem dmake_out(hs he:Int)(hc:List Int)(r:Rec)(w:World)(hcl:hc.length=32)(h:Rv w r)(hw:(Lit.int .i64 hs).wf=true)(hq:hs<0∨1073741824<=hs):
 Calls Tryd.prog 29 #[.agg (hdL hs he hc).toArray,.agg r.cs.toArray] w fun e w'=>∃v e',e= .returned (.tuple #[v,.int .i64 e'])∧Below w.heap.size w w'∧MkQ hs he hc r v e':=by
 have M0:=Mk.start w hs he hc r hcl h.len
 obtain⟨W0,hW0⟩:∃W0,W0=((w.alloc (.cells (hdL hs he hc).toArray 27)).alloc (.cells r.cs.toArray 58)).alloc (.cells recZ.cs.toArray 58):=⟨_,rfl⟩
 rw[<-hW0] at M0
 have HW0:=hid hW0
 clear hW0
 have s1:(w.alloc (.cells (hdL hs he hc).toArray 27)).heap.size=w.heap.size+1:=by simp
 have HS2:Hid (w.heap.size+2=((w.alloc (.cells (hdL hs he hc).toArray 27)).alloc (.cells r.cs.toArray 58)).heap.size):=by show _=_;simp
 have d0:=M0.hd.c0
 have HO:=hid M0.out
 have HB:=hid M0.bel
 have HF:=hid (flt_out hs he hc r hw hq)
 have HP:Hid (MkQ hs he hc r (.agg recZ.cs.toArray) 130):=⟨HF.out.symm,.inl ⟨by decide,rfl⟩⟩
 clear M0 h hw
 rcases hq with hq | hq
 ·have e1:decide (1073741824<=hs)=false:=decide_eq_false (by omega)
  go_enter Tryd.func29,Tryd.ntmps29
  go_wp2_with (first | refine wpList_alloc_to rfl 58 rfl (some 4) rfl _ Tryd.zero58 (w.heap.size+2) HS2.out W0 HW0.out ?_ | refine wpList_buildTo rfl 58 _ rfl (some 16) rfl recZ.cs.toArray Tryd.built27 ?_ | refine wpList_store_rowTo rfl 58 _ _ rfl rfl (w.heap.size+2) recZ.cs.toArray rfl rfl 58 _ HO.out (size_recs rfl) rfl (all_oneCell_toArray (Rec.cs_one _)) ?_ | fail)
  refine bodyPost_ret (results_row_tmp rfl _ _ (w.heap.size+2) _ rfl (load_recs (setRow_heap _ _ _ _ _ _ HO.out) rfl)) rfl ?_
  exact⟨_,_,rfl,below_setRow HB.out (by omega) _,HP.out⟩
 ·go_enter Tryd.func29,Tryd.ntmps29
  go_wp2_with (first | refine wpList_alloc_to rfl 58 rfl (some 4) rfl _ Tryd.zero58 (w.heap.size+2) HS2.out W0 HW0.out ?_ | refine wpList_buildTo rfl 58 _ rfl (some 16) rfl recZ.cs.toArray Tryd.built27 ?_ | refine wpList_store_rowTo rfl 58 _ _ rfl rfl (w.heap.size+2) recZ.cs.toArray rfl rfl 58 _ HO.out (size_recs rfl) rfl (all_oneCell_toArray (Rec.cs_one _)) ?_ | fail)
  refine bodyPost_ret (results_row_tmp rfl _ _ (w.heap.size+2) _ rfl (load_recs (setRow_heap _ _ _ _ _ _ HO.out) rfl)) rfl ?_
  exact⟨_,_,rfl,below_setRow HB.out (by omega) _,HP.out⟩
set_option maxHeartbeats 6400000 in
set_option maxRecDepth 100000 in
theorem dmake_lead(hs he:Int)(hc:List Int)(r:Rec)(w:World)(hcl:hc.length=32)(hc8:∀j,(Lit.int .u8 (hc.getD j 0)).wf=true)(h:Rv w r)(hn:r.ps.length<=1000)(hq1:0<=hs)(hq2:hs<1073741824)(hk:r.kind=1):
 Calls Tryd.prog 29 #[.agg (hdL hs he hc).toArray,.agg r.cs.toArray] w fun e w'=>∃v e',e= .returned (.tuple #[v,.int .i64 e'])∧Below w.heap.size w w'∧MkQ hs he hc r v e':=by
 have M0:=Mk.start w hs he hc r hcl h.len
 obtain⟨W0,hW0⟩:∃W0,W0=((w.alloc (.cells (hdL hs he hc).toArray 27)).alloc (.cells r.cs.toArray 58)).alloc (.cells recZ.cs.toArray 58):=⟨_,rfl⟩
 rw[<-hW0] at M0
 have HW0:=hid hW0
 clear hW0
 have s1:(w.alloc (.cells (hdL hs he hc).toArray 27)).heap.size=w.heap.size+1:=by simp
 have HS2:Hid (w.heap.size+2=((w.alloc (.cells (hdL hs he hc).toArray 27)).alloc (.cells r.cs.toArray 58)).heap.size):=by show _=_;simp
 have d0:=M0.hd.c0
 have HMR:Hid (mkR hs he hc r= {r with seq:=hs+1,prev:=hc}):=by
  show _=_
  unfold mkR
  rw[if_pos hk,IntWalk.wrap64_in (hs+1) (by omega)]
 have h3:Rv w (mkR hs he hc r):=by
  rw[HMR.out]
  exact⟨hcl,hc8,wf_mk_i64 (x:=hs+1) (by omega) (by omega),h.epoch,h.kind,h.site,h.path,h.row⟩
 have HPR:Hid (∀v e,MkQ hs he hc r v e↔(e=fltO hs he hc (mkR hs he hc r)∧((e≠0∧v= .agg recZ.cs.toArray)∨(e=0∧v= .agg (mkR hs he hc r).cs.toArray)))):=fun _ _=>Iff.rfl
 have HNW:=hid (fun V (hV:Below w.heap.size w V)=>dnext_word hs he hc (mkR hs he hc r) V hcl (h3.later hV) hn)
 have HRL:=hid (Rec.cs_len h3.len)
 have HRK:=hid h3.len
 have HM0:=hid M0
 have HCL:Hid ((hc.map (Value.int .u8)).length=32):=by show _=_;simp[hcl]
 have HCA:Hid ((hc.map (Value.int .u8)).toArray.size=32):=by show _=_;simp[hcl]
 have HC23:Hid ((Tryd.prog.info? 25).map (·.size)=some (hc.map (Value.int .u8)).toArray.size):=by show _=_;rw[HCA.out];exact Tryd.size25
 have HC1:Hid (∀v∈hc.map (Value.int .u8),v.oneCell'=true):=fun v hv=>by obtain⟨z,_,rfl⟩:=List.mem_map.1 hv;rfl
 have HHL:=hid (hdL_len hs he hc hcl)
 have HHC:=hid hcl
 have g1:decide (1073741824<=hs)=false:=decide_eq_false (by omega)
 have g2:decide (hs<0)=false:=decide_eq_false (by omega)
 clear M0 h3 h
 go_enter Tryd.func29,Tryd.ntmps29
 go_wp2_with (first | refine wpList_alloc_to rfl 58 rfl (some 4) rfl _ Tryd.zero58 (w.heap.size+2) HS2.out W0 HW0.out ?_ | fail)
 refine wp_region_held_drew (S:=fun V=>Bh V w.heap.size hs he hc∧Below w.heap.size w V) (by kernel_rfl) ⟨⟨HM0.out.hd.blk,HM0.out.hd.len⟩,HM0.out.bel.drew⟩ (fun hS0=>?_)
 have HM1:Hid (Mk w W0.drew hs he hc r):=⟨⟨HM0.out.hd.blk,HM0.out.hd.len⟩,⟨HM0.out.box.blk,HM0.out.box.len⟩,HM0.out.out,HM0.out.bel.drew⟩
 generalize W0.drew=v0 at *
 clear HM0 d0
 simp only[List.size_toArray,List.length_cons,List.length_nil,Nat.reduceAdd]
 refine Ord.take (i:=0) (d:=17) (v:=?v0) rfl rfl (by as_aux_lemma=>kernel_rfl) (by as_aux_lemma=>kernel_rfl) (by as_aux_lemma=>kernel_rfl) (fun _ _ _ h=>h) (by rfl) ?hA0 (by assumption) ?_
 case hA0=>intro V hSw;go_simp;try with_reducible rfl
 try simp only[List.setIfInBounds_toArray,List.set_cons_zero,List.set_cons_succ]
 refine Ord.take (i:=1) (d:=18) (v:= .int .i64 hs) rfl rfl (by as_aux_lemma=>kernel_rfl) (by as_aux_lemma=>kernel_rfl) (by as_aux_lemma=>kernel_rfl) (fun _ _ _ h=>h) (by rfl) ?hA1 (by assumption) ?_
 case hA1=>intro V hSw;have q:=hSw.1.c0;go_simp;try with_reducible rfl
 try simp only[List.setIfInBounds_toArray,List.set_cons_zero,List.set_cons_succ]
 refine Ord.take (i:=2) (d:=19) (v:= .int .i64 (hs+1)) rfl rfl (by as_aux_lemma=>kernel_rfl) (by as_aux_lemma=>kernel_rfl) (by as_aux_lemma=>kernel_rfl) (fun _ _ _ h=>h) (by rfl) ?hA2 (by assumption) ?_
 case hA2=>intro V hSw;go_simp;exact IntWalk.i64_in _ (by omega)
 try simp only[List.setIfInBounds_toArray,List.set_cons_zero,List.set_cons_succ]
 refine Ord.take (i:=3) (d:=20) (v:=?v3) rfl rfl (by as_aux_lemma=>kernel_rfl) (by as_aux_lemma=>kernel_rfl) (by as_aux_lemma=>kernel_rfl) (fun _ _ _ h=>h) (by rfl) ?hA3 (by assumption) ?_
 case hA3=>intro V hSw;go_simp;try with_reducible rfl
 try simp only[List.setIfInBounds_toArray,List.set_cons_zero,List.set_cons_succ]
 refine Ord.take (i:=4) (d:=21) (v:= .agg (hc.map (Value.int .u8)).toArray) rfl rfl (by as_aux_lemma=>kernel_rfl) (by as_aux_lemma=>kernel_rfl) (by as_aux_lemma=>kernel_rfl) (fun _ _ _ h=>h) (by rfl) ?hA4 (by assumption) ?_
 case hA4=>intro V hSw;exact exec_load 25 (.tmp 20) rfl w.heap.size 2 rfl (run_loadVar_mid V w.heap.size 2 25 _ _ hSw.1.chain Tryd.underlying25 rfl (by rw[HCL.out];exact Tryd.size25))
 try simp only[List.setIfInBounds_toArray,List.set_cons_zero,List.set_cons_succ]
 refine Ord.take (i:=5) (d:=22) (v:=?v5) rfl rfl (by as_aux_lemma=>kernel_rfl) (by as_aux_lemma=>kernel_rfl) (by as_aux_lemma=>kernel_rfl) (fun _ _ _ h=>h) (by rfl) ?hA5 (by assumption) ?_
 case hA5=>intro V hSw;go_simp;try with_reducible rfl
 try simp only[List.setIfInBounds_toArray,List.set_cons_zero,List.set_cons_succ]
 refine wpAnyH_ready (rs:= [6]) (by as_aux_lemma=>kernel_rfl) (by simp) (AllReadyH.cons rfl (fun K hK=>?_) AllReadyH.nil)
 have HM2:=hid (HM1.out.seq (hs+1))
 have cc0:=HM1.out.box.c0
 have uu0:=Joins.unfrozen_of_block HM1.out.box.blk 0
 go_simp
 clear cc0 uu0
 refine hK.out _ _ ⟨HM2.out.hd,HM2.out.bel⟩ (fun _=>?_)
 clear hK K HM1
 generalize v0.setCell ⟨w.heap.size+1,0,none⟩ (.int .i64 (hs+1))=v1 at *
 try simp only[List.setIfInBounds_toArray,List.set_cons_zero,List.set_cons_succ]
 refine Ord.take (i:=7) (d:=23) (v:=?v7) rfl rfl (by as_aux_lemma=>kernel_rfl) (by as_aux_lemma=>kernel_rfl) (by as_aux_lemma=>kernel_rfl) (fun _ _ _ h=>h) (by rfl) ?hA7 (by assumption) ?_
 case hA7=>intro V hSw;go_simp;try with_reducible rfl
 try simp only[List.setIfInBounds_toArray,List.set_cons_zero,List.set_cons_succ]
 refine wpAnyH_ready (rs:= [8]) (by as_aux_lemma=>kernel_rfl) (by simp) (AllReadyH.cons rfl (fun K hK=>?_) AllReadyH.nil)
 rw[if_pos (by rfl)]
 have HM3:=hid (HM2.out.prev hc HHC.out)
 refine wp_store_mid 25 _ _ rfl (w.heap.size+1) 2 (hc.map (Value.int .u8)).toArray rfl rfl (by rw[HCA.out];exact HM2.out.box.there) HC23.out (all_oneCell_toArray HC1.out) ?_
 refine hK.out _ _ ⟨HM3.out.hd,HM3.out.bel⟩ (fun _=>?_)
 clear hK K HM2
 generalize v1.setCells (w.heap.size+1) 2 (hc.map (Value.int .u8)).toArray.toList=v2 at *
 try simp only[List.setIfInBounds_toArray,List.set_cons_zero,List.set_cons_succ]
 refine wpAnyH_done (by as_aux_lemma=>kernel_rfl) ?_ _
 have c34:v2.cell? ⟨w.heap.size+1,34,none⟩=some (.int .i64 r.kind):=HM3.out.box.c34
 have d1:=HM3.out.hd.c1
 have e1:=HM3.out.box.c1
 have u1:=Joins.unfrozen_of_block HM3.out.box.blk 1
 have HM4:=hid (HM3.out)
 obtain⟨R3,hR3⟩:∃R3,R3=mkR hs he hc r:=⟨_,rfl⟩
 have HM5:=hid (show Mk w v2 hs he hc R3 by rw[hR3,HMR.out];exact HM4.out)
 rw[<-hR3] at HNW HRL HRK HPR
 have HNX:=hid (HNW.out _ HM5.out.bel)
 have HR5:=hid HM5.out.hd.range
 have HX5:=hid HM5.out.box.range
 clear HMR HM4 HM3 HNW hR3
 rw[hk] at c34
 go_wp2_with (first | refine wpList_load_g rfl 27 _ rfl w.heap.size 0 rfl (hdL hs he hc) _ HR5.out Tryd.underlying27 rfl (by rw[HHL.out];exact Tryd.size27) ?_ | refine wpList_load_g rfl 58 _ rfl (w.heap.size+1) 0 rfl R3.cs _ HX5.out Tryd.underlying58 rfl (by rw[HRL.out];exact Tryd.size58) ?_ | fail)
 refine HNX.out.mono ?_
 rintro _ W4 ⟨rfl,hb4⟩
 obtain⟨NN,hNN⟩:∃NN,NN=nxO hs he hc R3:=⟨_,rfl⟩
 have hNl:NN.2.2.length=32:=by rw[hNN];exact nxO_len _ _ _ _
 rw[<-hNN]
 obtain⟨na,nb,nc⟩:=NN
 have hNl':nc.length=32:=hNl
 have hbb:=bel_alc W4 (.cells (hdL na nb nc).toArray 27)
 have HSN:Hid ((Tryd.prog.info? 27).map (·.size)=some (hdL na nb nc).toArray.size):=size_hd hNl'
 have HZS:Hid ((hdL 0 0 z32).toArray.size=(hdL na nb nc).toArray.size):=by show _=_;rw[List.size_toArray,List.size_toArray,hdL_len _ _ _ rfl,hdL_len _ _ _ hNl']
 have HON:=hid (all_oneCell_toArray (hdL_one na nb nc))
 have HM6:=hid (HM5.out.later (Bn hb4 hbb))
 obtain⟨W5,hW5⟩:∃W5,W5=W4.alloc (.cells (hdL na nb nc).toArray 27):=⟨_,rfl⟩
 have HW5:=hid hW5
 rw[<-hW5] at HM6
 have HO6:=hid HM6.out.out
 have HB6:=hid HM6.out.bel
 have HX6:=hid HM6.out.box.range
 clear hb4 hbb hNN hNl hNl' HNX HM5 HR5 HX5 hW5 c34 d1 e1 u1
 generalize fltO hs he hc R3=F at *
 by_cases h0:F=0
 ·subst h0
  go_wp2_with (first | refine wpList_alloc_at rfl 27 rfl (some 6) rfl _ Tryd.zero27 W4.heap.size rfl ?_ | refine wpList_store_as' rfl 27 _ _ rfl rfl W4 (hdL 0 0 z32).toArray (hdL na nb nc).toArray rfl rfl rfl HSN.out HZS.out HON.out W5 HW5.out ?_ | refine wpList_load_g rfl 58 _ rfl (w.heap.size+1) 0 rfl R3.cs _ HX6.out Tryd.underlying58 rfl (by rw[HRL.out];exact Tryd.size58) ?_ | refine wpList_store_rowTo rfl 58 _ _ rfl rfl (w.heap.size+2) R3.cs.toArray rfl rfl 58 _ HO6.out (size_recs HRK.out) (by rw[Rec.cs_size HRK.out];rfl) (all_oneCell_toArray (Rec.cs_one _)) ?_ | fail)
  refine bodyPost_ret (results_row_tmp rfl _ _ (w.heap.size+2) _ rfl (load_recs (setRow_heap _ _ _ _ _ _ HO6.out) HRK.out)) rfl ?_
  exact⟨_,_,rfl,below_setRow HB6.out (by omega) _,(HPR.out _ _).2 ⟨rfl,.inr ⟨rfl,rfl⟩⟩⟩
 ·have HF0:=hid h0
  go_wp2_with (first | refine wpList_alloc_at rfl 27 rfl (some 6) rfl _ Tryd.zero27 W4.heap.size rfl ?_ | refine wpList_store_as' rfl 27 _ _ rfl rfl W4 (hdL 0 0 z32).toArray (hdL na nb nc).toArray rfl rfl rfl HSN.out HZS.out HON.out W5 HW5.out ?_ | refine wpList_buildTo rfl 58 _ rfl (some 38) rfl recZ.cs.toArray Tryd.built27 ?_ | refine wpList_store_rowTo rfl 58 _ _ rfl rfl (w.heap.size+2) recZ.cs.toArray rfl rfl 58 _ HO6.out (size_recs rfl) rfl (all_oneCell_toArray (Rec.cs_one _)) ?_ | fail)
  refine bodyPost_ret (results_row_tmp rfl _ _ (w.heap.size+2) _ rfl (load_recs (setRow_heap _ _ _ _ _ _ HO6.out) rfl)) rfl ?_
  exact⟨_,_,rfl,below_setRow HB6.out (by omega) _,(HPR.out _ _).2 ⟨rfl,.inl ⟨HF0.out,rfl⟩⟩⟩
set_option maxHeartbeats 6400000 in
set_option maxRecDepth 100000 in
theorem dmake_other(hs he:Int)(hc:List Int)(r:Rec)(w:World)(hcl:hc.length=32)(hc8:∀j,(Lit.int .u8 (hc.getD j 0)).wf=true)(hhe:(Lit.int .i64 he).wf=true)(h:Rv w r)(hn:r.ps.length<=1000)(hq1:0<=hs)(hq2:hs<1073741824)(hk:r.kind≠1):
 Calls Tryd.prog 29 #[.agg (hdL hs he hc).toArray,.agg r.cs.toArray] w fun e w'=>∃v e',e= .returned (.tuple #[v,.int .i64 e'])∧Below w.heap.size w w'∧MkQ hs he hc r v e':=by
 have M0:=Mk.start w hs he hc r hcl h.len
 obtain⟨W0,hW0⟩:∃W0,W0=((w.alloc (.cells (hdL hs he hc).toArray 27)).alloc (.cells r.cs.toArray 58)).alloc (.cells recZ.cs.toArray 58):=⟨_,rfl⟩
 rw[<-hW0] at M0
 have HW0:=hid hW0
 clear hW0
 have s1:(w.alloc (.cells (hdL hs he hc).toArray 27)).heap.size=w.heap.size+1:=by simp
 have HS2:Hid (w.heap.size+2=((w.alloc (.cells (hdL hs he hc).toArray 27)).alloc (.cells r.cs.toArray 58)).heap.size):=by show _=_;simp
 have d0:=M0.hd.c0
 have HMR:Hid (mkR hs he hc r= {r with seq:=hs+1,prev:=hc,epoch:=he}):=by
  show _=_
  unfold mkR
  rw[if_neg hk,IntWalk.wrap64_in (hs+1) (by omega)]
 have h3:Rv w (mkR hs he hc r):=by
  rw[HMR.out]
  exact⟨hcl,hc8,wf_mk_i64 (x:=hs+1) (by omega) (by omega),hhe,h.kind,h.site,h.path,h.row⟩
 have HPR:Hid (∀v e,MkQ hs he hc r v e↔(e=fltO hs he hc (mkR hs he hc r)∧((e≠0∧v= .agg recZ.cs.toArray)∨(e=0∧v= .agg (mkR hs he hc r).cs.toArray)))):=fun _ _=>Iff.rfl
 have HNW:=hid (fun V (hV:Below w.heap.size w V)=>dnext_word hs he hc (mkR hs he hc r) V hcl (h3.later hV) hn)
 have HRL:=hid (Rec.cs_len h3.len)
 have HRK:=hid h3.len
 have HM0:=hid M0
 have HCL:Hid ((hc.map (Value.int .u8)).length=32):=by show _=_;simp[hcl]
 have HCA:Hid ((hc.map (Value.int .u8)).toArray.size=32):=by show _=_;simp[hcl]
 have HC23:Hid ((Tryd.prog.info? 25).map (·.size)=some (hc.map (Value.int .u8)).toArray.size):=by show _=_;rw[HCA.out];exact Tryd.size25
 have HC1:Hid (∀v∈hc.map (Value.int .u8),v.oneCell'=true):=fun v hv=>by obtain⟨z,_,rfl⟩:=List.mem_map.1 hv;rfl
 have HHL:=hid (hdL_len hs he hc hcl)
 have HHC:=hid hcl
 have g1:decide (1073741824<=hs)=false:=decide_eq_false (by omega)
 have g2:decide (hs<0)=false:=decide_eq_false (by omega)
 clear M0 h3 h hhe
 go_enter Tryd.func29,Tryd.ntmps29
 go_wp2_with (first | refine wpList_alloc_to rfl 58 rfl (some 4) rfl _ Tryd.zero58 (w.heap.size+2) HS2.out W0 HW0.out ?_ | fail)
 refine wp_region_held_drew (S:=fun V=>Bh V w.heap.size hs he hc∧Below w.heap.size w V) (by kernel_rfl) ⟨⟨HM0.out.hd.blk,HM0.out.hd.len⟩,HM0.out.bel.drew⟩ (fun hS0=>?_)
 have HM1:Hid (Mk w W0.drew hs he hc r):=⟨⟨HM0.out.hd.blk,HM0.out.hd.len⟩,⟨HM0.out.box.blk,HM0.out.box.len⟩,HM0.out.out,HM0.out.bel.drew⟩
 generalize W0.drew=v0 at *
 clear HM0 d0
 simp only[List.size_toArray,List.length_cons,List.length_nil,Nat.reduceAdd]
 refine Ord.take (i:=0) (d:=17) (v:=?v0) rfl rfl (by as_aux_lemma=>kernel_rfl) (by as_aux_lemma=>kernel_rfl) (by as_aux_lemma=>kernel_rfl) (fun _ _ _ h=>h) (by rfl) ?hA0 (by assumption) ?_
 case hA0=>intro V hSw;go_simp;try with_reducible rfl
 try simp only[List.setIfInBounds_toArray,List.set_cons_zero,List.set_cons_succ]
 refine Ord.take (i:=1) (d:=18) (v:= .int .i64 hs) rfl rfl (by as_aux_lemma=>kernel_rfl) (by as_aux_lemma=>kernel_rfl) (by as_aux_lemma=>kernel_rfl) (fun _ _ _ h=>h) (by rfl) ?hA1 (by assumption) ?_
 case hA1=>intro V hSw;have q:=hSw.1.c0;go_simp;try with_reducible rfl
 try simp only[List.setIfInBounds_toArray,List.set_cons_zero,List.set_cons_succ]
 refine Ord.take (i:=2) (d:=19) (v:= .int .i64 (hs+1)) rfl rfl (by as_aux_lemma=>kernel_rfl) (by as_aux_lemma=>kernel_rfl) (by as_aux_lemma=>kernel_rfl) (fun _ _ _ h=>h) (by rfl) ?hA2 (by assumption) ?_
 case hA2=>intro V hSw;go_simp;exact IntWalk.i64_in _ (by omega)
 try simp only[List.setIfInBounds_toArray,List.set_cons_zero,List.set_cons_succ]
 refine Ord.take (i:=3) (d:=20) (v:=?v3) rfl rfl (by as_aux_lemma=>kernel_rfl) (by as_aux_lemma=>kernel_rfl) (by as_aux_lemma=>kernel_rfl) (fun _ _ _ h=>h) (by rfl) ?hA3 (by assumption) ?_
 case hA3=>intro V hSw;go_simp;try with_reducible rfl
 try simp only[List.setIfInBounds_toArray,List.set_cons_zero,List.set_cons_succ]
 refine Ord.take (i:=4) (d:=21) (v:= .agg (hc.map (Value.int .u8)).toArray) rfl rfl (by as_aux_lemma=>kernel_rfl) (by as_aux_lemma=>kernel_rfl) (by as_aux_lemma=>kernel_rfl) (fun _ _ _ h=>h) (by rfl) ?hA4 (by assumption) ?_
 case hA4=>intro V hSw;exact exec_load 25 (.tmp 20) rfl w.heap.size 2 rfl (run_loadVar_mid V w.heap.size 2 25 _ _ hSw.1.chain Tryd.underlying25 rfl (by rw[HCL.out];exact Tryd.size25))
 try simp only[List.setIfInBounds_toArray,List.set_cons_zero,List.set_cons_succ]
 refine Ord.take (i:=5) (d:=22) (v:=?v5) rfl rfl (by as_aux_lemma=>kernel_rfl) (by as_aux_lemma=>kernel_rfl) (by as_aux_lemma=>kernel_rfl) (fun _ _ _ h=>h) (by rfl) ?hA5 (by assumption) ?_
 case hA5=>intro V hSw;go_simp;try with_reducible rfl
 try simp only[List.setIfInBounds_toArray,List.set_cons_zero,List.set_cons_succ]
 refine wpAnyH_ready (rs:= [6]) (by as_aux_lemma=>kernel_rfl) (by simp) (AllReadyH.cons rfl (fun K hK=>?_) AllReadyH.nil)
 have HM2:=hid (HM1.out.seq (hs+1))
 have cc0:=HM1.out.box.c0
 have uu0:=Joins.unfrozen_of_block HM1.out.box.blk 0
 go_simp
 clear cc0 uu0
 refine hK.out _ _ ⟨HM2.out.hd,HM2.out.bel⟩ (fun _=>?_)
 clear hK K HM1
 generalize v0.setCell ⟨w.heap.size+1,0,none⟩ (.int .i64 (hs+1))=v1 at *
 try simp only[List.setIfInBounds_toArray,List.set_cons_zero,List.set_cons_succ]
 refine Ord.take (i:=7) (d:=23) (v:=?v7) rfl rfl (by as_aux_lemma=>kernel_rfl) (by as_aux_lemma=>kernel_rfl) (by as_aux_lemma=>kernel_rfl) (fun _ _ _ h=>h) (by rfl) ?hA7 (by assumption) ?_
 case hA7=>intro V hSw;go_simp;try with_reducible rfl
 try simp only[List.setIfInBounds_toArray,List.set_cons_zero,List.set_cons_succ]
 refine wpAnyH_ready (rs:= [8]) (by as_aux_lemma=>kernel_rfl) (by simp) (AllReadyH.cons rfl (fun K hK=>?_) AllReadyH.nil)
 rw[if_pos (by rfl)]
 have HM3:=hid (HM2.out.prev hc HHC.out)
 refine wp_store_mid 25 _ _ rfl (w.heap.size+1) 2 (hc.map (Value.int .u8)).toArray rfl rfl (by rw[HCA.out];exact HM2.out.box.there) HC23.out (all_oneCell_toArray HC1.out) ?_
 refine hK.out _ _ ⟨HM3.out.hd,HM3.out.bel⟩ (fun _=>?_)
 clear hK K HM2
 generalize v1.setCells (w.heap.size+1) 2 (hc.map (Value.int .u8)).toArray.toList=v2 at *
 try simp only[List.setIfInBounds_toArray,List.set_cons_zero,List.set_cons_succ]
 refine wpAnyH_done (by as_aux_lemma=>kernel_rfl) ?_ _
 have c34:v2.cell? ⟨w.heap.size+1,34,none⟩=some (.int .i64 r.kind):=HM3.out.box.c34
 have d1:=HM3.out.hd.c1
 have e1:=HM3.out.box.c1
 have u1:=Joins.unfrozen_of_block HM3.out.box.blk 1
 have HM4:=hid (HM3.out.epoch he)
 obtain⟨R3,hR3⟩:∃R3,R3=mkR hs he hc r:=⟨_,rfl⟩
 have HM5:=hid (show Mk w (v2.setCell ⟨w.heap.size+1,1,none⟩ (.int .i64 he)) hs he hc R3 by rw[hR3,HMR.out];exact HM4.out)
 rw[<-hR3] at HNW HRL HRK HPR
 have HNX:=hid (HNW.out _ HM5.out.bel)
 have HR5:=hid HM5.out.hd.range
 have HX5:=hid HM5.out.box.range
 clear HMR HM4 HM3 HNW hR3
 skip
 go_wp2_with (first | refine wpList_load_g rfl 27 _ rfl w.heap.size 0 rfl (hdL hs he hc) _ HR5.out Tryd.underlying27 rfl (by rw[HHL.out];exact Tryd.size27) ?_ | refine wpList_load_g rfl 58 _ rfl (w.heap.size+1) 0 rfl R3.cs _ HX5.out Tryd.underlying58 rfl (by rw[HRL.out];exact Tryd.size58) ?_ | fail)
 refine HNX.out.mono ?_
 rintro _ W4 ⟨rfl,hb4⟩
 obtain⟨NN,hNN⟩:∃NN,NN=nxO hs he hc R3:=⟨_,rfl⟩
 have hNl:NN.2.2.length=32:=by rw[hNN];exact nxO_len _ _ _ _
 rw[<-hNN]
 obtain⟨na,nb,nc⟩:=NN
 have hNl':nc.length=32:=hNl
 have hbb:=bel_alc W4 (.cells (hdL na nb nc).toArray 27)
 have HSN:Hid ((Tryd.prog.info? 27).map (·.size)=some (hdL na nb nc).toArray.size):=size_hd hNl'
 have HZS:Hid ((hdL 0 0 z32).toArray.size=(hdL na nb nc).toArray.size):=by show _=_;rw[List.size_toArray,List.size_toArray,hdL_len _ _ _ rfl,hdL_len _ _ _ hNl']
 have HON:=hid (all_oneCell_toArray (hdL_one na nb nc))
 have HM6:=hid (HM5.out.later (Bn hb4 hbb))
 obtain⟨W5,hW5⟩:∃W5,W5=W4.alloc (.cells (hdL na nb nc).toArray 27):=⟨_,rfl⟩
 have HW5:=hid hW5
 rw[<-hW5] at HM6
 have HO6:=hid HM6.out.out
 have HB6:=hid HM6.out.bel
 have HX6:=hid HM6.out.box.range
 clear hb4 hbb hNN hNl hNl' HNX HM5 HR5 HX5 hW5 c34 d1 e1 u1
 generalize fltO hs he hc R3=F at *
 by_cases h0:F=0
 ·subst h0
  go_wp2_with (first | refine wpList_alloc_at rfl 27 rfl (some 6) rfl _ Tryd.zero27 W4.heap.size rfl ?_ | refine wpList_store_as' rfl 27 _ _ rfl rfl W4 (hdL 0 0 z32).toArray (hdL na nb nc).toArray rfl rfl rfl HSN.out HZS.out HON.out W5 HW5.out ?_ | refine wpList_load_g rfl 58 _ rfl (w.heap.size+1) 0 rfl R3.cs _ HX6.out Tryd.underlying58 rfl (by rw[HRL.out];exact Tryd.size58) ?_ | refine wpList_store_rowTo rfl 58 _ _ rfl rfl (w.heap.size+2) R3.cs.toArray rfl rfl 58 _ HO6.out (size_recs HRK.out) (by rw[Rec.cs_size HRK.out];rfl) (all_oneCell_toArray (Rec.cs_one _)) ?_ | fail)
  refine bodyPost_ret (results_row_tmp rfl _ _ (w.heap.size+2) _ rfl (load_recs (setRow_heap _ _ _ _ _ _ HO6.out) HRK.out)) rfl ?_
  exact⟨_,_,rfl,below_setRow HB6.out (by omega) _,(HPR.out _ _).2 ⟨rfl,.inr ⟨rfl,rfl⟩⟩⟩
 ·have HF0:=hid h0
  go_wp2_with (first | refine wpList_alloc_at rfl 27 rfl (some 6) rfl _ Tryd.zero27 W4.heap.size rfl ?_ | refine wpList_store_as' rfl 27 _ _ rfl rfl W4 (hdL 0 0 z32).toArray (hdL na nb nc).toArray rfl rfl rfl HSN.out HZS.out HON.out W5 HW5.out ?_ | refine wpList_buildTo rfl 58 _ rfl (some 38) rfl recZ.cs.toArray Tryd.built27 ?_ | refine wpList_store_rowTo rfl 58 _ _ rfl rfl (w.heap.size+2) recZ.cs.toArray rfl rfl 58 _ HO6.out (size_recs rfl) rfl (all_oneCell_toArray (Rec.cs_one _)) ?_ | fail)
  refine bodyPost_ret (results_row_tmp rfl _ _ (w.heap.size+2) _ rfl (load_recs (setRow_heap _ _ _ _ _ _ HO6.out) rfl)) rfl ?_
  exact⟨_,_,rfl,below_setRow HB6.out (by omega) _,(HPR.out _ _).2 ⟨rfl,.inl ⟨HF0.out,rfl⟩⟩⟩
end Go.Proofs.YtplinkmagnihmaaDoor
