/-
 Plain facts: packed tokens are unpacked as they were, a row is decoded as it was encoded.
-/
import Derived.Test.YtelnefngkdfcoaaGreatPart23
import Derived.Test.YtelnefngkdfcoaaGreatPart22
import Derived.Laws.MakeOwn
import Derived.Test.YtelnefngkdfcoaaGreatPart08
import Derived.Test.YtelnefngkdfcoaaGreatPart03
namespace Go.Proofs.YtelnefngkdfcoaaGreat
open Hf Lz
theorem symL_code{ls:List Int}(hc:checkB ls=true)(x:Nat)(hx:x<ls.length)(h0:0<ls.getD x 0):symL ls (codesL ls) x=low (codeN ls x) (ls.getD x 0).toNat:=by
 have hok:lenOk ls=true:=by unfold checkB at hc;rw[Bool.and_eq_true] at hc;exact hc.1
 have hr:=(lenOk_all hok).2 _ (show ls.getD x 0∈ls from by simp[List.getD,List.getElem?_eq_getElem hx])
 have hlt:=codeN_lt hc x (ls.getD x 0).toNat hx (by omega) (by omega) (by omega)
 have hp:2^(ls.getD x 0).toNat<=2^15:=Nat.pow_le_pow_right (by decide) (by omega)
 unfold symL
 rw[codesL_getD ls x hx]
 unfold codeF
 rw[if_pos h0,Int.toNat_natCast,Nat.mod_eq_of_lt (by omega)]
theorem chk_cases{t:Tkz}(h:chkZ t=0):(t.1=0∧t.2.1=1)∨(1<=t.1∧t.1<=4096∧4<=t.2.1∧t.2.1<=258∧t.2.2=0):=by
 unfold chkZ kindZ at h
 by_cases h1:litB t=true
 ·left;unfold litB at h1;simpa using h1
 ·by_cases h2:cpyB t=true
  ·right;unfold cpyB at h2;simpa using h2
  ·simp[h1,h2] at h
structure Tg (ls ds:List Int) (t:Tkz):Prop where
 chk:chkZ t=0
 u8:0<=t.2.2∧t.2.2<=255
 sym:0<ls.getD (symZ t).toNat 0
 dst:t.1≠0->0<ds.getD (dstZ t.1).toNat 0
theorem tok_read{ls ds:List Int}(h1:checkB ls=true)(h2:checkB ds=true)(hl:ls.length=511)(hd:ds.length=13){t:Tkz}(ht:Tg ls ds t)(s:Bst)(r:List Nat)(hs:bitsOf s=tokL ls (codesL ls) ds (codesL ds) t++r):
 ∃s',tokR (treeG ls ls.length) (treeG ds ds.length) s=some (t,s')∧bitsOf s'=r:=by
 obtain⟨d,n,x⟩:=t
 obtain⟨hk,h8,hp,hq⟩:=ht
 dsimp only at *
 unfold tokL at hs
 dsimp only at hs
 unfold symZ at hs hp
 dsimp only at hs hp
 rcases chk_cases hk with ⟨e1,e2⟩ | ⟨e1,e2,e3,e4,e5⟩
 ·dsimp only at e1 e2
  subst e1 e2
  rw[if_pos rfl] at hs hp
  rw[if_pos rfl,symL_code h1 _ (by omega) hp] at hs
  obtain⟨s',r1,r2⟩:=symR_walk ls h1 x.toNat (by omega) hp s r hs
  refine⟨s',?_,r2⟩
  unfold tokR
  rw[r1]
  dsimp only
  rw[if_pos (by omega),show((x.toNat:Nat):Int)=x from by omega]
 ·dsimp only at e1 e2 e3 e4 e5
  subst e5
  have hdr:=dst_rng e1 e2
  have hq':=hq (by omega)
  rw[if_neg (by omega)] at hs hp
  rw[if_neg (by omega),symL_code h1 _ (by omega) hp,symL_code h2 _ (by omega) hq',List.append_assoc,List.append_assoc] at hs
  obtain⟨s1,r1,r2⟩:=symR_walk ls h1 (252+n).toNat (by omega) hp s _ hs
  obtain⟨s2,r3,r4⟩:=symR_walk ds h2 (dstZ d).toNat (by omega) hq' s1 _ r2
  obtain⟨s3,r5,r6⟩:=distR_low d.toNat (dstZ d).toNat 1 s2 r r4
  refine⟨s3,?_,r6⟩
  unfold tokR
  rw[r1]
  dsimp only
  rw[if_neg (by omega),r3]
  dsimp only
  rw[Int.toNat_natCast,r5]
  dsimp only
  have hlog:2^(dstZ d).toNat*1+d.toNat%2^(dstZ d).toNat=d.toNat:=by
   unfold dstZ
   rw[Int.toNat_natCast,Nat.mul_one]
   have a1:=Nat.log2_self_le (show d.toNat≠0 by omega)
   have a2:d.toNat<2^(Nat.log2 d.toNat+1):=Nat.lt_log2_self
   rw[Nat.pow_succ] at a2
   rw[Nat.mod_eq_sub_mod a1,Nat.mod_eq_of_lt (by omega)]
   omega
  rw[hlog,show((d.toNat:Nat):Int)=d from by omega,show(((252+n).toNat:Nat):Int)-252=n from by omega]
theorem toks_read{ls ds:List Int}(h1:checkB ls=true)(h2:checkB ds=true)(hl:ls.length=511)(hd:ds.length=13):∀(m acc:List Tkz) (s:Bst) (r:List Nat),(∀t∈m,Tg ls ds t)->bitsOf s=m.flatMap (tokL ls (codesL ls) ds (codesL ds))++r ->
 ∃s',toksG (treeG ls ls.length) (treeG ds ds.length) m.length acc s=some (acc++m,s')
 | [],acc,s,r,_,_=>⟨s,by simp[toksG]⟩
 | t::m,acc,s,r,ht,hs=>by
   rw[List.flatMap_cons,List.append_assoc] at hs
   obtain⟨s1,r1,r2⟩:=tok_read h1 h2 hl hd (ht t (List.mem_cons_self ..)) s _ hs
   obtain⟨s2,r3⟩:=toks_read h1 h2 hl hd m (acc++ [t]) s1 r (fun u hu=>ht u (List.mem_cons_of_mem _ hu)) r2
   refine⟨s2,?_⟩
   rw[List.length_cons,toksG,r1]
   dsimp only
   rw[r3]
   simp
theorem codes_all(l:List Tkz)(hn:l.length<=65536):(lsF l).length=511∧checkB (lsF l)=true∧(dsF l).length=13∧checkB (dsF l)=true∧(∀u,u<511->0<(kindsN l l.length).getD u 0->0<(lsF l).getD u 0)∧(∀u,u<13->0<(distsN l l.length).getD u 0->0<(dsF l).getD u 0):=by
 obtain⟨a1,a2,a3⟩:=lenF_all (cs:=intL (kindsN l l.length)) (by rw[intL_length,kinds_length];decide) (fun k=>by rw[intL_getD];have:=kinds_le l l.length k;omega)
 obtain⟨b1,b2,b3⟩:=lenF_all (cs:=intL (distsN l l.length)) (by rw[intL_length,dists_length];decide) (fun k=>by rw[intL_getD];have:=dists_le l l.length k;omega)
 rw[intL_length,kinds_length] at a1 a3
 rw[intL_length,dists_length] at b1 b3
 exact⟨a1,a2,b1,b2,fun u hu h=>a3 u hu (by rw[intL_getD];omega),fun u hu h=>b3 u hu (by rw[intL_getD];omega)⟩
theorem unp_pack(l:List Tkz)(hn:l.length<=65536)(hz:(sizeO l).2=0)(h8:∀j,j<l.length->0<=(l.getD j tk0).2.2∧(l.getD j tk0).2.2<=255):unpO (packB l)=some l:=by
 obtain⟨a1,a2,b1,b2,a3,b3⟩:=codes_all l hn
 have hall:=sizeO_all hz
 have hT:∀t∈l,Tg (lsF l) (dsF l) t:=fun t ht=>by
  obtain⟨j,hj,rfl⟩:=List.getElem_of_mem ht
  have e:l.getD j tk0=l[j]:=by simp[List.getD,List.getElem?_eq_getElem hj]
  have c1:=hall j hj
  have c2:=h8 j hj
  have c3:=kinds_pos l j hj
  have c4:=dists_pos l j hj
  rw[e] at c1 c2 c3 c4
  have c5:=chk_two c1 c2
  refine⟨c1,c2,a3 _ (by rcases c5 with h | h<;>omega) (c3 (by rcases c5 with h | h<;>omega)),fun hne=>?_⟩
  rcases c5 with h | h
  ·exact absurd h.1 hne
  ·have:=dst_rng h.1 h.2.1
   exact b3 _ (by omega) (c4 (by omega) (by omega))
 obtain⟨M,e1,e2,_⟩:=Wv.toks (H:=headP l) (lsF l) (codesL (lsF l)) (dsF l) (codesL (dsF l)) l l.length (Nat.le_refl _)
 rw[List.take_length] at e2
 obtain⟨s',hs⟩:=toks_read a2 b2 a1 b1 l [] (M,0,0) _ hT (by unfold bitsOf;dsimp only;rw[low,List.nil_append];exact e2)
 have hp:packB l=headP l++M:=by unfold packB;exact e1
 have ht:toksR (packB l)=some (l,s'):=by
  rw[hp]
  unfold toksR headP
  rw[List.append_assoc,List.append_assoc,lensR_runs 511 (by decide) _ _ a1]
  dsimp only
  rw[if_pos a2,lensR_runs 13 (by decide) _ _ b1]
  dsimp only
  rw[if_pos b2,numO_vint _ _ _ (by omega) (by decide)]
  dsimp only
  rw[hs,List.nil_append]
 unfold unpO
 rw[ht]
 dsimp only
 rw[if_pos ⟨hz,rfl⟩]
def encB(bs:List Int):List Int:=if (packB ((toksL bs).map toZ)).length<bs.length then codB 1 bs.length (packB ((toksL bs).map toZ)) else codB 0 bs.length bs
theorem tok_lit(bs:List Int):∀(n q:Nat),bs.length-q<=n->q<=bs.length->(from_ bs q).length<=bs.length-q∧sumZ ((from_ bs q).map toZ)=((bs.length-q:Nat):Int)∧allB ((from_ bs q).map toZ)=true
 | 0,q,h,hq=>by
   have:from_ bs q= []:=by unfold from_;rw[show bs.length-q=0 from by omega];rfl
   rw[this,show bs.length-q=0 from by omega]
   simp[sumZ,allB]
 | n+1,q,h,hq=>by
   by_cases hlt:q<bs.length
   ·rw[from_step hlt]
    rcases longT_cases bs q hlt with e | ⟨d,m,e,c1,c2,c3,c4,c5,c6,_,_⟩
    ·rw[e]
     dsimp only
     obtain⟨i1,i2,i3⟩:=tok_lit bs n (q+1) (by omega) (by omega)
     refine⟨by rw[List.length_cons];omega,?_,?_⟩
     ·rw[List.map_cons,sumZ,i2];simp only[toZ];omega
     ·rw[List.map_cons,allB,List.all_cons]
      unfold allB at i3
      rw[i3]
      simp[toZ,chkZ,kindZ,litB]
    ·rw[e]
     dsimp only
     obtain⟨i1,i2,i3⟩:=tok_lit bs n (q+m) (by omega) (by omega)
     refine⟨by rw[List.length_cons];omega,?_,?_⟩
     ·rw[List.map_cons,sumZ,i2];simp only[toZ];omega
     ·rw[List.map_cons,allB,List.all_cons]
      unfold allB at i3
      rw[i3]
      have hc:chkZ (toZ (d,m,0))=0:=by
       have a1:decide ((1:Int)<=(d:Int))=true:=decide_eq_true (by omega)
       have a2:decide ((d:Int)<=4096)=true:=decide_eq_true (by omega)
       have a3:decide ((4:Int)<=(m:Int))=true:=decide_eq_true (by omega)
       have a4:decide ((m:Int)<=258)=true:=decide_eq_true (by omega)
       have hcp:cpyB (toZ (d,m,0))=true:=by
        unfold cpyB toZ
        dsimp only
        rw[a1,a2,a3,a4];rfl
       unfold chkZ kindZ
       rw[hcp]
       cases litB (toZ (d,m,0))<;>rfl
      rw[hc];rfl
   ·have:from_ bs q= []:=by unfold from_;rw[show bs.length-q=0 from by omega];rfl
    rw[this,show bs.length-q=0 from by omega]
    simp[sumZ,allB]
theorem toks_size(bs:List Int)(hL:bs.length<=65536):(toksL bs).length<=bs.length∧(sizeO ((toksL bs).map toZ)).2=0:=by
 obtain⟨h1,h2,h3⟩:=tok_lit bs bs.length 0 (by omega) (by omega)
 rw[toksL_from]
 refine⟨by omega,?_⟩
 unfold sizeO
 rw[if_pos h3,h2,if_neg (by omega)]
theorem head_cod(f:Nat)(hf:f=0∨f=1)(n:Nat)(hn:n<=65536)(zs:List Int):headO (codB f n zs)=some ((n,f==1),zs):=by
 unfold headO codB
 rw[List.append_assoc,List.singleton_append]
 dsimp only
 rw[if_pos (by rcases hf with rfl | rfl<;>decide),numO_vint _ _ _ hn (by decide)]
 rcases hf with rfl | rfl<;>rfl
theorem row_enc(bs:List Int)(h8:Bytes8 bs)(hL:bs.length<=65536):rowO (encB bs)=some bs:=by
 have hts:=toks_size bs (by omega)
 unfold encB
 by_cases h:(packB ((toksL bs).map toZ)).length<bs.length
 ·rw[if_pos h]
  unfold rowO
  rw[head_cod 1 (.inr rfl) _ (by omega)]
  dsimp only
  rw[if_pos (show((1:Nat)==1)=true from rfl),unp_pack _ (by rw[List.length_map];omega) hts.2 (fun j hj=>by
   rw[List.length_map] at hj
   have hf:=tks_fit bs h8 ((toksL bs)[j]) (by unfold tksO;rw[if_neg (by omega)];exact List.getElem_mem _)
   have e:((toksL bs).map toZ).getD j tk0=toZ (toksL bs)[j]:=by simp[List.getD,hj]
   rw[e]
   have:=wf_u8 hf.2.2
   simpa [toZ] using this)]
  dsimp only
  rw[back_eq bs h8 (by omega)]
  rw[if_pos ⟨rfl,rfl⟩]
 ·rw[if_neg h]
  unfold rowO
  rw[head_cod 0 (.inl rfl) _ (by omega)]
  simp
end Go.Proofs.YtelnefngkdfcoaaGreat
/-
 Encode, for up to 1000 bytes, and for more than it takes.
-/
namespace Go.Proofs.YtelnefngkdfcoaaGreat
open Go.RowKit Hf Lz
def CncPost(bs:List Int)(w:World)(e:Ending)(w':World):Prop:=
 Below w.heap.size w w'∧∃a c,e= .returned (.tuple #[.slice a (encB bs).length c,.int .i64 0])∧Ri w' .u8 a c (encB bs)
theorem codB_u8(f n:Nat)(zs:List Int)(hf:f<=255)(hn:n<=100000)(hz:∀j,0<=zs.getD j 0∧zs.getD j 0<=255)(j:Nat):0<=(codB f n zs).getD j 0∧(codB f n zs).getD j 0<=255:=by
 unfold codB
 cases j with
 | zero=>simp[List.getD];omega
 | succ j=>
   have hv:=vint_u8 (n:Int) (by omega) (by omega)
   rw[List.append_assoc,List.singleton_append,List.getD_cons_succ]
   by_cases h:j<(vint (n:Int)).length
   ·have:=hv j
    rw[List.getD_eq_getElem?_getD,List.getElem?_append_left h,<-List.getD_eq_getElem?_getD]
    exact this
   ·rw[List.getD_eq_getElem?_getD,List.getElem?_append_right (by omega),<-List.getD_eq_getElem?_getD]
    exact hz _
set_option maxHeartbeats 3200000 in
set_option maxRecDepth 100000 in
theorem cenc_word(a:Option Addr)(cap:Nat)(bs:List Int)(w:World)(hr:Ri w .u8 a cap bs)(hn:bs.length<=4200):
 Calls Tryz.prog 15 #[.slice a bs.length cap] w (CncPost bs w):=by
 have HTK:=hid (tokens_word a cap bs w hr)
 have hO:tksO bs=(toksL bs,0):=by unfold tksO;rw[if_neg (by omega)]
 have HFT:=hid (tks_fit bs hr.fits)
 have HTS:=hid (toks_size bs (by omega))
 have HR:=hid hr
 have HN:=hid hn
 have hu8:∀j,0<=bs.getD j 0∧bs.getD j 0<=255:=fun j=>wf_u8 (hr.fits j)
 have HU:=hid hu8
 unfold TksPost at HTK
 rw[hO] at HTK HFT
 clear hr hn hu8
 unfold CncPost encB
 obtain⟨len,hl⟩:∃n,n=bs.length:=⟨_,rfl⟩
 have HL:=hid hl
 rw[<-hl] at HTK|-
 obtain⟨l,hll⟩:∃l,l=(toksL bs).map toZ:=⟨_,rfl⟩
 have HLL:=hid hll
 rw[<-hll] at HTS|-
 clear hl hll hO
 generalize hE:(if (packB l).length<len then codB 1 len (packB l) else codB 0 len bs)=E
 have HE:=hid hE
 clear hE
 go_enter Tryz.func15,Tryz.ntmps15
 go_wp2_with fail
 refine HTK.out.mono ?_
 rintro _ w1 ⟨v,rfl,ho,hb⟩
 obtain⟨a1,c1,rfl,hrt⟩:=Rt.own ho HFT.out
 have HB1:=hid hb
 rw[<-HLL.out] at hrt
 have HRT:=hid hrt
 have e1:(toksL bs).length=l.length:=by rw[HLL.out,List.length_map]
 have HPK:=hid (pack_any a1 c1 l w1 hrt (by have:=HTS.out.1;have:=HN.out;omega))
 unfold PkPost at HPK
 rw[HTS.out.2] at HPK
 dsimp only
 rw[e1]
 clear hb hrt ho e1 HTK HFT
 generalize l.length=ll at *
 go_wp2_with fail
 refine HPK.out.mono ?_
 rintro _ w2 ⟨hb,hp⟩
 rw[if_pos trivial] at hp
 obtain⟨a2,c2,rfl,hri⟩:=hp
 have HB2:=hid (Bn HB1.out hb)
 have HRI:=hid hri
 have HR2:=hid ((HR.out.later HB1.out).later hb)
 clear hb hri HPK
 obtain⟨pl,hpl⟩:∃n,n=(packB l).length:=⟨_,rfl⟩
 have HPL:=hid hpl
 rw[<-hpl]
 clear hpl
 have hv10:(vint (len:Int)).length<=10:=by have:=vint_short (len:Int) (by omega) (by have:=HN.out;have:=HL.out;omega);omega
 have HV:=hid hv10
 clear hv10
 by_cases hlt:pl<len
 ·have hlz:(pl:Int)<(len:Int):=by omega
  have HC:=hid (coded_word 1 len a2 c2 (packB l) w2 HRI.out (by decide) (by have:=HN.out;have:=HL.out;omega) (by have:=HN.out;have:=HL.out;have:=HPL.out;omega) HV.out)
  rw[<-HPL.out] at HC
  simp only[Int.natCast_one] at HC
  have HE1:Hid (E=codB 1 len (packB l)):=by show _=_;rw[<-HE.out,if_pos (by rw[<-HPL.out];exact hlt)]
  go_wp2_with fail
  refine HC.out.mono ?_
  rintro _ w3 ⟨v,rfl,ho,hb⟩
  obtain⟨a3,c3,rfl,h3⟩:=Ri.own ho (fun j=>by
   have:=codB_u8 1 len (packB l) (by decide) (by have:=HN.out;have:=HL.out;omega) (fun j=>wf_u8 (HRI.out.fits j)) j
   exact wf_mk_u8 this.1 this.2)
  have HB3:=hid (Bn HB2.out hb)
  have H3:=hid h3
  clear hb h3 ho HC
  generalize (codB 1 len (packB l))=R at *
  obtain⟨rl,hrl⟩:∃n,n=R.length:=⟨_,rfl⟩
  have HRL:=hid hrl
  rw[<-hrl]
  clear hrl
  go_wp2_with fail
  go_ret2
  exact⟨HB3.out,a3,c3,by rw[HE1.out,<-HRL.out];rfl,by rw[HE1.out];exact H3.out⟩
 ·have hlz:¬(pl:Int)<(len:Int):=by omega
  have HC:=hid (coded_word 0 len a cap bs w2 HR2.out (by decide) (by have:=HN.out;have:=HL.out;omega) (by have:=HN.out;omega) HV.out)
  rw[<-HL.out] at HC
  simp only[Int.natCast_zero] at HC
  have HE1:Hid (E=codB 0 len bs):=by show _=_;rw[<-HE.out,if_neg (by rw[<-HPL.out];exact hlt)]
  go_wp2_with fail
  refine HC.out.mono ?_
  rintro _ w3 ⟨v,rfl,ho,hb⟩
  obtain⟨a3,c3,rfl,h3⟩:=Ri.own ho (fun j=>by
   have:=codB_u8 0 len bs (by decide) (by have:=HN.out;have:=HL.out;omega) HU.out j
   exact wf_mk_u8 this.1 this.2)
  have HB3:=hid (Bn HB2.out hb)
  have H3:=hid h3
  clear hb h3 ho HC
  generalize (codB 0 len bs)=R at *
  obtain⟨rl,hrl⟩:∃n,n=R.length:=⟨_,rfl⟩
  have HRL:=hid hrl
  rw[<-hrl]
  clear hrl
  go_wp2_with fail
  go_ret2
  exact⟨HB3.out,a3,c3,by rw[HE1.out,<-HRL.out];rfl,by rw[HE1.out];exact H3.out⟩
end Go.Proofs.YtelnefngkdfcoaaGreat
/-
 What alive meets: rows of zeros, two rows and their codes.
-/
namespace Go.Proofs.YtelnefngkdfcoaaGreat
open Go.RowKit Hf Lz
theorem mk_run(n:Nat)(hn:n<=1000000)(w:World):(Instr.makeSlice 24 (.int .i64 (n:Int)) (.int .i64 (n:Int))).run Tryz.prog w= .ok (.slice (some ⟨w.heap.size,0,none⟩) n n) (w.alloc (.cells (madeCells #[.int .u8 0] n) 5)):=by
 obtain⟨i0,hi,hi0,hi1,hi2⟩:=info_parts Tryz.info5W
 have h:=run_make (P:=Tryz.prog) w 24 5 i0 (.int .u8 0) Tryz.underlying24 hi hi0 .i64 .i64 (n:Int) (n:Int) (by omega) (by omega) (by rw[hi2];omega) (by omega)
 rw[Int.toNat_natCast,hi1,Nat.mul_one] at h
 exact h
theorem made_ri(w:World)(n:Nat)(hn:n<=1000000):Ri (w.alloc (.cells (madeCells #[.int .u8 0] n) 5)) .u8 (some ⟨w.heap.size,0,none⟩) n (List.replicate n 0):=by
 refine⟨by rw[List.length_replicate];exact Nat.le_refl _,by unfold maxLen;omega,fun _=>⟨w.heap.size,0,rfl,by simp,fun j hj=>?_⟩,fun j=>?_⟩
 ·rw[List.length_replicate] at hj
  rw[Nat.zero_add,Joins.cell_of_block (heap_newZ w _) j]
  simp[madeCells,hj,Nat.mod_one,List.getD]
 ·have:(List.replicate n (0:Int)).getD j 0=0:=by
   simp only[List.getD,List.getElem?_replicate]
   split<;>rfl
  rw[this];exact wf_zero _
theorem enc_len(bs:List Int)(hn:bs.length<=4200):(encB bs).length<=bs.length+3:=by
 have hv:=vint_short (bs.length:Int) (by omega) (by omega)
 unfold encB codB
 split<;>simp only[List.length_append,List.length_singleton]<;>omega
theorem dec_enc(bs:List Int)(h8:Bytes8 bs)(hn:bs.length<=4150)(W:World)(a:Option Addr)(c:Nat)(hW:Ri W .u8 a c (encB bs)):
 Calls Tryz.prog 17 #[.slice a (encB bs).length c] W fun e w'=>Below W.heap.size W w'∧∃a c,e= .returned (.tuple #[.slice a bs.length c,.int .i64 0])∧Ri w' .u8 a c bs:=by
 have hl:=enc_len bs (by omega)
 refine Calls.mono (decode_word a c (encB bs) W hW (by omega)) ?_
 rintro e w' ⟨h1,h2⟩
 rw[row_enc bs h8 (by omega)] at h2
 exact⟨h1,h2⟩
def z100:List Int:=List.replicate 100 0
def ab2:List Int:= [97,98]
theorem ab_enc:encB ab2= [0,2,97,98]:=by decide +kernel
theorem z_enc:(encB z100).length<60∧(encB z100).getD 0 0=1:=by decide +kernel
theorem ab_str:strOfNums [0,2,97,98]=⟨#[0,2,97,98]⟩:=by decide +kernel
theorem z_8:Bytes8 z100:=fun j=>(made_ri default 100 (by omega)).fits j
end Go.Proofs.YtelnefngkdfcoaaGreat
/-
 The contract of the statements' alive.
-/
namespace Go.Proofs.YtelnefngkdfcoaaGreat
open Go.RowKit Hf Lz
set_option maxHeartbeats 6400000 in
set_option maxRecDepth 100000 in
theorem alive_any(w:World):Calls Tryz.prog 10 #[] w fun e w'=>e= .returned (.bool true)∧Below w.heap.size w w':=by
 have HE1:=hid (cenc_word (some ⟨w.heap.size,0,none⟩) 2 ab2 _ (lit_ri w ab2 (2,3) 2 rfl (by omega) (by decide)) (by decide))
 unfold CncPost at HE1
 rw[ab_enc] at HE1
 have HE1':Hid (Calls Tryz.prog 15 #[.slice (some ⟨w.heap.size,0,none⟩) 2 2] (w.alloc (.cells #[.int .u8 97,.int .u8 98] 5 (2,3))) fun e w'=>Below w.heap.size w w'∧∃a c,e= .returned (.tuple #[.slice a 4 c,.int .i64 0])∧Ri w' .u8 a c [0,2,97,98]):=by
  refine Calls.mono HE1.out ?_
  rintro e w' ⟨h1,h2⟩
  exact⟨Bn (bel_alloc w _) h1,h2⟩
 have HE2:Hid (∀W,Calls Tryz.prog 15 #[.slice (some ⟨W.heap.size,0,none⟩) 100 100] (W.alloc (.cells (madeCells #[.int .u8 0] 100) 5)) fun e w'=>Below W.heap.size W w'∧∃a c,e= .returned (.tuple #[.slice a (encB z100).length c,.int .i64 0])∧Ri w' .u8 a c (encB z100)):=fun W=>by
  refine Calls.mono (cenc_word (some ⟨W.heap.size,0,none⟩) 100 z100 _ (made_ri W 100 (by omega)) (by decide)) ?_
  rintro e w' ⟨h1,h2⟩
  exact⟨Bn (bel_alloc W _) h1,h2⟩
 have hmk:∀w:World,(Instr.makeSlice 24 (.int .i64 100) (.int .i64 100)).run Tryz.prog w= .ok (.slice (some ⟨w.heap.size,0,none⟩) 100 100) (w.alloc (.cells (madeCells #[.int .u8 0] 100) 5)):=fun w=>mk_run 100 (by omega) w
 have HMK:=hid hmk
 have HZ:=hid z_enc
 have HDC:Hid (∀W a c,Ri W .u8 a c (encB z100)->Calls Tryz.prog 17 #[.slice a (encB z100).length c] W fun e w'=>Below W.heap.size W w'∧∃a c,e= .returned (.tuple #[.slice a 100 c,.int .i64 0])∧Ri w' .u8 a c z100):=fun W a c hW=>dec_enc z100 z_8 (by decide) W a c hW
 have kc:=Lib.run_convert_bytes_const (P:=Tryz.prog) w 24 5 #[.int .u8 97,.int .u8 98] 2 2 Tryz.underlying24 Tryz.underlying5
 simp only[List.size_toArray,List.length_cons,List.length_nil,Nat.reduceAdd] at kc
 clear HE1 hmk
 go_enter Tryz.func10,Tryz.ntmps10
 go_wp2_with fail
 refine HE1'.out.mono ?_
 rintro _ w1 ⟨hb1,a1,c1,rfl,hr1⟩
 have HB1:=hid hb1
 have HR1:=hid hr1
 clear hb1 hr1 HE1' kc
 have hmk1:=HMK.out w1
 go_wp2_with fail
 refine(HE2.out w1).mono ?_
 rintro _ w2 ⟨hb2,a2,c2,rfl,hr2⟩
 have HB2:=hid hb2
 have HR2:=hid hr2
 have HD:=hid (HDC.out w2 a2 c2 hr2)
 clear hb2 hr2 hmk1 HE2 HDC
 generalize hlb:(encB z100).length=lb at *
 have HLB:=hid hlb
 clear hlb
 go_wp2_with fail
 refine HD.out.mono ?_
 rintro _ w3 ⟨hb3,a3,c3,rfl,hr3⟩
 have hpos:0<(encB z100).length:=by
  have h2:=HZ.out.2
  rcases Nat.eq_zero_or_pos (encB z100).length with h | h
  ·rw[List.eq_nil_of_length_eq_zero h] at h2
   simp at h2
  ·exact h
 obtain⟨gb,ob,rfl,hgb,hcb⟩:=HR2.out.cells hpos
 have hl0:lb<60:=HZ.out.1
 have hlp:0<lb:=by
  have h2:=HZ.out.2
  rcases Nat.eq_zero_or_pos lb with h | h
  ·have h3:=HLB.out
   rw[h] at h3
   rw[List.eq_nil_of_length_eq_zero h3] at h2
   simp at h2
  ·exact h
 have c0:=hcb 0 (by rw[HLB.out];exact hlp)
 rw[HZ.out.2,Nat.add_zero] at c0
 have ht1:=HR1.out.later HB2.out
 have ht1':=ht1.later hb3
 have HA:Hid (∀W,Below w3.heap.size w3 W->(convert 24 9 (.slice a1 4 c1)).run Tryz.prog W= .ok (.string ⟨#[0,2,97,98]⟩) W):=fun W hW=>by
  have:=ht1'.text W hW
  rw[ab_str] at this
  exact this
 have HC:Hid (∀W,Below w3.heap.size w3 W->W.cell? ⟨gb,ob,none⟩=some (.int .u8 1)):=fun W hW=>
  (hW.cell (p:=⟨gb,ob,none⟩) (Nat.lt_of_lt_of_le hgb hb3.size)).trans ((hb3.cell (p:=⟨gb,ob,none⟩) hgb).trans c0)
 have HD3:Hid (∀W,Below w3.heap.size w3 W->(convert 24 9 (.slice a3 100 c3)).run Tryz.prog W= .ok (.string (strOfNums z100)) W):=fun W hW=>hr3.text W hW
 have HB3:=hid (Bn (Bn HB1.out HB2.out) hb3)
 have hlz:(lb:Int)<60:=by omega
 have hln:¬(lb:Int)<=0:=by omega
 have hlq:(0:Int)<(lb:Int):=by omega
 clear hcb c0 ht1 ht1' hb3 hr3 hgb HD HR1 HR2 HLB HZ HB1 HB2 hl0
 go_wp2_with fail
 refine wp_region_held_drew (S:=fun W=>Below w3.heap.size w3 W) (by kernel_rfl) (Below.refl _ _).drew (fun hS=>?_)
 refine Ord.take (i:=0) (d:=23) (v:=?v0) rfl rfl (by as_aux_lemma=>kernel_rfl) (by as_aux_lemma=>kernel_rfl) (by as_aux_lemma=>kernel_rfl) (fun _ _ _ h=>h) (by rfl) ?h0 (by assumption) ?_
 case h0=>intro w hSw;go_simp;try with_reducible rfl
 simp only[List.setIfInBounds_toArray,List.set_cons_zero,List.set_cons_succ]
 refine Ord.take (i:=1) (d:=24) (v:=?v1) rfl rfl (by as_aux_lemma=>kernel_rfl) (by as_aux_lemma=>kernel_rfl) (by as_aux_lemma=>kernel_rfl) (fun _ _ _ h=>h) (by rfl) ?h1 (by assumption) ?_
 case h1=>intro w hSw;go_simp;try with_reducible rfl
 simp only[List.setIfInBounds_toArray,List.set_cons_zero,List.set_cons_succ]
 refine Ord.take (i:=2) (d:=25) (v:=?v2) rfl rfl (by as_aux_lemma=>kernel_rfl) (by as_aux_lemma=>kernel_rfl) (by as_aux_lemma=>kernel_rfl) (fun _ _ _ h=>h) (by rfl) ?h2 (by assumption) ?_
 case h2=>intro w hSw;go_simp;try with_reducible rfl
 simp only[List.setIfInBounds_toArray,List.set_cons_zero,List.set_cons_succ]
 refine Ord.take (i:=3) (d:=26) (v:=?v3) rfl rfl (by as_aux_lemma=>kernel_rfl) (by as_aux_lemma=>kernel_rfl) (by as_aux_lemma=>kernel_rfl) (fun _ _ _ h=>h) (by rfl) ?h3 (by assumption) ?_
 case h3=>intro w hSw;go_simp;try with_reducible rfl
 simp only[List.setIfInBounds_toArray,List.set_cons_zero,List.set_cons_succ]
 refine Ord.take (i:=4) (d:=27) (v:=?v4) rfl rfl (by as_aux_lemma=>kernel_rfl) (by as_aux_lemma=>kernel_rfl) (by as_aux_lemma=>kernel_rfl) (fun _ _ _ h=>h) (by rfl) ?h4 (by assumption) ?_
 case h4=>intro w hSw;go_simp;try with_reducible rfl
 simp only[List.setIfInBounds_toArray,List.set_cons_zero,List.set_cons_succ]
 refine Ord.take (i:=5) (d:=28) (v:=?v5) rfl rfl (by as_aux_lemma=>kernel_rfl) (by as_aux_lemma=>kernel_rfl) (by as_aux_lemma=>kernel_rfl) (fun _ _ _ h=>h) (by rfl) ?h5 (by assumption) ?_
 case h5=>intro w hSw;go_simp;try with_reducible rfl
 simp only[List.setIfInBounds_toArray,List.set_cons_zero,List.set_cons_succ]
 refine Ord.take (i:=6) (d:=29) (v:=?v6) rfl rfl (by as_aux_lemma=>kernel_rfl) (by as_aux_lemma=>kernel_rfl) (by as_aux_lemma=>kernel_rfl) (fun _ _ _ h=>h) (by rfl) ?h6 (by assumption) ?_
 case h6=>intro w hSw;go_simp;try with_reducible rfl
 simp only[List.setIfInBounds_toArray,List.set_cons_zero,List.set_cons_succ]
 refine Ord.take (i:=7) (d:=30) (v:=?v7) rfl rfl (by as_aux_lemma=>kernel_rfl) (by as_aux_lemma=>kernel_rfl) (by as_aux_lemma=>kernel_rfl) (fun _ _ _ h=>h) (by rfl) ?h7 (by assumption) ?_
 case h7=>intro w hSw;go_simp;try with_reducible rfl
 simp only[List.setIfInBounds_toArray,List.set_cons_zero,List.set_cons_succ]
 refine Ord.take (i:=8) (d:=31) (v:=?v8) rfl rfl (by as_aux_lemma=>kernel_rfl) (by as_aux_lemma=>kernel_rfl) (by as_aux_lemma=>kernel_rfl) (fun _ _ _ h=>h) (by rfl) ?h8 (by assumption) ?_
 case h8=>intro w hSw;go_simp;try with_reducible rfl
 simp only[List.setIfInBounds_toArray,List.set_cons_zero,List.set_cons_succ]
 refine Ord.take (i:=9) (d:=32) (v:=?v9) rfl rfl (by as_aux_lemma=>kernel_rfl) (by as_aux_lemma=>kernel_rfl) (by as_aux_lemma=>kernel_rfl) (fun _ _ _ h=>h) (by rfl) ?h9 (by assumption) ?_
 case h9=>intro w hSw;go_simp;try with_reducible rfl
 simp only[List.setIfInBounds_toArray,List.set_cons_zero,List.set_cons_succ]
 refine Ord.take (i:=10) (d:=33) (v:=?v10) rfl rfl (by as_aux_lemma=>kernel_rfl) (by as_aux_lemma=>kernel_rfl) (by as_aux_lemma=>kernel_rfl) (fun _ _ _ h=>h) (by rfl) ?h10 (by assumption) ?_
 case h10=>intro w hSw;go_simp;try with_reducible rfl
 simp only[List.setIfInBounds_toArray,List.set_cons_zero,List.set_cons_succ]
 refine Ord.take (i:=11) (d:=34) (v:=?v11) rfl rfl (by as_aux_lemma=>kernel_rfl) (by as_aux_lemma=>kernel_rfl) (by as_aux_lemma=>kernel_rfl) (fun _ _ _ h=>h) (by rfl) ?h11 (by assumption) ?_
 case h11=>intro w hSw;go_simp;try with_reducible rfl
 simp only[List.setIfInBounds_toArray,List.set_cons_zero,List.set_cons_succ]
 refine Ord.take (i:=12) (d:=35) (v:=?v12) rfl rfl (by as_aux_lemma=>kernel_rfl) (by as_aux_lemma=>kernel_rfl) (by as_aux_lemma=>kernel_rfl) (fun _ _ _ h=>h) (by rfl) ?h12 (by assumption) ?_
 case h12=>intro w hSw;have q:=HA.out w hSw;go_simp;try with_reducible rfl
 simp only[List.setIfInBounds_toArray,List.set_cons_zero,List.set_cons_succ]
 refine Ord.take (i:=13) (d:=36) (v:=?v13) rfl rfl (by as_aux_lemma=>kernel_rfl) (by as_aux_lemma=>kernel_rfl) (by as_aux_lemma=>kernel_rfl) (fun _ _ _ h=>h) (by rfl) ?h13 (by assumption) ?_
 case h13=>intro w hSw;go_simp;try with_reducible rfl
 simp only[List.setIfInBounds_toArray,List.set_cons_zero,List.set_cons_succ]
 refine Ord.take (i:=14) (d:=37) (v:=?v14) rfl rfl (by as_aux_lemma=>kernel_rfl) (by as_aux_lemma=>kernel_rfl) (by as_aux_lemma=>kernel_rfl) (fun _ _ _ h=>h) (by rfl) ?h14 (by assumption) ?_
 case h14=>intro w hSw;go_simp;try with_reducible rfl
 simp only[List.setIfInBounds_toArray,List.set_cons_zero,List.set_cons_succ]
 refine Ord.take (i:=15) (d:=38) (v:=?v15) rfl rfl (by as_aux_lemma=>kernel_rfl) (by as_aux_lemma=>kernel_rfl) (by as_aux_lemma=>kernel_rfl) (fun _ _ _ h=>h) (by rfl) ?h15 (by assumption) ?_
 case h15=>intro w hSw;go_simp;try with_reducible rfl
 simp only[List.setIfInBounds_toArray,List.set_cons_zero,List.set_cons_succ]
 refine Ord.take (i:=16) (d:=39) (v:=?v16) rfl rfl (by as_aux_lemma=>kernel_rfl) (by as_aux_lemma=>kernel_rfl) (by as_aux_lemma=>kernel_rfl) (fun _ _ _ h=>h) (by rfl) ?h16 (by assumption) ?_
 case h16=>intro w hSw;go_simp;try with_reducible rfl
 simp only[List.setIfInBounds_toArray,List.set_cons_zero,List.set_cons_succ]
 refine Ord.take (i:=17) (d:=40) (v:=?v17) rfl rfl (by as_aux_lemma=>kernel_rfl) (by as_aux_lemma=>kernel_rfl) (by as_aux_lemma=>kernel_rfl) (fun _ _ _ h=>h) (by rfl) ?h17 (by assumption) ?_
 case h17=>intro w hSw;go_simp;try with_reducible rfl
 simp only[List.setIfInBounds_toArray,List.set_cons_zero,List.set_cons_succ]
 refine Ord.take (i:=18) (d:=41) (v:=?v18) rfl rfl (by as_aux_lemma=>kernel_rfl) (by as_aux_lemma=>kernel_rfl) (by as_aux_lemma=>kernel_rfl) (fun _ _ _ h=>h) (by rfl) ?h18 (by assumption) ?_
 case h18=>intro w hSw;go_simp;try with_reducible rfl
 simp only[List.setIfInBounds_toArray,List.set_cons_zero,List.set_cons_succ]
 refine Ord.take (i:=19) (d:=42) (v:=?v19) rfl rfl (by as_aux_lemma=>kernel_rfl) (by as_aux_lemma=>kernel_rfl) (by as_aux_lemma=>kernel_rfl) (fun _ _ _ h=>h) (by rfl) ?h19 (by assumption) ?_
 case h19=>intro w hSw;go_simp;try with_reducible rfl
 simp only[List.setIfInBounds_toArray,List.set_cons_zero,List.set_cons_succ]
 refine Ord.take (i:=20) (d:=43) (v:=?v20) rfl rfl (by as_aux_lemma=>kernel_rfl) (by as_aux_lemma=>kernel_rfl) (by as_aux_lemma=>kernel_rfl) (fun _ _ _ h=>h) (by rfl) ?h20 (by assumption) ?_
 case h20=>intro w hSw;go_simp;try with_reducible rfl
 simp only[List.setIfInBounds_toArray,List.set_cons_zero,List.set_cons_succ]
 refine Ord.take (i:=21) (d:=44) (v:=?v21) rfl rfl (by as_aux_lemma=>kernel_rfl) (by as_aux_lemma=>kernel_rfl) (by as_aux_lemma=>kernel_rfl) (fun _ _ _ h=>h) (by rfl) ?h21 (by assumption) ?_
 case h21=>intro w hSw;go_simp;try with_reducible rfl
 simp only[List.setIfInBounds_toArray,List.set_cons_zero,List.set_cons_succ]
 refine Ord.take (i:=22) (d:=45) (v:=?v22) rfl rfl (by as_aux_lemma=>kernel_rfl) (by as_aux_lemma=>kernel_rfl) (by as_aux_lemma=>kernel_rfl) (fun _ _ _ h=>h) (by rfl) ?h22 (by assumption) ?_
 case h22=>intro w hSw;go_simp;try with_reducible rfl
 simp only[List.setIfInBounds_toArray,List.set_cons_zero,List.set_cons_succ]
 refine Ord.take (i:=23) (d:=46) (v:=?v23) rfl rfl (by as_aux_lemma=>kernel_rfl) (by as_aux_lemma=>kernel_rfl) (by as_aux_lemma=>kernel_rfl) (fun _ _ _ h=>h) (by rfl) ?h23 (by assumption) ?_
 case h23=>intro w hSw;have q:=HC.out w hSw;go_simp;try with_reducible rfl
 simp only[List.setIfInBounds_toArray,List.set_cons_zero,List.set_cons_succ]
 refine Ord.take (i:=24) (d:=47) (v:=?v24) rfl rfl (by as_aux_lemma=>kernel_rfl) (by as_aux_lemma=>kernel_rfl) (by as_aux_lemma=>kernel_rfl) (fun _ _ _ h=>h) (by rfl) ?h24 (by assumption) ?_
 case h24=>intro w hSw;go_simp;try with_reducible rfl
 simp only[List.setIfInBounds_toArray,List.set_cons_zero,List.set_cons_succ]
 refine Ord.take (i:=25) (d:=48) (v:=?v25) rfl rfl (by as_aux_lemma=>kernel_rfl) (by as_aux_lemma=>kernel_rfl) (by as_aux_lemma=>kernel_rfl) (fun _ _ _ h=>h) (by rfl) ?h25 (by assumption) ?_
 case h25=>intro w hSw;go_simp;try with_reducible rfl
 simp only[List.setIfInBounds_toArray,List.set_cons_zero,List.set_cons_succ]
 refine Ord.take (i:=26) (d:=49) (v:=?v26) rfl rfl (by as_aux_lemma=>kernel_rfl) (by as_aux_lemma=>kernel_rfl) (by as_aux_lemma=>kernel_rfl) (fun _ _ _ h=>h) (by rfl) ?h26 (by assumption) ?_
 case h26=>intro w hSw;go_simp;try with_reducible rfl
 simp only[List.setIfInBounds_toArray,List.set_cons_zero,List.set_cons_succ]
 refine Ord.take (i:=27) (d:=50) (v:=?v27) rfl rfl (by as_aux_lemma=>kernel_rfl) (by as_aux_lemma=>kernel_rfl) (by as_aux_lemma=>kernel_rfl) (fun _ _ _ h=>h) (by rfl) ?h27 (by assumption) ?_
 case h27=>intro w hSw;go_simp;try with_reducible rfl
 simp only[List.setIfInBounds_toArray,List.set_cons_zero,List.set_cons_succ]
 refine Ord.take (i:=28) (d:=51) (v:=?v28) rfl rfl (by as_aux_lemma=>kernel_rfl) (by as_aux_lemma=>kernel_rfl) (by as_aux_lemma=>kernel_rfl) (fun _ _ _ h=>h) (by rfl) ?h28 (by assumption) ?_
 case h28=>intro w hSw;have q:=HD3.out w hSw;go_simp;try with_reducible rfl
 simp only[List.setIfInBounds_toArray,List.set_cons_zero,List.set_cons_succ]
 have hmk:=HMK.out w3.drew
 refine wpAnyH_ready (rs:= [29]) (by as_aux_lemma=>kernel_rfl) (by simp) (AllReadyH.cons rfl (fun K hK=>?_) AllReadyH.nil)
 go_simp
 have hb4:Below w3.heap.size w3 (w3.alloc (.cells (madeCells #[.int .u8 0] 100) 5)).drew:=(bel_alloc w3 _).drew
 have HT:Hid (∀W,Below (w3.heap.size+1) (w3.alloc (.cells (madeCells #[.int .u8 0] 100) 5)).drew W->(convert 24 9 (.slice (some ⟨w3.heap.size,0,none⟩) 100 100)).run Tryz.prog W= .ok (.string (strOfNums z100)) W):=fun W hW=>by
  have h:=(made_ri w3 100 (by omega)).later (Below.refl _ _).drew
  refine h.text W ?_
  rw[show(w3.alloc (.cells (madeCells #[.int .u8 0] 100) 5)).drew.heap.size=w3.heap.size+1 from by simp[World.drew]]
  exact hW
 refine hK.out _ _ hb4 (fun _=>?_)
 clear hK K hS hmk HMK HA HC HD3
 have hS:Below (w3.heap.size+1) (w3.alloc (.cells (madeCells #[.int .u8 0] 100) 5)).drew (w3.alloc (.cells (madeCells #[.int .u8 0] 100) 5)).drew:=Below.refl _ _
 have HB4:=hid (Bn HB3.out hb4)
 refine Ord.more (S':=fun W=>Below (w3.heap.size+1) (w3.alloc (.cells (madeCells #[.int .u8 0] 100) 5)).drew W) (fun W hW=>hb4.trans (hW.mono (by omega))) _ _ _ _ ?_
 clear hb4
 generalize (w3.alloc (.cells (madeCells #[.int .u8 0] 100) 5)).drew=w4 at *
 refine Ord.take (i:=30) (d:=53) (v:=?v30) rfl rfl (by as_aux_lemma=>kernel_rfl) (by as_aux_lemma=>kernel_rfl) (by as_aux_lemma=>kernel_rfl) (fun _ _ _ h=>h) (by rfl) ?h30 (by assumption) ?_
 case h30=>intro w hSw;have q:=HT.out w hSw;go_simp;try with_reducible rfl
 simp only[List.setIfInBounds_toArray,List.set_cons_zero,List.set_cons_succ]
 refine Ord.take (i:=31) (d:=54) (v:=?v31) rfl rfl (by as_aux_lemma=>kernel_rfl) (by as_aux_lemma=>kernel_rfl) (by as_aux_lemma=>kernel_rfl) (fun _ _ _ h=>h) (by rfl) ?h31 (by assumption) ?_
 case h31=>intro w hSw;go_simp;try with_reducible rfl
 simp only[List.setIfInBounds_toArray,List.set_cons_zero,List.set_cons_succ]
 refine Ord.take (i:=32) (d:=55) (v:=?v32) rfl rfl (by as_aux_lemma=>kernel_rfl) (by as_aux_lemma=>kernel_rfl) (by as_aux_lemma=>kernel_rfl) (fun _ _ _ h=>h) (by rfl) ?h32 (by assumption) ?_
 case h32=>intro w hSw;go_simp;try with_reducible rfl
 simp only[List.setIfInBounds_toArray,List.set_cons_zero,List.set_cons_succ]
 refine Ord.take (i:=33) (d:=0) (v:=?v33) rfl rfl (by as_aux_lemma=>kernel_rfl) (by as_aux_lemma=>kernel_rfl) (by as_aux_lemma=>kernel_rfl) (fun _ _ _ h=>h) (by rfl) ?h33 (by assumption) ?_
 case h33=>intro w hSw;go_simp;try with_reducible rfl
 simp only[List.setIfInBounds_toArray,List.set_cons_zero]
 refine wpAnyH_done (by as_aux_lemma=>kernel_rfl) ?_ _
 go_wp2_with fail
 go_ret
 exact⟨rfl,HB4.out⟩
end Go.Proofs.YtelnefngkdfcoaaGreat
/-
 Plain facts: so many lengths out of runs, as the document reads them.
-/
namespace Go.Proofs.YtelnefngkdfcoaaGreat
open Hf
def lensE(n:Nat):Nat->List Int->List Int->Option (List Int×List Int)
 | 0,_,_=>none
 | f+1,l,zs=>if l.length<n then
  match zs with
  | []=>none
  | c::zs1=>match numO (n-l.length) zs1 with
    | none=>none
    | some (m,rs)=>if m=0 then none else lensE n f (l++List.replicate m c) rs
  else some (l,zs)
theorem lensE_succ(n f:Nat)(l zs:List Int):lensE n (f+1) l zs=if l.length<n then
 match zs with
 | []=>none
 | c::zs1=>match numO (n-l.length) zs1 with
   | none=>none
   | some (m,rs)=>if m=0 then none else lensE n f (l++List.replicate m c) rs
 else some (l,zs):=by cases zs<;>rfl
def lensD(n:Nat)(zs:List Int):Option (List Int×List Int):=lensE n (zs.length+1) [] zs
end Go.Proofs.YtelnefngkdfcoaaGreat
/-
 Plain facts: the document's Unpack, on rows of bytes, tells what the code's tells.
-/
namespace Go.Proofs.YtelnefngkdfcoaaGreat
open Hf Lz
theorem oneG_rng(zs b:List Int)(at':Nat):∀f l,0<l->(oneG zs b at' f l).1<0∨(0<=(oneG zs b at' f l).1∧(oneG zs b at' f l).1<zs.length∧1<=(oneG zs b at' f l).2∧(oneG zs b at' f l).2<=15∧(at':Int)+(oneG zs b at' f l).2<=8*b.length)
 | 0,l,h0=> .inl (by simp[oneG])
 | f+1,l,h0=>by
   rw[oneG]
   by_cases h:l<16∧at'+l<=8*b.length
   ·rw[if_pos h]
    cases hw:who zs l (vb b at' l) with
    | none=>exact oneG_rng zs b at' f (l+1) (by omega)
    | some s=>
      have h2:=List.mem_of_find?_eq_some hw
      rw[List.mem_range] at h2
      dsimp only
      right;omega
   ·rw[if_neg h]
    left;simp
theorem oneF_rng(zs b:List Int)(at':Nat):(oneF zs b at').1<0∨(0<=(oneF zs b at').1∧(oneF zs b at').1<zs.length∧1<=(oneF zs b at').2∧(oneF zs b at').2<=15∧(at':Int)+(oneF zs b at').2<=8*b.length):=oneG_rng zs b at' 16 1 (by decide)
theorem tokD_rng{ls ds b:List Int}(hl:ls.length<=511)(hd:ds.length<=13){at' p:Nat}{t:Tkz}(h:tokD ls ds b at'=some (t,p)):Tin t∧at'+1<=p∧p<=8*b.length:=by
 unfold tokD at h
 have h1:=oneF_rng ls b at'
 generalize oneF ls b at'=o at *
 obtain⟨s,k⟩:=o
 dsimp only at *
 by_cases c1:s<0
 ·rw[if_pos c1] at h;cases h
 ·rw[if_neg c1] at h
  by_cases c2:s<256
  ·rw[if_pos c2] at h
   simp only[Option.some.injEq,Prod.mk.injEq] at h
   obtain⟨rfl,rfl⟩:=h
   unfold Tin;dsimp only;omega
  ·rw[if_neg c2] at h
   have h2:=oneF_rng ds b (at'+k.toNat)
   generalize oneF ds b (at'+k.toNat)=o at *
   obtain⟨x,m⟩:=o
   dsimp only at *
   by_cases c3:x<0∨8*b.length<at'+k.toNat+m.toNat+x.toNat
   ·rw[if_pos c3] at h;cases h
   ·rw[if_neg c3] at h
    simp only[Option.some.injEq,Prod.mk.injEq] at h
    obtain⟨rfl,rfl⟩:=h
    have h3:=vb_lt b (at'+k.toNat+m.toNat) x.toNat
    have h4:2^x.toNat<=2^12:=Nat.pow_le_pow_right (by decide) (by omega)
    unfold Tin;dsimp only;omega
theorem toksD_rng{ls ds b:List Int}(hl:ls.length<=511)(hd:ds.length<=13):∀n at' acc l p,toksD ls ds b n at' acc=some (l,p)->(∀t∈acc,Tin t)->at'<=8*b.length->(∀t∈l,Tin t)∧at'+n<=p∧p<=8*b.length
 | 0,at',acc,l,p,h,ha,hb=>by
   simp only[toksD,Option.some.injEq,Prod.mk.injEq] at h
   obtain⟨rfl,rfl⟩:=h
   exact⟨ha,by omega,hb⟩
 | n+1,at',acc,l,p,h,ha,hb=>by
   rw[toksD] at h
   cases ht:tokD ls ds b at' with
   | none=>rw[ht] at h;cases h
   | some tp=>
     obtain⟨t,q⟩:=tp
     rw[ht] at h
     dsimp only at h
     obtain⟨r1,r2,r3⟩:=tokD_rng hl hd ht
     obtain⟨s1,s2,s3⟩:=toksD_rng hl hd n q _ l p h (fun u hu=>by
      rcases List.mem_append.1 hu with h9 | h9
      ·exact ha u h9
      ·rw[List.mem_singleton.1 h9];exact r1) r3
     exact⟨s1,by omega,s3⟩
theorem lensE_len(n:Nat):∀f l zs l' rs,lensE n f l zs=some (l',rs)->l.length<=n->l'.length=n
 | 0,l,zs,l',rs,h,_=>by simp[lensE] at h
 | f+1,l,zs,l',rs,h,hl=>by
   rw[lensE_succ] at h
   by_cases c:l.length<n
   ·rw[if_pos c] at h
    cases zs with
    | nil=>cases h
    | cons z zs1=>
      dsimp only at h
      cases hn:numO (n-l.length) zs1 with
      | none=>rw[hn] at h;cases h
      | some mr=>
        obtain⟨m,r⟩:=mr
        rw[hn] at h
        dsimp only at h
        have:=numO_rng hn
        by_cases c0:m=0
        ·rw[if_pos c0] at h;cases h
        ·rw[if_neg c0] at h
         exact lensE_len n f _ _ l' rs h (by rw[List.length_append,List.length_replicate];omega)
   ·rw[if_neg c] at h
    simp only[Option.some.injEq,Prod.mk.injEq] at h
    obtain⟨rfl,rfl⟩:=h
    omega
theorem lensE_runs(n:Nat)(hn:n<=1000):∀(f:Nat) (zs:List Int) (F:Nat) (l rs:List Int),zs.length<=f->l.length+zs.length=n->(runsF f zs++rs).length+1<=F->lensE n F l (runsF f zs++rs)=some (l++zs,rs)
 | 0,zs,F,l,rs,h1,h2,h3=>by
   have:zs= []:=List.eq_nil_of_length_eq_zero (by omega)
   subst this
   cases F with
   | zero=>omega
   | succ F=>
     rw[lensE.eq_def]
     dsimp only
     rw[if_neg (by simp at h2;omega)]
     simp[runsF]
 | f+1,[],F,l,rs,h1,h2,h3=>by
   cases F with
   | zero=>omega
   | succ F=>
     rw[lensE.eq_def]
     dsimp only
     rw[if_neg (by simp at h2;omega)]
     simp[runsF]
 | f+1,z::zs,F,l,rs,h1,h2,h3=>by
   cases F with
   | zero=>omega
   | succ F=>
     have hs:=run_split z zs
     have hl:=congrArg List.length hs
     rw[List.length_append,List.length_replicate] at hl
     rw[List.length_cons] at h1 h2 hl
     rw[runsF,List.cons_append,List.append_assoc] at h3|-
     rw[lensE,if_pos (by omega)]
     rw[numO_vint _ _ _ (by omega) (by omega)]
     dsimp only
     have hd:(zs.drop (runN z zs)).length<=f:=by rw[List.length_drop];omega
     rw[if_neg (by omega),lensE_runs n hn f _ F _ rs hd (by rw[List.length_append,List.length_replicate];omega) (by
      simp only[List.length_cons,List.length_append] at h3|-
      omega),List.append_assoc,<-hs]
theorem lensD_runs(n:Nat)(hn:n<=1000)(zs rs:List Int)(h:zs.length=n):lensD n (runsL zs++rs)=some (zs,rs):=by
 unfold lensD runsL
 rw[lensE_runs n hn zs.length zs _ [] rs (Nat.le_refl _) (by simpa using h) (Nat.le_refl _),List.nil_append]
theorem tok_doc{ls ds:List Int}(h1:checkB ls=true)(h2:checkB ds=true)(hl:ls.length=511)(hd:ds.length=13){t:Tkz}(ht:Tg ls ds t)(b:List Int)(at':Nat)(r:List Nat)(hs:(bytB b).drop at'=tokL ls (codesL ls) ds (codesL ds) t++r):
 ∃p,tokD ls ds b at'=some (t,p)∧(bytB b).drop p=r:=by
 obtain⟨d,n,x⟩:=t
 obtain⟨hk,h8,hp,hq⟩:=ht
 dsimp only at *
 unfold tokL at hs
 dsimp only at hs
 unfold symZ at hs hp
 dsimp only at hs hp
 have r1:=(len_rng h1).2
 have r2:=(len_rng h2).2
 rcases chk_cases hk with ⟨e1,e2⟩ | ⟨e1,e2,e3,e4,e5⟩
 ·dsimp only at e1 e2
  subst e1 e2
  rw[if_pos rfl] at hs hp
  rw[if_pos rfl,symL_code h1 _ (by omega) hp] at hs
  have:=r1 x.toNat
  obtain⟨a1,a2⟩:=tokD_lit ls ds b h1 at' x.toNat (ls.getD x.toNat 0).toNat r (by omega) (by omega) (by omega) (by omega) (by omega) hs
  exact⟨_,by rw[a1,show((x.toNat:Nat):Int)=x from by omega],a2⟩
 ·dsimp only at e1 e2 e3 e4 e5
  subst e5
  have hdr:=dst_rng e1 e2
  have hq':=hq (by omega)
  rw[if_neg (by omega)] at hs hp
  rw[if_neg (by omega),symL_code h1 _ (by omega) hp,symL_code h2 _ (by omega) hq',List.append_assoc,List.append_assoc] at hs
  have:=r1 (252+n).toNat
  have:=r2 (dstZ d).toNat
  have hlog:2^(dstZ d).toNat<=d.toNat∧d.toNat<2^((dstZ d).toNat+1):=by
   unfold dstZ
   rw[Int.toNat_natCast]
   exact⟨Nat.log2_self_le (show d.toNat≠0 by omega),Nat.lt_log2_self⟩
  obtain⟨a1,a2⟩:=tokD_copy ls ds b h1 h2 at' (252+n).toNat (ls.getD (252+n).toNat 0).toNat (dstZ d).toNat (ds.getD (dstZ d).toNat 0).toNat d.toNat r (by omega) (by omega) (by omega) (by omega) (by omega) (by omega) (by omega) (by omega) (by omega) hlog hs
  exact⟨_,by rw[a1,show((d.toNat:Nat):Int)=d from by omega,show(((252+n).toNat:Nat):Int)-252=n from by omega],a2⟩
def readD(zs:List Int):Option (List Tkz):=
 match lensD 511 zs with
 | none=>none
 | some (ls,z1)=>if checkB ls=true then
  match lensD 13 z1 with
  | none=>none
  | some (ds,z2)=>if checkB ds=true then
   match numO 65536 z2 with
   | none=>none
   | some (n,z3)=>(toksD ls ds z3 n 0 []).map (·.1)
   else none
  else none
def unpD(zs:List Int):Option (List Tkz):=
 match readD zs with
 | none=>none
 | some l=>if (sizeO l).2=0∧packB l=zs then some l else none
theorem tg_all(l:List Tkz)(hn:l.length<=65536)(hz:(sizeO l).2=0)(h8:∀j,j<l.length->0<=(l.getD j tk0).2.2∧(l.getD j tk0).2.2<=255):∀t∈l,Tg (lsF l) (dsF l) t:=by
 obtain⟨a1,a2,b1,b2,a3,b3⟩:=codes_all l hn
 have hall:=sizeO_all hz
 intro t ht
 obtain⟨j,hj,rfl⟩:=List.getElem_of_mem ht
 have e:l.getD j tk0=l[j]:=by simp[List.getD,List.getElem?_eq_getElem hj]
 have c1:=hall j hj
 have c2:=h8 j hj
 have c3:=kinds_pos l j hj
 have c4:=dists_pos l j hj
 rw[e] at c1 c2 c3 c4
 have c5:=chk_two c1 c2
 refine⟨c1,c2,a3 _ (by rcases c5 with h | h<;>omega) (c3 (by rcases c5 with h | h<;>omega)),fun hne=>?_⟩
 rcases c5 with h | h
 ·exact absurd h.1 hne
 ·have:=dst_rng h.1 h.2.1
  exact b3 _ (by omega) (c4 (by omega) (by omega))
theorem read_pack(l:List Tkz)(hn:l.length<=65536)(hz:(sizeO l).2=0)(h8:∀j,j<l.length->0<=(l.getD j tk0).2.2∧(l.getD j tk0).2.2<=255):readD (packB l)=some l:=by
 obtain⟨a1,a2,b1,b2,_,_⟩:=codes_all l hn
 have hT:=tg_all l hn hz h8
 obtain⟨M,e1,e2,_⟩:=Wv.toks (H:=headP l) (lsF l) (codesL (lsF l)) (dsF l) (codesL (dsF l)) l l.length (Nat.le_refl _)
 rw[List.take_length] at e2
 obtain⟨p,hs,_⟩:=toksD_all (lsF l) (dsF l) M (tokL (lsF l) (codesL (lsF l)) (dsF l) (codesL (dsF l))) l (fun t ht at' r h=>tok_doc a2 b2 a1 b1 (hT t ht) M at' r h) 0 _ [] (by rw[List.drop_zero];exact e2)
 have hp:packB l=headP l++M:=by unfold packB;exact e1
 rw[hp]
 unfold readD headP
 rw[List.append_assoc,List.append_assoc,lensD_runs 511 (by decide) _ _ a1]
 dsimp only
 rw[if_pos a2,lensD_runs 13 (by decide) _ _ b1]
 dsimp only
 rw[if_pos b2,numO_vint _ _ _ (by omega) (by decide)]
 dsimp only
 rw[hs,List.nil_append]
 rfl
theorem lensE_short(n:Nat):∀(f:Nat) (l zs l' rs:List Int),lensE n f l zs=some (l',rs)->rs.length<=zs.length
 | 0,l,zs,l',rs,h=>by simp[lensE] at h
 | f+1,l,zs,l',rs,h=>by
   rw[lensE_succ] at h
   by_cases c:l.length<n
   ·rw[if_pos c] at h
    cases zs with
    | nil=>cases h
    | cons z zs1=>
      dsimp only at h
      cases hn:numO (n-l.length) zs1 with
      | none=>rw[hn] at h;cases h
      | some mr=>
        obtain⟨m,r⟩:=mr
        rw[hn] at h
        dsimp only at h
        have:=numO_rng hn
        by_cases c0:m=0
        ·rw[if_pos c0] at h;cases h
        ·rw[if_neg c0] at h
         have:=lensE_short n f _ _ l' rs h
         rw[List.length_cons];omega
   ·rw[if_neg c] at h
    simp only[Option.some.injEq,Prod.mk.injEq] at h
    obtain⟨rfl,rfl⟩:=h
    exact Nat.le_refl _
theorem readD_rng{zs:List Int}{l:List Tkz}(h:readD zs=some l):(∀t∈l,Tin t)∧l.length<=8*zs.length∧l.length<=65536:=by
 unfold readD at h
 cases h1:lensD 511 zs with
 | none=>rw[h1] at h;cases h
 | some lr=>
   obtain⟨ls,z1⟩:=lr
   rw[h1] at h
   dsimp only at h
   split at h
   ·cases h2:lensD 13 z1 with
    | none=>rw[h2] at h;cases h
    | some dr=>
      obtain⟨ds,z2⟩:=dr
      rw[h2] at h
      dsimp only at h
      split at h
      ·cases h3:numO 65536 z2 with
       | none=>rw[h3] at h;cases h
       | some nr=>
         obtain⟨n,z3⟩:=nr
         rw[h3] at h
         dsimp only at h
         cases h4:toksD ls ds z3 n 0 [] with
         | none=>rw[h4] at h;cases h
         | some lp=>
           obtain⟨m,p⟩:=lp
           rw[h4] at h
           simp only[Option.map_some,Option.some.injEq] at h
           subst h
           have l1:=lensE_len 511 _ _ _ _ _ h1 (by decide)
           have l2:=lensE_len 13 _ _ _ _ _ h2 (by decide)
           have s1:=lensE_short 511 _ _ _ _ _ h1
           have s2:=lensE_short 13 _ _ _ _ _ h2
           have s3:=numO_rng h3
           obtain⟨q1,q2,q3⟩:=toksD_rng (by omega) (by omega) n 0 [] m p h4 (fun _ h=>by cases h) (Nat.zero_le _)
           have:=toksD_len ls ds z3 n 0 [] m p h4
           rw[List.length_nil] at this
           exact⟨q1,by omega,by omega⟩
      ·cases h
   ·cases h
theorem tin_u8{l:List Tkz}(h:∀t∈l,Tin t)(j:Nat)(hj:j<l.length):0<=(l.getD j tk0).2.2∧(l.getD j tk0).2.2<=255:=by
 have e:l.getD j tk0=l[j]:=by simp[List.getD,List.getElem?_eq_getElem hj]
 rw[e]
 exact(h _ (List.getElem_mem hj)).2.2.2.2
theorem unpD_eq(zs:List Int)(hn:zs.length<=4200):unpD zs=unpO zs:=by
 cases hu:unpO zs with
 | some l=>
   unfold unpO at hu
   cases ht:toksR zs with
   | none=>rw[ht] at hu;cases hu
   | some ls=>
     obtain⟨m,s⟩:=ls
     rw[ht] at hu
     dsimp only at hu
     split at hu
     ·rename_i hc
      simp only[Option.some.injEq] at hu
      subst hu
      obtain⟨r1,r2⟩:=toksR_rng ht
      have hr:=read_pack m (by omega) hc.1 (tin_u8 r1)
      rw[hc.2] at hr
      unfold unpD
      rw[hr]
      dsimp only
      rw[if_pos hc]
     ·cases hu
 | none=>
   unfold unpD
   cases hr:readD zs with
   | none=>rfl
   | some l=>
     dsimp only
     by_cases hc:(sizeO l).2=0∧packB l=zs
     ·have:=readD_rng hr
      have h2:=unp_pack l this.2.2 hc.1 (tin_u8 this.1)
      rw[hc.2,hu] at h2
      cases h2
     ·rw[if_neg hc]
end Go.Proofs.YtelnefngkdfcoaaGreat
