/- Contracts and facts. -/
import Derived.Test.YtibjlbcnapoblaaGreatDoorPart08
namespace Go.Proofs.YtibjlbcnapoblaaGreatDoor
set_option maxRecDepth 100000
set_option maxHeartbeats 6400000
section
open Go.RowKit
def runN(z:Int)(l:List Int):Nat:=(l.takeWhile (· == z)).length
def Qeo:Nat->List Int->List Int
 | 0,_=> []
 | _+1,[]=> []
 | f+1,z::l=>z::(Qe0 ((runN z l+1:Nat):Int)++Qeo f (l.drop (runN z l)))
def Qc7(zs:List Int):List Int:=Qeo zs.length zs
theorem Xcd{z:Int}:∀(k:Nat) (l:List Int),k<=l.length->(∀p,p<k->l.getD p 0=z)->(k=l.length∨l.getD k 0≠z)->runN z l=k
 | 0,[],_,_,_=>rfl
 | 0,x::l,_,_,h=>by
   rcases h with h | h
   ·simp at h
   ·unfold runN
    rw[List.takeWhile_cons_of_neg (by simpa using h)];rfl
 | k+1,[],h,_,_=>by simp at h
 | k+1,x::l,hk,h1,h2=>by
   have hx:x=z:=by have:=h1 0 (by omega);simpa using this
   have ih:=Xcd k l (by simpa using hk) (fun p hp=>by have:=h1 (p+1) (by omega);simpa using this) (by
    rcases h2 with h2 | h2
    ·left;simpa using h2
    ·right;simpa using h2)
   unfold runN at ih|-
   rw[List.takeWhile_cons_of_pos (by simpa using hx),List.length_cons,ih]
theorem Qnv(l:List Int)(n p:Nat):(l.drop n).getD p 0=l.getD (n+p) 0:=by simp[List.getD]
theorem drop_at(zs:List Int)(k:Nat)(hk:k<zs.length):zs.drop k=zs.getD k 0::zs.drop (k+1):=by
 rw[List.drop_eq_getElem_cons hk]
 simp[List.getD,List.getElem?_eq_getElem hk]
theorem Qil(zs:List Int)(i j f:Nat)(hi:i<j)(hj:j<=zs.length)(hsame:∀p,i<p->p<j->zs.getD p 0=zs.getD i 0)(hend:j=zs.length∨zs.getD j 0≠zs.getD i 0):
 Qeo (f+1) (zs.drop i)=zs.getD i 0::(Qe0 ((j-i:Nat):Int)++Qeo f (zs.drop j)):=by
 have hr:runN (zs.getD i 0) (zs.drop (i+1))=j-i-1:=Xcd _ _ (by simp;omega) (fun p hp=>by rw[Qnv];exact hsame _ (by omega) (by omega)) (by
  rcases hend with h | h
  ·left;simp;omega
  ·right;rw[Qnv,show i+1+(j-i-1)=j from by omega];exact h)
 rw[drop_at zs i (by omega),Qeo,hr,List.drop_drop,show i+1+(j-i-1)=j from by omega,show j-i-1+1=j-i from by omega]
theorem Qq6(f:Nat)(zs:List Int)(i:Nat)(h:zs.length<=i):Qeo f (zs.drop i)= []:=by
 rw[List.drop_eq_nil_of_le h]
 cases f<;>rfl
theorem Qdo(x:Int)(h0:0<=x)(h1:x<16384):(Qe0 x).length<=2:=by
 unfold Qe0
 rw[Qfd]
 split
 ·simp
 ·rw[Qfd,if_pos (by omega)];simp
theorem Qkd(x:Int)(h0:0<=x)(h1:x<2097152):(Qe0 x).length<=3:=by
 unfold Qe0
 rw[Qfd]
 split
 ·simp
 ·rw[Qfd]
  split
  ·simp
  ·rw[Qfd,if_pos (by omega)];simp
theorem Qpj:∀(f:Nat) (x:Int),0<=x->x<128^(f+1)->∀y∈Qfd f x,0<=y∧y<=255
 | 0,x,h0,h1,y,hy=>by
   simp[Qfd] at hy
   subst hy
   simp at h1;omega
 | f+1,x,h0,h1,y,hy=>by
   rw[Qfd] at hy
   split at hy
   ·simp at hy;subst hy;omega
   ·rcases List.mem_cons.1 hy with rfl | hy
    ·omega
    ·exact Qpj f (x/128) (by omega) (by rw[Int.ediv_lt_iff_lt_mul (by decide),<-Int.pow_succ];exact h1) y hy
theorem Qhs(x:Int)(h0:0<=x)(h1:x<18446744073709551616)(j:Nat):0<=(Qe0 x).getD j 0∧(Qe0 x).getD j 0<=255:=by
 by_cases h:j<(Qe0 x).length
 ·have:=Qpj 9 x h0 (by omega) _ (List.getElem_mem h)
  simpa [List.getD,List.getElem?_eq_getElem h] using this
 ·simp[List.getD,List.getElem?_eq_none (show(Qe0 x).length<=j by omega)]
theorem Qqg:∀(f:Nat) (zs:List Int),zs.length<=1000->(Qeo f zs).length<=3*zs.length
 | 0,_,_=>by simp[Qeo]
 | _+1,[],_=>by simp[Qeo]
 | f+1,z::l,hl=>by
   rw[List.length_cons] at hl
   have hr:runN z l<=l.length:=by unfold runN;exact(List.takeWhile_sublist _).length_le
   have h1:=Qqg f (l.drop (runN z l)) (by rw[List.length_drop];omega)
   have h2:=Qdo ((runN z l+1:Nat):Int) (by omega) (by omega)
   rw[List.length_drop] at h1
   rw[Qeo,List.length_cons,List.length_append,List.length_cons]
   omega
theorem Qhe(zs:List Int)(h:zs.length<=1000):(Qc7 zs).length<=3*zs.length:=Qqg zs.length zs h
theorem Qa1{w w':World}{B n:Nat}{v:Value}{xs:List Value}{e s:Nat}(h:w.ownsRow B e s v n xs)(hb:Below w.heap.size w w'):w'.ownsRow B e s v n xs:=Qbx h hb
theorem Qwi:∀(f:Nat) (zs:List Int),zs.length<=1000->(∀z∈zs,0<=z∧z<=255)->∀y∈Qeo f zs,0<=y∧y<=255
 | 0,_,_,_,y,hy=>by cases hy
 | _+1,[],_,_,y,hy=>by cases hy
 | f+1,z::l,hl,hz,y,hy=>by
   rw[Qeo] at hy
   rcases List.mem_cons.1 hy with rfl | hy
   ·exact hz _ List.mem_cons_self
   ·rcases List.mem_append.1 hy with hy | hy
    ·have hr:runN z l<=l.length:=by unfold runN;exact(List.takeWhile_sublist _).length_le
     rw[List.length_cons] at hl
     exact Qpj 9 _ (by omega) (by omega) y hy
    ·exact Qwi f _ (by rw[List.length_cons] at hl;rw[List.length_drop];omega) (fun x hx=>hz x (List.mem_cons_of_mem _ (List.mem_of_mem_drop hx))) y hy
theorem Qjc(zs:List Int)(hn:zs.length<=1000)(hz:∀j,0<=zs.getD j 0∧zs.getD j 0<=15)(j:Nat):0<=(Qc7 zs).getD j 0∧(Qc7 zs).getD j 0<=255:=by
 by_cases h:j<(Qc7 zs).length
 ·have:=Qwi zs.length zs hn (fun z hm=>by
   obtain⟨i,hi,rfl⟩:=List.getElem_of_mem hm
   have:=hz i
   simp[List.getD,List.getElem?_eq_getElem hi] at this
   omega) _ (List.getElem_mem h)
  simpa [List.getD,List.getElem?_eq_getElem h] using this
 ·simp[List.getD,List.getElem?_eq_none (show(Qc7 zs).length<=j by omega)]
theorem Qih(x:Int)(w:World)(h0:0<=x)(h1:x<18446744073709551616):
 Calls Tryz.prog 105 #[.int .u64 x] w fun e w'=>∃a c,e= .returned (.slice a (Qe0 x).length c)∧Ri w' .u8 a c (Qe0 x)∧Below w.heap.size w w':=by
 refine(Xd2 x w h0 h1).mono ?_
 rintro e w' ⟨v,rfl,ho,hb⟩
 obtain⟨a,c,rfl,hr⟩:=Ri.own ho (fun j=>Qa8 (Qhs x h0 h1 j).1 (Qhs x h0 h1 j).2)
 exact⟨a,c,rfl,hr,hb⟩
theorem Qr9(a:Option Addr)(cap:Nat)(zs:List Int)(w:World)(hr:Ri w .i64 a cap zs)(hn:zs.length<=1000)(hz:∀j,0<=zs.getD j 0∧zs.getD j 0<=255):
 Calls Tryz.prog 104 #[.slice a zs.length cap] w fun e w'=>∃v,e= .returned v∧w'.ownsRow w.heap.size 5 1 v (Qc7 zs).length ((Qc7 zs).map (Value.int .u8))∧Below w.heap.size w w':=by
 obtain⟨i0,hi,hz0,hz1,hz2⟩:=info_parts Tryz.info5Z
 have HR:=hid hr
 have HZ:=hid hz
 have hroom:=hr.room
 obtain⟨len,hle⟩:∃n,n=zs.length:=⟨_,rfl⟩
 have HL:=hid hle
 rw[<-hle] at hn hroom|-
 clear hr hle hz
 go_enter Tryz.func104,Tryz.ntmps104
 go_wp2_with fail
 go_loopw [3,4,5] (fun v i _ wr=>∃(k f:Nat) (acc:List Int),k<=len∧i= .int .i64 (k:Int)∧Hid (len-k<=f)∧Hid (acc++Qeo f (zs.drop k)=Qc7 zs)∧Hid (acc.length<=3*k)∧Hid (wr.ownsRow w.heap.size 5 1 v acc.length (acc.map (Value.int .u8)))∧Hid (Below w.heap.size w wr)) (fun _ i _ _=>len-(intOf i).toNat)
 case atStart=>exact⟨0,len,[],by omega,rfl,by show len-0<=len;omega,by rw[HL.out];rfl,by show 0<=3*0;omega,World.ownsRow_nil _ _ _ _,Below.refl _ _⟩
 case round=>
  obtain⟨k,f,acc,hk,rfl,HF,HACC,HAL,HO,HB⟩:=hrel
  by_cases hlt:k<len
  ·have hkl:(k:Int)<(len:Int):=by omega
   go_wp2_with fail
   go_loopw [5] (fun j wr2=>∃p:Nat,j= .int .i64 (p:Int)∧k<p∧p<=len∧Hid (∀q,k<q->q<p->zs.getD q 0=zs.getD k 0)∧Hid (wr2.ownsRow w.heap.size 5 1 u3 acc.length (acc.map (Value.int .u8)))∧Hid (Below w.heap.size w wr2)) (fun j _=>len-(intOf j).toNat)
   case atStart=>exact⟨k+1,by go_num,by omega,by omega,fun q h1 h2=>by omega,HO.out,HB.out⟩
   case round=>
    obtain⟨p,rfl,hp1,hp2,HS,HO2,HB2⟩:=hrel
    by_cases hpl:p<len
    ·have hpi:(p:Int)<(len:Int):=by omega
     obtain⟨b,off,rfl,hbw,hc⟩:=HR.out.cells (by rw[<-HL.out];omega)
     have cp:=(HB2.out.cell (p:=⟨b,off+p,none⟩) hbw).trans (hc p (by rw[<-HL.out];exact hpl))
     have ck:=(HB2.out.cell (p:=⟨b,off+k,none⟩) hbw).trans (hc k (by rw[<-HL.out];exact hlt))
     clear hc
     have HB3:=hid HB2.out.drew
     have HO3:=hid HO2.out.drew
     by_cases hq:zs.getD p 0=zs.getD k 0
     ·have HS2:Hid (∀q,k<q->q<p+1->zs.getD q 0=zs.getD k 0):=fun q h1 h2=>by
       by_cases e:q=p
       ·rw[e];exact hq
       ·exact HS.out q h1 (by omega)
      rw[hq] at cp
      clear HS hq HB2 HO2
      generalize zs.getD k 0=z at *
      go_wp2_with fail
      go_region
      clear cp ck
      generalize wr.drew=W at *
      go_wp2
      exact⟨⟨p+1,by go_num,by omega,by omega,HS2.out,HO3.out,HB3.out⟩,by simp[intOf];omega⟩
     ·have HEND:p=zs.length∨zs.getD p 0≠zs.getD k 0:=Or.inr hq
      have hqb:(zs.getD p 0==zs.getD k 0)=false:=by rw[beq_eq_false_iff_ne];exact hq
      clear hq
      clear HO2 HB2 HO HB
      have hzr:=HZ.out k
      have HST:=hid (Qil zs k p (f-1) hp1 (by rw[<-HL.out];exact hp2) HS.out HEND)
      have HF1:Hid (f-1+1=f):=by show f-1+1=f;have:=HF.out;omega
      rw[HF1.out] at HST
      have HVI:=hid (fun W=>Qih ((p:Int)-(k:Int)) W (by omega) (by omega))
      have HVL:=hid (Qdo ((p:Int)-(k:Int)) (by omega) (by omega))
      have hpk:((p-k:Nat):Int)=(p:Int)-(k:Int):=by omega
      rw[hpk] at HST
      have HF2:Hid (len-p<=f-1):=by show len-p<=f-1;have:=HF.out;omega
      have hz256:zs.getD k 0%256=zs.getD k 0:=by omega
      have hal:=HAL.out
      clear hpk HF HF1 HEND HS
      generalize zs.getD p 0=y at *
      generalize zs.getD k 0=z at *
      have hz9:=hzr.1
      have hz8:=hzr.2
      clear hzr
      obtain⟨W,hW⟩:∃x,x=wr.drew:=⟨_,rfl⟩
      have HC0:Hid (W.cell? ⟨b,off+k,none⟩=some (.int .i64 z)):=by rw[hW];exact ck
      go_wp2_with fail
      go_region
      rw[<-hW] at HO3 HB3|-
      have ck2:=HC0.out
      clear cp ck hW HC0
      go_wp2_with (at_builtin;refine wpList_append_own _ rfl _ _ 22 rfl w.heap.size 5 i0 (.int .u8 0) 1 1 Tryz.underlying22 hi hz0 hz1 hz2 rfl (by decide) _ _ _ rfl (HO3.out.alloc _) ⟨W.heap.size,0,none⟩ 1 1 [.int .u8 z] rfl rfl ?c1 ?c2 ?c3 ?c4 ?c5 ?_)
      case c1=>
       intro j u hj
       match j,hj with
       | 0,hj=>simp at hj;subst hj;simp[Addr.add]
      case c2=>intro u hu;simp at hu;subst hu;rfl
      case c3=>unfold maxLen;omega
      case c4=>omega
      case c5=>have:=HB3.out.size;simp;omega
      intro v' w1 hown' hgrow _
      have R:=Qd0 HB3.out.size HO3.out HB3.out hown' hgrow
      have HO4:=hid R.1
      have HB4:=hid R.2
      clear hown' hgrow R HO3 HB3 ck2
      go_wp2_with fail
      go_at_call 105
      refine(HVI.out w1).mono ?_
      rintro _ w2 ⟨va,vc,rfl,hvr,hvb⟩
      have HO5:=hid (Qa1 HO4.out hvb)
      have HB5:=hid (Bn HB4.out hvb)
      have HVR:=hid hvr
      have hsz:=HB5.out.size
      clear hvb hvr HVI HO4 HB4
      generalize Qe0 ((p:Int)-(k:Int))=vi at *
      have hbd:(acc++ [z]).length+vi.length<=10000000:=by have:=HVL.out;simp;omega
      go_wp2_with (at_builtin;refine Qch _ rfl _ _ rfl w.heap.size _ (acc++ [z]) rfl HO5.out va vc vi rfl HVR.out hbd hsz ?_)
      intro v' w3 hown' hgrow
      have HB6:=hid (HB5.out.grown hgrow (by omega) (fun j hj=>(HO5.out.lt j hj).1))
      have HO6:Hid (w3.ownsRow w.heap.size 5 1 v' (acc++ [z]++vi).length ((acc++ [z]++vi).map (Value.int .u8))):=by
       show World.ownsRow _ _ _ _ _ _ _
       have e1:(acc++ [z]++vi).length=acc.length+(vi.length+1):=by simp
       have e2:(acc++ [z]++vi).map (Value.int .u8)=acc.map (Value.int .u8)++Value.int .u8 z::vi.map (Value.int .u8):=by simp
       rw[e1,e2];exact hown'
      have HAC:Hid ((acc++ [z]++vi)++Qeo (f-1) (zs.drop p)=Qc7 zs):=by show _=_;rw[<-HACC.out,HST.out];simp
      have HLE:Hid ((acc++ [z]++vi).length<=3*p):=by show _<=_;have:=HVL.out;simp;omega
      clear hgrow hown' HO5 HB5 HVR hbd HST HACC HVL HAL
      go_wp2
      exact⟨⟨p,f-1,acc++ [z]++vi,by omega,rfl,HF2.out,HAC.out,HLE.out,HO6.out,HB6.out⟩,by simp[intOf];omega⟩
    ·have HEND:p=zs.length∨zs.getD p 0≠zs.getD k 0:=Or.inl (by rw[<-HL.out];omega)
     have hpi:¬(p:Int)<(len:Int):=by omega
     obtain⟨b,off,rfl,hbw,hc⟩:=HR.out.cells (by rw[<-HL.out];omega)
     have ck:=(HB2.out.cell (p:=⟨b,off+k,none⟩) hbw).trans (hc k (by rw[<-HL.out];exact hlt))
     clear hc
     have HB3:=hid HB2.out.drew
     have HO3:=hid HO2.out.drew
     clear HO2 HB2 HO HB
     have hzr:=HZ.out k
     have HST:=hid (Qil zs k p (f-1) hp1 (by rw[<-HL.out];exact hp2) HS.out HEND)
     have HF1:Hid (f-1+1=f):=by show f-1+1=f;have:=HF.out;omega
     rw[HF1.out] at HST
     have HVI:=hid (fun W=>Qih ((p:Int)-(k:Int)) W (by omega) (by omega))
     have HVL:=hid (Qdo ((p:Int)-(k:Int)) (by omega) (by omega))
     have hpk:((p-k:Nat):Int)=(p:Int)-(k:Int):=by omega
     rw[hpk] at HST
     have HF2:Hid (len-p<=f-1):=by show len-p<=f-1;have:=HF.out;omega
     have hz256:zs.getD k 0%256=zs.getD k 0:=by omega
     have hal:=HAL.out
     clear hpk HF HF1 HEND HS
     generalize zs.getD k 0=z at *
     have hz9:=hzr.1
     have hz8:=hzr.2
     clear hzr
     obtain⟨W,hW⟩:∃x,x=wr.drew:=⟨_,rfl⟩
     have HC0:Hid (W.cell? ⟨b,off+k,none⟩=some (.int .i64 z)):=by rw[hW];exact ck
     go_wp2_with fail
     go_region
     rw[<-hW] at HO3 HB3|-
     have ck2:=HC0.out
     clear ck hW HC0
     go_wp2_with (at_builtin;refine wpList_append_own _ rfl _ _ 22 rfl w.heap.size 5 i0 (.int .u8 0) 1 1 Tryz.underlying22 hi hz0 hz1 hz2 rfl (by decide) _ _ _ rfl (HO3.out.alloc _) ⟨W.heap.size,0,none⟩ 1 1 [.int .u8 z] rfl rfl ?d1 ?d2 ?d3 ?d4 ?d5 ?_)
     case d1=>
      intro j u hj
      match j,hj with
      | 0,hj=>simp at hj;subst hj;simp[Addr.add]
     case d2=>intro u hu;simp at hu;subst hu;rfl
     case d3=>unfold maxLen;omega
     case d4=>omega
     case d5=>have:=HB3.out.size;simp;omega
     intro v' w1 hown' hgrow _
     have R:=Qd0 HB3.out.size HO3.out HB3.out hown' hgrow
     have HO4:=hid R.1
     have HB4:=hid R.2
     clear hown' hgrow R HO3 HB3 ck2
     go_wp2_with fail
     go_at_call 105
     refine(HVI.out w1).mono ?_
     rintro _ w2 ⟨va,vc,rfl,hvr,hvb⟩
     have HO5:=hid (Qa1 HO4.out hvb)
     have HB5:=hid (Bn HB4.out hvb)
     have HVR:=hid hvr
     have hsz:=HB5.out.size
     clear hvb hvr HVI HO4 HB4
     generalize Qe0 ((p:Int)-(k:Int))=vi at *
     have hbd:(acc++ [z]).length+vi.length<=10000000:=by have:=HVL.out;simp;omega
     go_wp2_with (at_builtin;refine Qch _ rfl _ _ rfl w.heap.size _ (acc++ [z]) rfl HO5.out va vc vi rfl HVR.out hbd hsz ?_)
     intro v' w3 hown' hgrow
     have HB6:=hid (HB5.out.grown hgrow (by omega) (fun j hj=>(HO5.out.lt j hj).1))
     have HO6:Hid (w3.ownsRow w.heap.size 5 1 v' (acc++ [z]++vi).length ((acc++ [z]++vi).map (Value.int .u8))):=by
      show World.ownsRow _ _ _ _ _ _ _
      have e1:(acc++ [z]++vi).length=acc.length+(vi.length+1):=by simp
      have e2:(acc++ [z]++vi).map (Value.int .u8)=acc.map (Value.int .u8)++Value.int .u8 z::vi.map (Value.int .u8):=by simp
      rw[e1,e2];exact hown'
     have HAC:Hid ((acc++ [z]++vi)++Qeo (f-1) (zs.drop p)=Qc7 zs):=by show _=_;rw[<-HACC.out,HST.out];simp
     have HLE:Hid ((acc++ [z]++vi).length<=3*p):=by show _<=_;have:=HVL.out;simp;omega
     clear hgrow hown' HO5 HB5 HVR hbd HST HACC HVL HAL
     go_wp2
     exact⟨⟨p,f-1,acc++ [z]++vi,by omega,rfl,HF2.out,HAC.out,HLE.out,HO6.out,HB6.out⟩,by simp[intOf];omega⟩
  ·obtain rfl:k=len:=by omega
   have HE:Hid (acc=Qc7 zs):=by show _=_;rw[<-HACC.out,Qq6 f zs k (by rw[<-HL.out];omega)];simp
   go_wp2
   go_ret
   exact⟨_,rfl,by rw[<-HE.out];exact HO.out,HB.out⟩
def Xg2(L:List Int)(f b:Nat):List Int×Nat:=
 if f=0 then (L++ [((b*128:Nat):Int)],7) else (L.set (L.length-1) (((L.getD (L.length-1) 0).toNat|||b*2^(f-1):Nat):Int),f-1)
def Qni(x:Nat):Nat->List Int×Nat->List Int×Nat
 | 0,s=>s
 | n+1,s=>Qni x n (Xg2 s.1 s.2 (x/2^n%2))
structure Wt (B g:Nat) (w:World) (L:List Int) (f:Nat) (v:Value):Prop where
 blk:w.heap[g]?=some (.cells #[v,.int .i64 (f:Int)] 161 (0,0))
 row:w.ownsRow B 5 1 v L.length (L.map (Value.int .u8))
 u8:∀j,0<=L.getD j 0∧L.getD j 0<=255
 fl:f<=8
 any:0<f->0<L.length
theorem Wt.ne{B g:Nat}{w:World}{L:List Int}{f:Nat}{v:Value}(h:Wt B g w L f v):v.ownBlock≠some g:=by
 rcases h.row.2 with ⟨rfl,_⟩ | ⟨k,cap,cur,rfl,_,hh,_⟩
 ·simp[Value.ownBlock]
 ·intro e
  have e':k=g:=by simpa [Value.ownBlock] using e
  have:=h.blk
  rw[<-e',hh] at this
  injection this with this
  injection this with _ h2
  cases h2
theorem Wt.free{B g:Nat}{w:World}{L:List Int}{f:Nat}{v:Value}(h:Wt B g w L f v)(f':Nat)(h1:f'<=8)(h2:0<f'->0<L.length):Wt B g (w.setCell ⟨g,1,none⟩ (.int .i64 (f':Int))) L f' v:=by
 refine⟨?_,ownsRow_setCell_other h.row h.ne _,h.u8,h1,h2⟩
 rw[Joins.block_setCell h.blk];rfl
theorem Wt.drew{B g:Nat}{w:World}{L:List Int}{f:Nat}{v:Value}(h:Wt B g w L f v):Wt B g w.drew L f v:=⟨h.blk,h.row.drew,h.u8,h.fl,h.any⟩
theorem Wt.alloc{B g:Nat}{w:World}{L:List Int}{f:Nat}{v:Value}(h:Wt B g w L f v)(o:Obj):Wt B g (w.alloc o) L f v:=
 ⟨((Qaa w o).block g (Array.getElem?_eq_some_iff.1 h.blk).1).trans h.blk,h.row.alloc o,h.u8,h.fl,h.any⟩
theorem Wt.lt{B g:Nat}{w:World}{L:List Int}{f:Nat}{v:Value}(h:Wt B g w L f v):g<w.heap.size:=(Array.getElem?_eq_some_iff.1 h.blk).1
theorem Wt.more{B g:Nat}{w w':World}{L:List Int}{f:Nat}{v v':Value}(h:Wt B g w L f v)(hg:w.grownBy w' v.ownBlock)(ho:w'.ownsRow B 5 1 v' (L++ [0]).length ((L++ [0]).map (Value.int .u8))):Wt B g (w'.setCell ⟨g,0,none⟩ v') (L++ [0]) f v':=by
 have hb:w'.heap[g]?=some (.cells #[v,.int .i64 (f:Int)] 161 (0,0)):=(hg.block g h.lt h.ne.symm).trans h.blk
 have hne:v'.ownBlock≠some g:=by
  rcases ho.2 with ⟨rfl,_⟩ | ⟨k,cap,cur,rfl,_,hh,_⟩
  ·simp[Value.ownBlock]
  ·intro e
   have e':k=g:=by simpa [Value.ownBlock] using e
   rw[<-e',hh] at hb
   injection hb with hb
   injection hb with _ h2
   cases h2
 refine⟨?_,ownsRow_setCell_other ho hne _,fun j=>?_,h.fl,fun _=>by simp⟩
 ·rw[Joins.block_setCell hb];rfl
 ·by_cases c:j<L.length
  ·have:=h.u8 j
   simpa [List.getD,List.getElem?_append_left c] using this
  ·by_cases c2:j=L.length
   ·subst c2;simp[List.getD]
   ·simp[List.getD,List.getElem?_eq_none (show(L++ [0]).length<=j by simp;omega)]
theorem Wt.last{B g:Nat}{w:World}{L:List Int}{f k n cap:Nat}(h:Wt B g w L f (.slice (some ⟨k,0,none⟩) n cap))(i:Nat)(x:Int)(hx:0<=x∧x<=255):Wt B g (w.setCell ⟨k,i,none⟩ (.int .u8 x)) (L.set i x) f (.slice (some ⟨k,0,none⟩) n cap):=by
 have hn:n=L.length:=by
  rcases h.row.2 with ⟨h1,_⟩ | ⟨_,_,_,h1,_⟩
  ·cases h1
  ·injection h1
 subst hn
 have hs:=(h.row.stored i (.int .u8 x))
 have hkg:k≠g:=fun e=>h.ne (by rw[e];rfl)
 refine⟨?_,?_,fun j=>?_,h.fl,fun hf=>by rw[List.length_set];exact h.any hf⟩
 ·have:=hs.2.block g h.lt (by simp;exact fun e=>hkg e.symm)
  rw[this];exact h.blk
 ·rw[List.length_set,List.map_set];exact hs.1
 ·have h1:=h.u8 j
  simp only[List.getD,List.getElem?_set] at h1|-
  split
  ·split
   ·simpa using hx
   ·simp
  ·exact h1
structure Fr (g:Nat) (w w':World):Prop where
 size:w.heap.size<=w'.heap.size
 same:∀i,i<w.heap.size->i≠g->(∀cs fr,w.heap[i]?≠some (.cells cs 5 fr))->w'.heap[i]?=w.heap[i]?
theorem Fr.refl(g:Nat)(w:World):Fr g w w:=⟨Nat.le_refl _,fun _ _ _ _=>rfl⟩
theorem Fr.trans{g:Nat}{a b c:World}(h:Fr g a b)(k:Fr g b c):Fr g a c:=
 ⟨Nat.le_trans h.size k.size,fun i h1 h2 h3=>by
  have e:=h.same i h1 h2 h3
  exact(k.same i (Nat.lt_of_lt_of_le h1 h.size) h2 (by rw[e];exact h3)).trans e⟩
theorem Fr.of_below{g:Nat}{w w':World}(h:Below w.heap.size w w'):Fr g w w':=⟨h.size,fun i hi _ _=>h.block i hi⟩
theorem Fr.drew{g:Nat}{w w':World}(h:Fr g w w'):Fr g w w'.drew:=⟨h.size,h.same⟩
theorem Fr.atG{g i:Nat}{w wr:World}(h:Fr g w wr)(x:Value):Fr g w (wr.setCell ⟨g,i,none⟩ x):=
 ⟨by have:=h.size;simpa using this,fun j h1 h2 h3=>(Below.heap_setCell wr ⟨g,i,none⟩ x j h2).trans (h.same j h1 h2 h3)⟩
theorem Fr.atB{g k i:Nat}{w wr:World}{cs:Array Value}{fr:Nat×Nat}(h:Fr g w wr)(hk:wr.heap[k]?=some (.cells cs 5 fr))(x:Value):Fr g w (wr.setCell ⟨k,i,none⟩ x):=
 ⟨by have:=h.size;simpa using this,fun j h1 h2 h3=>by
  have e:=h.same j h1 h2 h3
  have hne:j≠k:=fun q=>h3 cs fr (by rw[<-e,q];exact hk)
  exact(Below.heap_setCell wr ⟨k,i,none⟩ x j hne).trans e⟩
theorem Fr.grown{g B n:Nat}{w wr w':World}{v:Value}{xs:List Value}(h:Fr g w wr)(ho:wr.ownsRow B 5 1 v n xs)(hg:wr.grownBy w' v.ownBlock):Fr g w w':=
 ⟨Nat.le_trans h.size hg.size,fun j h1 h2 h3=>by
  have e:=h.same j h1 h2 h3
  refine(hg.block j (Nat.lt_of_lt_of_le h1 h.size) (fun q=>?_)).trans e
  rcases ho.2 with ⟨rfl,_⟩ | ⟨k,cap,cur,rfl,_,hh,_⟩
  ·simp[Value.ownBlock] at q
  ·have e':j=k:=by simpa [Value.ownBlock] using q
   exact h3 cur (0,0) (by rw[<-e,e'];exact hh)⟩
theorem Wt.blkB{B g:Nat}{w:World}{L:List Int}{f k n cap:Nat}(h:Wt B g w L f (.slice (some ⟨k,0,none⟩) n cap)):∃cur,w.heap[k]?=some (.cells cur 5 (0,0)):=by
 rcases h.row.2 with ⟨e,_⟩ | ⟨k',cap',cur,e,_,hh,_⟩
 ·cases e
 ·injection e with e1 _ _
  injection e1 with e1
  injection e1 with e1
  subst e1
  exact⟨cur,hh⟩
theorem Wt.cells{B g:Nat}{w:World}{L:List Int}{f:Nat}{v:Value}(h:Wt B g w L f v)(h0:0<L.length):∃k cap,v= .slice (some ⟨k,0,none⟩) L.length cap∧B<=k∧L.length<=cap∧cap<=maxLen∧(∀i,i<L.length->w.cell? ⟨k,i,none⟩=some (.int .u8 (L.getD i 0)))∧∀i,w.frozen? ⟨k,i,none⟩=false:=by
 have hr:=h.row
 rcases hr.2 with ⟨_,h2⟩ | ⟨k,cap,cur,rfl,hB,hh,hn,hm,_⟩
 ·omega
 ·refine⟨k,cap,rfl,hB,hn,hm,fun i hi=>?_,fun i=>hr.frozenAt i⟩
  rw[hr.cellAt i (by simpa using hi)]
  simp[List.getD,List.getElem?_eq_getElem hi]
theorem Qt1(a b:Nat)(ha:a<2^62)(hb:b<2^62):bits .and .i64 (a:Int) (b:Int)=((a&&&b:Nat):Int):=by
 have hx:a&&&b<2^62:=Nat.and_lt_two_pow _ hb
 show IntKind.i64.wrap ((BitVec.ofInt 64 (a:Int)&&&BitVec.ofInt 64 (b:Int)).toNat:Int)=_
 rw[BitVec.toNat_and,ofInt_u64 a (by omega),ofInt_u64 b (by omega),IntKind.wrap_i64]
 omega
theorem Qyg(a b:Nat)(ha:a<2^62)(hb:b<2^62):bits .or .i64 (a:Int) (b:Int)=((a|||b:Nat):Int):=by
 have hx:a|||b<2^62:=Nat.or_lt_two_pow ha hb
 show IntKind.i64.wrap ((BitVec.ofInt 64 (a:Int)|||BitVec.ofInt 64 (b:Int)).toNat:Int)=_
 rw[BitVec.toNat_or,ofInt_u64 a (by omega),ofInt_u64 b (by omega),IntKind.wrap_i64]
 omega
theorem Qn4(y:Nat)(h:y<65536):bits .and .i64 (y:Int) 1=((y%2:Nat):Int):=by
 rw[show(1:Int)=((1:Nat):Int) from rfl,Qt1 y 1 (by omega) (by omega),Nat.and_one_is_mod]
theorem Xj7(a c:Nat)(h1:a<256)(h2:c<256):bits .or .u8 (a:Int) (c:Int)=((a|||c:Nat):Int):=u8_or_nat a c h1 h2
theorem Qvc(B g x n:Nat)(L:List Int)(f:Nat)(w0 w:World)(v:Value)(hW:Wt B g w L f v)(hb:Below B w0 w)(hB:B<=g)(hx:x<65536)(hn:n<=15)(hL:L.length<=4000000):
 Calls Tryz.prog 135 #[.pointer (some ⟨g,0,none⟩),.int .i64 (x:Int),.int .i64 (n:Int)] w fun e w'=>e= .returned (.tuple #[])∧(∃v',Wt B g w' (Qni x n (L,f)).1 (Qni x n (L,f)).2 v')∧Below B w0 w'∧Fr g w w':=by
 obtain⟨i0,hi,hz0,hz1,hz2⟩:=info_parts Tryz.info5Z
 have HW0:=hid hW
 have HB0:=hid hb
 have HBG:=hid hB
 have HLL:=hid hL
 clear hW hb hB hL
 obtain⟨N,hN⟩:∃k,k=n:=⟨_,rfl⟩
 have HN:=hid hN
 rw[<-hN] at hn|-
 clear hN
 go_enter Tryz.func135,Tryz.ntmps135
 go_wp2_with fail
 go_loopw [2] (fun y wr=>∃(k f':Nat) (L':List Int) (v':Value),y= .int .i64 (k:Int)∧k<=N∧Hid (Qni x k (L',f')=Qni x n (L,f))∧Hid (Wt B g wr L' f' v')∧Hid (Below B w0 wr)∧Hid (L'.length+k<=4000000+N)∧Hid (Fr g w wr)) (fun y _=>(intOf y).toNat)
 case atStart=>exact⟨N,f,L,v,rfl,by omega,by rw[HN.out];rfl,HW0.out,HB0.out,by have:=HLL.out;show L.length+N<=4000000+N;omega,Fr.refl _ _⟩
 case round=>
  obtain⟨k,f',L',v',rfl,hk,HP,HW,HB,HLN,HFR⟩:=hrel
  clear HW0 HB0 HLL
  rcases Nat.eq_zero_or_pos k with h0 | h0
  ·subst h0
   go_wp2
   go_end0
   exact⟨rfl,⟨v',by rw[HN.out,<-HP.out];exact HW.out⟩,HB.out,HFR.out⟩
  ·have hk0:(0:Int)<(k:Int):=by omega
   have c0:=Joins.cell_of_block HW.out.blk 0
   have c1:=Joins.cell_of_block HW.out.blk 1
   have u0:=Joins.unfrozen_of_block HW.out.blk 0
   have u1:=Joins.unfrozen_of_block HW.out.blk 1
   simp only[List.getElem?_toArray,List.getElem?_cons_zero,List.getElem?_cons_succ] at c0 c1
   by_cases hf:f'=0
   ·subst hf
    have HF0:=hid HW.out.row
    have hz:=HB.out.size
    have hLn:=HLN.out
    have HZERO:Hid (((0:Nat):Int)=0):=rfl
    simp only[Int.natCast_zero] at c1
    go_wp2_with (at_builtin;refine wpList_append_own _ rfl _ _ 22 rfl B 5 i0 (.int .u8 0) 1 1 Tryz.underlying22 hi hz0 hz1 hz2 rfl (by decide) _ _ _ rfl (HF0.out.alloc _) ⟨wr.heap.size,0,none⟩ 1 1 [.int .u8 0] rfl rfl ?c1 ?c2 ?c3 ?c4 ?c5 ?_)
    case c1=>
     intro j u hj
     match j,hj with
     | 0,hj=>simp at hj;subst hj;simp[Addr.add]
    case c2=>intro u hu;simp at hu;subst hu;rfl
    case c3=>unfold maxLen;omega
    case c4=>omega
    case c5=>have h1:=HBG.out;have h2:=HW.out.lt;simp;omega
    intro v1 w1 hown' hgrow hnn
    obtain⟨kb1,cp1,hvs⟩:∃kb1 cp1,v1= .slice (some ⟨kb1,0,none⟩) (L'.length+1) cp1:=by
     rcases hown'.2 with ⟨h,_⟩ | ⟨k1,c1,_,h,_⟩
     ·exact absurd h hnn
     ·exact⟨k1,c1,h⟩
    subst hvs
    clear hnn
    obtain⟨L1,hL1⟩:∃l,l=L'++ [0]:=⟨_,rfl⟩
    have HL1:=hid hL1
    have HM0:Hid (Wt B g (w1.setCell ⟨g,0,none⟩ (.slice (some ⟨kb1,0,none⟩) (L'.length+1) cp1)) L1 0 (.slice (some ⟨kb1,0,none⟩) (L'.length+1) cp1)):=by
     rw[hL1]
     exact(HW.out.alloc _).more hgrow (by rw[List.length_append,List.map_append];exact hown')
    have hbk:w1.heap[g]?=some (.cells #[v',.int .i64 ((0:Nat):Int)] 161 (0,0)):=(hgrow.block g (by have:=HW.out.lt;simp;omega) HW.out.ne.symm).trans (HW.out.alloc _).blk
    have HAN:Hid (0<L1.length):=by show 0<L1.length;rw[hL1];simp
    have HG2:Hid (Wt B g (((w1.setCell ⟨g,0,none⟩ (.slice (some ⟨kb1,0,none⟩) (L'.length+1) cp1)).setCell ⟨g,1,none⟩ (.int .i64 8)).setCell ⟨g,1,none⟩ (.int .i64 7)) L1 7 (.slice (some ⟨kb1,0,none⟩) (L'.length+1) cp1)):=(HM0.out.free 8 (by omega) (fun _=>HAN.out)).free 7 (by omega) (fun _=>HAN.out)
    have HBL0:=hid ((HB.out.alloc (show B<=wr.heap.size by have h1:=HBG.out;have h2:=HW.out.lt;omega) (.cells #[.int .u8 0] 5)).grown hgrow (by have h1:=HBG.out;have h2:=HW.out.lt;simp;omega) (fun j hj=>(HF0.out.lt j hj).1))
    have HB2:=hid (((HBL0.out.setCell (show B<=(Addr.mk g 0 none).block from HBG.out) (.slice (some ⟨kb1,0,none⟩) (L'.length+1) cp1)).setCell (show B<=(Addr.mk g 1 none).block from HBG.out) (.int .i64 8)).setCell (show B<=(Addr.mk g 1 none).block from HBG.out) (.int .i64 7))
    have HFR2:=hid ((((((HFR.out.trans (Fr.of_below (Qaa wr (.cells #[.int .u8 0] 5)))).grown (HW.out.alloc _).row hgrow).atG (i:=0) (.slice (some ⟨kb1,0,none⟩) (L'.length+1) cp1)).atG (i:=1) (.int .i64 8)).atG (i:=1) (.int .i64 7)))
    have HLN1:Hid (L1.length+(k-1)<=4000000+N):=by show _<=_;rw[hL1];have:=HLN.out;simp;omega
    clear hL1 hown' hgrow c0 c1 u0 u1 hz hLn HZERO HF0 HBL0
    have c0:=Joins.cell_of_block hbk 0
    have c1:=Joins.cell_of_block hbk 1
    have u0:=Joins.unfrozen_of_block hbk 0
    have u1:=Joins.unfrozen_of_block hbk 1
    simp only[List.getElem?_toArray,List.getElem?_cons_zero,List.getElem?_cons_succ] at c0 c1
    have hmo:Tryz.prog.follows .mixedOrders=true:=by kernel_rfl
    clear hbk
    go_wp2_with fail
    generalize ((w1.setCell ⟨g,0,none⟩ (.slice (some ⟨kb1,0,none⟩) (L'.length+1) cp1)).setCell ⟨g,1,none⟩ (.int .i64 8)).setCell ⟨g,1,none⟩ (.int .i64 7)=W2 at *
    obtain⟨q,hq⟩:∃q:Nat,q=7:=⟨_,rfl⟩
    obtain⟨kk,hkk⟩:∃q:Nat,q=k-1:=⟨_,rfl⟩
    have hki:(k:Int)-1=(kk:Int):=by omega
    rw[hki]
    rw[<-hq] at HG2
    have HQ:=hid hq
    have HKK:=hid hkk
    clear hq hkk hki c0 c1 u0 u1
    have h0L:0<L1.length:=HAN.out
    obtain⟨kb,cp,hv1,hkb,hcp,hcm,hcl,hfz⟩:=HG2.out.cells h0L
    injection hv1 with e1 e2 e3
    injection e1 with e1
    injection e1 with e1
    subst e1 e3
    rw[e2] at HG2
    clear e2
    have HKB:=hid hkb
    clear hkb
    have c0:=Joins.cell_of_block HG2.out.blk 0
    have c1:=Joins.cell_of_block HG2.out.blk 1
    simp only[List.getElem?_toArray,List.getElem?_cons_zero,List.getElem?_cons_succ] at c0 c1
    obtain⟨m,hm⟩:∃m,m=L1.length-1:=⟨_,rfl⟩
    have cl:=hcl m (by omega)
    have fz:=hfz m
    obtain⟨ln,hln⟩:∃m,m=L1.length:=⟨_,rfl⟩
    have HLN2:=hid hln
    have HMM:Hid (m=L1.length-1):=hm
    have hmi:(ln:Int)-1=(m:Int):=by omega
    have hml:m<ln:=by omega
    have hmb:(ln:Int)<=5000000:=by have:=HLN1.out;omega
    rw[<-hln] at c0 hcp
    have hu8:=HG2.out.u8 m
    obtain⟨la,hla⟩:=Int.eq_ofNat_of_zero_le hu8.1
    have hla2:la<256:=by omega
    have HLA:Hid (L1.getD m 0=(la:Int)):=hla
    rw[hla] at cl
    obtain⟨y,hy⟩:∃y,y=x/2^kk:=⟨_,rfl⟩
    have HY:Hid (y=x/2^kk):=hy
    have hyx:y<65536:=by rw[hy];exact Nat.lt_of_le_of_lt (Nat.div_le_self _ _) hx
    have hsh:(x:Int)/2^kk=(y:Int):=by rw[hy];simp
    have hand:=Qn4 y hyx
    obtain⟨b,hb⟩:∃b,b=y%2:=⟨_,rfl⟩
    have HBB:Hid (b=y%2):=hb
    rw[<-hb] at hand
    have hb2:b<2:=by omega
    have hkb:(kk:Int)<64:=by have:=HKK.out;omega
    have hwm:IntKind.i64.wrap (m:Int)=(m:Int):=by rw[IntKind.wrap_i64];omega
    have hwy:IntKind.i64.wrap (y:Int)=(y:Int):=by rw[IntKind.wrap_i64];omega
    have hwb:IntKind.u8.wrap (b:Int)=(b:Int):=by rw[IntKind.wrap_u8];omega
    have hq7:q<=7:=by have:=HQ.out;omega
    obtain⟨c,hc⟩:∃c,c=b*2^q:=⟨_,rfl⟩
    have hc256:c<256:=by
     have h1:2^q<=2^7:=Nat.pow_le_pow_right (by decide) hq7
     have h2:b*2^q<=1*2^7:=Nat.mul_le_mul (by omega) h1
     omega
    have hci:(b:Int)*2^q=(c:Int):=by rw[hc];simp
    have hwc:IntKind.u8.wrap (c:Int)=(c:Int):=by rw[IntKind.wrap_u8];omega
    have hor:=Xj7 la c hla2 hc256
    obtain⟨r,hr⟩:∃r,r=la|||c:=⟨_,rfl⟩
    rw[<-hr] at hor
    have HRR:Hid (r=la|||b*2^q):=by show _=_;rw[hr,hc]
    have hr256:r<256:=by rw[hr];exact Nat.or_lt_two_pow (n:=8) hla2 hc256
    clear hcl hfz hm hln hu8 hla hy hb h0L hc hr
    go_still_tail 24,hmo
    change wpList _ _ _ _ _ W2.drew
    have HWL:=hid ((HG2.out.last m (r:Int) (by omega)))
    obtain⟨cur,hcur⟩:=HG2.out.blkB
    have HFR3:=hid (HFR2.out.atB (i:=m) hcur (.int .u8 (r:Int))).drew
    clear hcur
    have HBL:=hid ((HB2.out.setCell (show B<=(Addr.mk kb1 m none).block from HKB.out) (.int .u8 (r:Int))).drew)
    have HPP:Hid (Qni x kk (L1.set m (r:Int),q)=Qni x n (L,f)):=by
     show _=_
     rw[<-HP.out,show k=kk+1 from by have:=HKK.out;omega,Qni]
     unfold Xg2
     rw[if_pos rfl,<-HY.out,<-HBB.out]
     have e1:L1.set m (r:Int)=L'++ [((b*128:Nat):Int)]:=by
      have hla0:la=0:=by
       have h:=HLA.out
       rw[HMM.out,HL1.out] at h
       simp[List.getD] at h
       omega
      rw[HRR.out,hla0,HQ.out,HMM.out,HL1.out]
      simp
     rw[e1,HQ.out]
    have HLL:Hid ((L1.set m (r:Int)).length+kk<=4000000+N):=by show _<=_;rw[List.length_set];have:=HLN1.out;have:=HKK.out;omega
    have hkk2:kk<k:=by have:=HKK.out;omega
    go_wp2
    exact⟨⟨kk,q,L1.set m (r:Int),_,rfl,by omega,HPP.out,HWL.out.drew,HBL.out,HLL.out,HFR3.out⟩,by simp[intOf];omega⟩
   ·have hfb:((f':Int)==0)=false:=by rw[beq_eq_false_iff_ne];omega
    have hfl:=HW.out.fl
    have HF2:=hid (HW.out.free (f'-1) (by omega) (fun _=>HW.out.any (by omega)))
    have hfe:((f'-1:Nat):Int)=(f':Int)-1:=by omega
    rw[hfe] at HF2
    have hmo:Tryz.prog.follows .mixedOrders=true:=by kernel_rfl
    have HAN:Hid (0<L'.length):=HW.out.any (by omega)
    go_wp2_with fail
    obtain⟨q,hq⟩:∃q:Nat,q=f'-1:=⟨_,rfl⟩
    obtain⟨kk,hkk⟩:∃q:Nat,q=k-1:=⟨_,rfl⟩
    have hqi:(f':Int)-1=(q:Int):=by omega
    have hki:(k:Int)-1=(kk:Int):=by omega
    rw[hqi,hki]
    rw[hqi,<-hq] at HF2
    have HQ:=hid hq
    have HKK:=hid hkk
    clear c0 c1 u0 u1 HW hq hkk hqi hki
    have HFR2:=hid (HFR.out.atG (i:=1) (.int .i64 (q:Int)))
    have hb2:=HB.out.setCell (show B<=(Addr.mk g 1 none).block from HBG.out) (.int .i64 (q:Int))
    have HB2:=hid hb2
    clear hb2
    generalize wr.setCell ⟨g,1,none⟩ (.int .i64 (q:Int))=W2 at *
    have h0L:0<L'.length:=HAN.out
    obtain⟨kb,cp,hv',hkb,hcp,hcm,hcl,hfz⟩:=HF2.out.cells h0L
    subst hv'
    have HKB:=hid hkb
    clear hkb
    have c0:=Joins.cell_of_block HF2.out.blk 0
    have c1:=Joins.cell_of_block HF2.out.blk 1
    simp only[List.getElem?_toArray,List.getElem?_cons_zero,List.getElem?_cons_succ] at c0 c1
    obtain⟨m,hm⟩:∃m,m=L'.length-1:=⟨_,rfl⟩
    have cl:=hcl m (by omega)
    have fz:=hfz m
    obtain⟨ln,hln⟩:∃m,m=L'.length:=⟨_,rfl⟩
    have HLN2:=hid hln
    have HMM:Hid (m=L'.length-1):=hm
    have hmi:(ln:Int)-1=(m:Int):=by omega
    have hml:m<ln:=by omega
    have hmb:(ln:Int)<=5000000:=by have:=HLN.out;omega
    rw[<-hln] at c0 hcp
    have hu8:=HF2.out.u8 m
    obtain⟨la,hla⟩:=Int.eq_ofNat_of_zero_le hu8.1
    have hla2:la<256:=by omega
    have HLA:Hid (L'.getD m 0=(la:Int)):=hla
    rw[hla] at cl
    obtain⟨y,hy⟩:∃y,y=x/2^kk:=⟨_,rfl⟩
    have HY:Hid (y=x/2^kk):=hy
    have hyx:y<65536:=by rw[hy];exact Nat.lt_of_le_of_lt (Nat.div_le_self _ _) hx
    have hsh:(x:Int)/2^kk=(y:Int):=by rw[hy];simp
    have hand:=Qn4 y hyx
    obtain⟨b,hb⟩:∃b,b=y%2:=⟨_,rfl⟩
    have HBB:Hid (b=y%2):=hb
    rw[<-hb] at hand
    have hb2:b<2:=by omega
    have hkb:(kk:Int)<64:=by have:=HKK.out;omega
    have hwm:IntKind.i64.wrap (m:Int)=(m:Int):=by rw[IntKind.wrap_i64];omega
    have hwy:IntKind.i64.wrap (y:Int)=(y:Int):=by rw[IntKind.wrap_i64];omega
    have hwb:IntKind.u8.wrap (b:Int)=(b:Int):=by rw[IntKind.wrap_u8];omega
    have hq7:q<=7:=by have:=HQ.out;omega
    obtain⟨c,hc⟩:∃c,c=b*2^q:=⟨_,rfl⟩
    have hc256:c<256:=by
     have h1:2^q<=2^7:=Nat.pow_le_pow_right (by decide) hq7
     have h2:b*2^q<=1*2^7:=Nat.mul_le_mul (by omega) h1
     omega
    have hci:(b:Int)*2^q=(c:Int):=by rw[hc];simp
    have hwc:IntKind.u8.wrap (c:Int)=(c:Int):=by rw[IntKind.wrap_u8];omega
    have hor:=Xj7 la c hla2 hc256
    obtain⟨r,hr⟩:∃r,r=la|||c:=⟨_,rfl⟩
    rw[<-hr] at hor
    have HRR:Hid (r=la|||b*2^q):=by show _=_;rw[hr,hc]
    have hr256:r<256:=by rw[hr];exact Nat.or_lt_two_pow (n:=8) hla2 hc256
    clear hcl hfz hm hln hu8 hla hy hb h0L hc hr
    go_still_tail 24,hmo
    change wpList _ _ _ _ _ W2.drew
    have HWL:=hid ((HF2.out.last m (r:Int) (by omega)))
    obtain⟨cur,hcur⟩:=HF2.out.blkB
    have HFR3:=hid (HFR2.out.atB (i:=m) hcur (.int .u8 (r:Int))).drew
    clear hcur
    have HBL:=hid ((HB2.out.setCell (show B<=(Addr.mk kb m none).block from HKB.out) (.int .u8 (r:Int))).drew)
    have HPP:Hid (Qni x kk (L'.set m (r:Int),q)=Qni x n (L,f)):=by
     show _=_
     rw[<-HP.out,show k=kk+1 from by have:=HKK.out;omega,Qni]
     unfold Xg2
     rw[if_neg hf,<-HMM.out,HLA.out,Int.toNat_natCast,<-HY.out,<-HBB.out,<-HQ.out,<-HRR.out]
    have HLL:Hid ((L'.set m (r:Int)).length+kk<=4000000+N):=by show _<=_;rw[List.length_set];have:=HLN.out;have:=HKK.out;omega
    have hkk2:kk<k:=by have:=HKK.out;omega
    go_wp2
    exact⟨⟨kk,q,L'.set m (r:Int),_,rfl,by omega,HPP.out,HWL.out.drew,HBL.out,HLL.out,HFR3.out⟩,by simp[intOf];omega⟩
abbrev Bst:=List Int×Nat×Nat
def Qpr:Bst->Option (Nat×Bst)
 | ([],_,0)=>none
 | (z::zs,_,0)=>some (z.toNat/2^7%2,(zs,z.toNat,7))
 | (zs,l,n+1)=>some (l/2^n%2,(zs,l,n))
structure Fg (g:Nat) (w w':World):Prop where
 size:w'.heap.size=w.heap.size
 same:∀i,i≠g->w'.heap[i]?=w.heap[i]?
theorem Fg.refl(g:Nat)(w:World):Fg g w w:=⟨rfl,fun _ _=>rfl⟩
theorem Fg.trans{g:Nat}{a b c:World}(h:Fg g a b)(k:Fg g b c):Fg g a c:=⟨k.size.trans h.size,fun i hi=>(k.same i hi).trans (h.same i hi)⟩
theorem Fg.put{g i:Nat}{w w':World}(h:Fg g w w')(x:Value):Fg g w (w'.setCell ⟨g,i,none⟩ x):=⟨by simpa using h.size,fun j hj=>(Below.heap_setCell w' ⟨g,i,none⟩ x j hj).trans (h.same j hj)⟩
theorem Fg.drew{g:Nat}{w w':World}(h:Fg g w w'):Fg g w w'.drew:=⟨h.size,h.same⟩
def Rk(w0 w:World)(g:Nat)(s:Bst):Prop:=s.2.1<256∧s.2.2<=8∧∃a cap,Rr w0 w g 206 [.int .u8 (s.2.1:Int),.int .i64 (s.2.2:Int)] a cap s.1
theorem Rr.one{w0 w:World}{g:Nat}{t:TypeId}{x y:Value}{a:Option Addr}{cap:Nat}{zs:List Int}(h:Rr w0 w g t [x,y] a cap zs)(u:Value):Rr w0 (w.setCell ⟨g,1,none⟩ u) g t [u,y] a cap zs:=by
 refine⟨?_,h.row,h.bel.setCell (show w0.heap.size<=(Addr.mk g 1 none).block from h.ge) _,h.ge⟩
 rw[Joins.block_setCell h.blk];simp
theorem Rr.two{w0 w:World}{g:Nat}{t:TypeId}{x y:Value}{a:Option Addr}{cap:Nat}{zs:List Int}(h:Rr w0 w g t [x,y] a cap zs)(u:Value):Rr w0 (w.setCell ⟨g,2,none⟩ u) g t [x,u] a cap zs:=by
 refine⟨?_,h.row,h.bel.setCell (show w0.heap.size<=(Addr.mk g 2 none).block from h.ge) _,h.ge⟩
 rw[Joins.block_setCell h.blk];simp
theorem Rr.drew{w0 w:World}{g:Nat}{t:TypeId}{tl:List Value}{a:Option Addr}{cap:Nat}{zs:List Int}(h:Rr w0 w g t tl a cap zs):Rr w0 w.drew g t tl a cap zs:=⟨h.blk,h.row,h.bel.drew,h.ge⟩
def Qh4(w0 w:World)(g:Nat)(s:Bst)(e:Ending)(w':World):Prop:=
 match Qpr s with
 | none=>e= .panicked Qd4∧w'=w
 | some (b,s')=>e= .returned (.int .i64 (b:Int))∧Rk w0 w' g s'∧Fg g w w'
theorem Qkq(w0 w:World)(g:Nat)(s:Bst)(h:Rk w0 w g s):Calls Tryz.prog 172 #[.pointer (some ⟨g,0,none⟩)] w (Qh4 w0 w g s):=by
 obtain⟨zs,la,n⟩:=s
 obtain⟨hla,hn8,a,cap,hR⟩:=h
 dsimp only at *
 have c1:=Joins.cell_of_block hR.blk 1
 have c2:=Joins.cell_of_block hR.blk 2
 have u1:=Joins.unfrozen_of_block hR.blk 1
 have u2:=Joins.unfrozen_of_block hR.blk 2
 simp only[List.getElem?_toArray,List.getElem?_cons_zero,List.getElem?_cons_succ] at c1 c2
 cases n with
 | zero=>
   simp only[Int.natCast_zero] at c2
   cases zs with
   | nil=>
     have HN:=hid (Qkw w0 w g 206 _ a cap hR)
     unfold Qh4
     simp only[Qpr]
     go_enter Tryz.func172,Tryz.ntmps172
     go_wp2_with fail
     go_at_call 137
     refine HN.out.mono ?_
     rintro _ w1 ⟨rfl,hw⟩
     obtain rfl:=hw.symm
     exact⟨rfl,rfl,rfl⟩
   | cons z zs=>
     have HN:=hid (Ql8 w0 w g 206 _ a cap z zs hR)
     have hz8:=wf_u8 (by have:=hR.row.fits 0;simpa using this:(Lit.int .u8 z).wf=true)
     obtain⟨zn,hzn⟩:=Int.eq_ofNat_of_zero_le hz8.1
     subst hzn
     have hzl:zn<256:=by omega
     unfold Qh4
     simp only[Qpr,Int.toNat_natCast]
     obtain⟨y,hy⟩:∃y,y=zn/2^7:=⟨_,rfl⟩
     have hyl:y<256:=by rw[hy];exact Nat.lt_of_le_of_lt (Nat.div_le_self _ _) hzl
     have hsh:(zn:Int)/2^7=(y:Int):=by rw[hy];simp
     have hsh2:(zn:Int)/128=(y:Int):=by rw[<-hsh];rfl
     have hand:=Qn4 y (by omega)
     rw[<-hy]
     have HRR:=hid hR
     clear hy hR u1 u2 hz8
     go_enter Tryz.func172,Tryz.ntmps172
     go_wp2_with fail
     go_at_call 137
     refine HN.out.mono ?_
     rintro _ w1 ⟨rfl,a',c',rfl,hr'⟩
     have hR1:=HRR.out.put hr'
     have f1:=Joins.cell_of_block hR1.blk 1
     have f2:=Joins.cell_of_block hR1.blk 2
     have v1:=Joins.unfrozen_of_block hR1.blk 1
     have v2:=Joins.unfrozen_of_block hR1.blk 2
     simp only[List.getElem?_toArray,List.getElem?_cons_zero,List.getElem?_cons_succ] at f1 f2
     have HF0:=hid ((Fg.refl g w).put (i:=0) (.slice a' zs.length c'))
     have HR1:=hid hR1
     clear hR1 hr' HN HRR c1 c2
     generalize w.setCell ⟨g,0,none⟩ (.slice a' zs.length c')=W1 at *
     have HR2:Hid (Rr w0 (((W1.setCell ⟨g,1,none⟩ (.int .u8 (zn:Int))).setCell ⟨g,2,none⟩ (.int .i64 8)).setCell ⟨g,2,none⟩ (.int .i64 7)) g 206 [.int .u8 (zn:Int),.int .i64 7] a' c' zs):=(((HR1.out.one (.int .u8 (zn:Int))).two (.int .i64 8)).two (.int .i64 7))
     have HF:=hid (((HF0.out.put (i:=1) (.int .u8 (zn:Int))).put (i:=2) (.int .i64 8)).put (i:=2) (.int .i64 7))
     clear HF0 HR1
     go_wp2_with fail
     clear f1 f2 v1 v2
     generalize ((W1.setCell ⟨g,1,none⟩ (.int .u8 (zn:Int))).setCell ⟨g,2,none⟩ (.int .i64 8)).setCell ⟨g,2,none⟩ (.int .i64 7)=W2 at *
     have e1:=Joins.cell_of_block HR2.out.blk 1
     have e2:=Joins.cell_of_block HR2.out.blk 2
     simp only[List.getElem?_toArray,List.getElem?_cons_zero,List.getElem?_cons_succ] at e1 e2
     have HRD:=hid HR2.out.drew
     have HFD:=hid HF.out.drew
     clear HR2 HF
     go_region
     clear e1 e2
     generalize W2.drew=W3 at *
     go_wp2
     go_ret
     exact⟨rfl,⟨hzl,by show 7<=8;omega,_,_,HRD.out⟩,HFD.out⟩
 | succ n=>
   have HR2:=hid (hR.two (.int .i64 (n:Int)))
   have hni:((n+1:Nat):Int)=(n:Int)+1:=by omega
   rw[hni] at c2
   have hnb:(((n:Int)+1)==0)=false:=by rw[beq_eq_false_iff_ne];omega
   have HF:=hid ((Fg.refl g w).put (i:=2) (.int .i64 (n:Int)))
   have hn7:n<=7:=by omega
   unfold Qh4
   simp only[Qpr]
   obtain⟨y,hy⟩:∃y,y=la/2^n:=⟨_,rfl⟩
   have hyl:y<256:=by rw[hy];exact Nat.lt_of_le_of_lt (Nat.div_le_self _ _) hla
   have hsh:(la:Int)/2^n=(y:Int):=by rw[hy];simp
   have hand:=Qn4 y (by omega)
   rw[<-hy]
   clear hy hR hni u1
   go_enter Tryz.func172,Tryz.ntmps172
   go_wp2_with fail
   clear c1 c2 u2
   generalize w.setCell ⟨g,2,none⟩ (.int .i64 (n:Int))=W2 at *
   have e1:=Joins.cell_of_block HR2.out.blk 1
   have e2:=Joins.cell_of_block HR2.out.blk 2
   simp only[List.getElem?_toArray,List.getElem?_cons_zero,List.getElem?_cons_succ] at e1 e2
   have HRD:=hid HR2.out.drew
   have HFD:=hid HF.out.drew
   clear HR2 HF
   go_region
   clear e1 e2
   generalize W2.drew=W3 at *
   go_wp2
   go_ret
   exact⟨rfl,⟨hla,by show n<=8;omega,_,_,HRD.out⟩,HFD.out⟩
end
namespace Sh
open Go.RowKit Sha
theorem Qea{k:IntKind}{a b:Int}(h:a=b):Ending.returned (.int k a)= .returned (.int k b):=by rw[h]
theorem hid{p:Prop}(h:p):Hid p:=h
theorem Bn{w a b:World}(h:Below w.heap.size w a)(h2:Below a.heap.size a b):Below w.heap.size w b:=h.trans (h2.mono h.size)
theorem Qab(w:World)(o:Obj):Below w.heap.size w (w.alloc o):=(Below.refl _ _).alloc (Nat.le_refl _) o
theorem Qag(w:World)(o:Obj):(w.alloc o).heap[w.heap.size]?=some o:=by
 show(w.heap.push o)[w.heap.size]?=_
 simp
def arr(k:IntKind)(l:List Nat):Array Value:=(l.map fun z:Nat=>Value.int k (z:Int)).toArray
theorem Qav(k:IntKind)(l:List Nat):(arr k l).size=l.length:=by simp[arr]
theorem Qas(k:IntKind)(l:List Nat)(i:Nat)(h:i<l.length):(arr k l)[i]?=some (.int k ((l.getD i 0:Nat):Int)):=by
 simp[arr,List.getD,List.getElem?_eq_getElem h]
theorem Qdf(k:IntKind)(l:List Nat)(i v:Nat):(arr k l).setIfInBounds i (.int k (v:Int))=arr k (l.set i v):=by
 simp[arr,List.map_set]
theorem Qz9(x:Nat):Qhb 0 x=x:=by unfold Qhb;exact Qmm _ _
theorem Xb2(n x:Nat):Qhb (n+1) x=Qhb n (Qyp x):=by unfold Qhb;exact Qlm _ _ _
theorem Qz3(x:Nat):Qpv 0 x=x:=by unfold Qpv;exact Qmm _ _
theorem Xa7(n x:Nat):Qpv (n+1) x=Qpv n (Qy7 x):=by unfold Qpv;exact Qlm _ _ _
theorem Xf3(y:Nat):(y:Int)/2+(y:Int)%2*2147483648=((Qyp y:Nat):Int):=by unfold Qyp;omega
theorem Xe8(y:Nat):(y:Int)/2=((Qy7 y:Nat):Int):=by unfold Qy7;omega
theorem Qy6(x n:Nat)(w:World)(hx:x<2^32)(hn:n<=32):Calls Tryz.prog 93 #[.int .u32 (x:Int),.int .i64 (n:Int)] w fun e w'=>e= .returned (.int .u32 ((Qhb n x:Nat):Int))∧w'=w:=by
 go_enter Tryz.func93,Tryz.ntmps93
 go_wp2
 go_loop [0,1] (fun x' i=>∃(m y:Nat),m<=32∧y<2^32∧Qhb m y=Qhb n x∧i= .int .i64 m∧x'= .int .u32 y) (fun _ i=>(intOf i).toNat)
 case atStart=>exact⟨n,x,hn,hx,rfl,rfl,rfl⟩
 case round=>
  obtain⟨m,y,hm,hy,heq,rfl,rfl⟩:=hrel
  by_cases h0:0<m
  ·obtain⟨j,rfl⟩:∃j,m=j+1:=⟨m-1,by omega⟩
   have h0':(0:Int)<((j+1:Nat):Int):=by omega
   have hr:=Qsx y hy
   rw[Xb2] at heq
   have HQ:=hid heq
   have HE:=hid (Xf3 y)
   clear heq
   go_wp2
   exact⟨⟨j,Qyp y,by omega,hr,HQ.out,rfl,by rw[HE.out]⟩,by simp[intOf]⟩
  ·have hm0:m=0:=by omega
   subst hm0
   go_wp2
   go_ret
   exact⟨Qea (by rw[<-heq,Qz9]),rfl⟩
theorem Qy2(x n:Nat)(w:World)(hx:x<2^32)(hn:n<=32):Calls Tryz.prog 94 #[.int .u32 (x:Int),.int .i64 (n:Int)] w fun e w'=>e= .returned (.int .u32 ((Qpv n x:Nat):Int))∧w'=w:=by
 go_enter Tryz.func94,Tryz.ntmps94
 go_wp2
 go_loop [0,1] (fun x' i=>∃(m y:Nat),m<=32∧y<2^32∧Qpv m y=Qpv n x∧i= .int .i64 m∧x'= .int .u32 y) (fun _ i=>(intOf i).toNat)
 case atStart=>exact⟨n,x,hn,hx,rfl,rfl,rfl⟩
 case round=>
  obtain⟨m,y,hm,hy,heq,rfl,rfl⟩:=hrel
  by_cases h0:0<m
  ·obtain⟨j,rfl⟩:∃j,m=j+1:=⟨m-1,by omega⟩
   have h0':(0:Int)<((j+1:Nat):Int):=by omega
   have hr:=Quj y hy
   rw[Xa7] at heq
   have HQ:=hid heq
   have HE:=hid (Xe8 y)
   clear heq
   go_wp2
   exact⟨⟨j,Qy7 y,by omega,hr,HQ.out,rfl,by rw[HE.out]⟩,by simp[intOf]⟩
  ·have hm0:m=0:=by omega
   subst hm0
   go_wp2
   go_ret
   exact⟨Qea (by rw[<-heq,Qz3]),rfl⟩
theorem Qz4(w:World):Calls Tryz.prog 62 #[] w fun e w'=>e= .returned (.agg (arr .u32 Sha.start.list))∧Below w.heap.size w w':=by
 go_enter Tryz.func62,Tryz.ntmps62
 go_wp2
 refine bodyPost_ret (results_cell_row (ty:=95) rfl _ _ _ _ _ _ _ rfl (Qag _ _) Tryz.underlying95 rfl (by kernel_rfl)) rfl ?_
 exact⟨rfl,Qab _ _⟩
theorem Qbo{P:Program}{ops:Array Oper}{rest:List Oper}{o:Oper}{a:Act}{w:World}{Q:Exit->Act->World->Prop}(hgd:o.guard=none)(ty:TypeId)(ho:o.op= .alloc ty)(d:Option Tmp)(hd:o.dst=d)(cs:Array Value)
 (hz:∀w,(zeroValue ty).run P w= .ok (.agg cs) w) (h:wpList P ops Q rest (a.put d (.pointer (some ⟨w.heap.size,0,none⟩))) (w.alloc (.cells cs ty))):wpList P ops Q (o::rest) a w:=by
 subst hd
 refine wpList_plain hgd fun _ hK=>?_
 unfold Oper.wp execOp
 simp only[ho,Instr.alloc,Sem.run_bind,hz,Result.andThen_ok,newVar]
 exact hK _ _ h
def z64:List Nat:=List.replicate 64 0
theorem Tryz.zero138:∀w,(zeroValue 138).run Tryz.prog w= .ok (.agg (arr .u32 z64)) w:=(zero_of_info (t:=138) (n:=64) (by kernel_rfl)).1
theorem Qbe(k:IntKind)(l:List Nat):(arr k l).all (·.oneCell')=true:=by
 simp[arr,Value.oneCell']
theorem Qoi(w:World):Calls Tryz.prog 95 #[] w fun e w'=>e= .returned (.agg (arr .u32 kL))∧Below w.heap.size w w':=by
 have hg:=Qag w (.cells (arr .u32 z64) 138)
 go_enter Tryz.func95,Tryz.ntmps95
 go_wp2_with (first
  | (refine Qbo rfl 138 rfl (some 0) rfl (arr .u32 z64) Tryz.zero138 ?_)
  | (refine wpList_buildFlatArrTo rfl 138 56 64 _ rfl .u32 (kL.map fun z:Nat=>(z:Int)) (some 1) rfl Tryz.underlying138 (by kernel_rfl) (by kernel_rfl) (by kernel_rfl) ?_)
  | (refine wpList_store_rowTo rfl 138 _ _ rfl rfl w.heap.size ((kL.map fun z:Nat=>(z:Int)).map (Value.int .u32)).toArray rfl rfl 138 _ hg (by kernel_rfl) (by kernel_rfl) (by kernel_rfl) ?_))
 refine bodyPost_ret (results_cell_row (ty:=138) rfl _ _ _ _ _ _ _ rfl (setRow_heap _ _ _ _ _ _ hg) Tryz.underlying138 rfl (by kernel_rfl)) rfl ?_
 refine⟨?_,below_setRow (Qab _ _) (Nat.le_refl _) _⟩
 rw[List.map_map]
 rfl
end Sh
end Go.Proofs.YtibjlbcnapoblaaGreatDoor
