/- Contracts and facts. -/
import Derived.Test.YtibjlbcnapoblaaGreatDoorPart33
namespace Go.Proofs.YtibjlbcnapoblaaGreatDoor
set_option maxRecDepth 100000
set_option maxHeartbeats 6400000
section
open Go.RowKit Hf
theorem Xeq{w:World}{a:Option Addr}{cap:Nat}{b:List Int}(hr:Ri w .u8 a cap b)(i:Nat):∃z:Nat,b.getD i 0=(z:Int)∧z<=255:=by
 have:=wf_u8 (hr.fits i)
 exact⟨(b.getD i 0).toNat,by omega,by omega⟩
theorem Qyw(a:Option Addr)(cap:Nat)(b:List Int)(at':Nat)(w:World)(hr:Ri w .u8 a cap b)(hat:at'<8*b.length)(hn:b.length<=4200):
 Calls Tryz.prog 122 #[.slice a b.length cap,.int .i64 (at':Int)] w fun e w'=>e= .returned (.int .i64 ((Quk b at':Nat):Int))∧w'=w:=by
 obtain⟨z,hz,hz2⟩:=Xeq hr (at'/8)
 obtain⟨g,o,rfl,hg,hc⟩:=hr.cells (by omega)
 have c1:=hc (at'/8) (by omega)
 rw[hz] at c1
 have hv:Quk b at'=z/2^(7-at'%8)%2:=by unfold Quk;rw[hz,Int.toNat_natCast]
 rw[hv]
 clear hc hr hz hv
 generalize b.length=len at *
 obtain⟨q,hq⟩:∃q,q=at'/8:=⟨_,rfl⟩
 obtain⟨r,hr⟩:∃r,r=at'%8:=⟨_,rfl⟩
 have hq1:(at':Int)/8=(q:Int):=by omega
 have hr1:(at':Int)%8=(r:Int):=by omega
 rw[<-hq] at c1
 rw[<-hr]
 have hl:q<len:=by omega
 have hr8:r<8:=by omega
 clear hq hr
 have hzw:wrap64 (z:Int)=(z:Int):=Qfn (by omega) (by omega)
 go_enter Tryz.func122,Tryz.ntmps122
 go_wp2
 go_loop [5,6] (fun x y=>∃m:Nat,r<=m∧m<=7∧y= .int .i64 m∧x= .int .i64 ((z/2^(m-r):Nat):Int)) (fun _ y=>7-(intOf y).toNat)
 case atStart=>exact⟨r,by omega,by omega,by rw[hr1],by simp⟩
 case round=>
  obtain⟨m,hm1,hm2,rfl,rfl⟩:=hrel
  have hle:z/2^(m-r)<=z:=Nat.div_le_self _ _
  by_cases hm:m<7
  ·have hm3:(m:Int)<7:=by omega
   have HP:Hid (z/2^(m+1-r)=z/2^(m-r)/2):=by
    show _=_
    rw[show m+1-r=(m-r)+1 from by omega,Nat.pow_succ,<-Nat.div_div_eq_div_mul]
   generalize z/2^(m-r)=x at *
   go_wp2
   exact⟨⟨m+1,by omega,by omega,by go_num,by rw[HP.out];simp⟩,by simp[intOf];omega⟩
  ·obtain rfl:m=7:=by omega
   generalize hx:z/2^(7-r)=x at *
   have HX:=hid hx
   clear hx
   go_wp2
   go_ret
   exact⟨Qdb (by rw[<-HX.out];simp),rfl⟩
end
/-
 The contract of the document's One.
-/
section
open Go.RowKit Hf
theorem Qvy(b:List Int)(at' l:Nat)(hl:l<=15):vb b at' l<32768:=by
 have h1:=Xi1 b at' l
 have h2:2^l<=2^15:=Nat.pow_le_pow_right (by decide) hl
 omega
theorem Xf0{zs:List Int}(h:Qal zs=true)(l:Nat)(hl:l<=15):first zs l+cnt zs l<=32768:=by
 have h1:=Qj5 h l hl
 have h2:2^l<=2^15:=Nat.pow_le_pow_right (by decide) hl
 omega
theorem Xfu{zs:List Int}(h:Qal zs=true)(s l:Nat)(hs:s<zs.length)(hz:zs.getD s 0=(l:Int))(h0:0<l)(hl:l<=15):(Qaj zs).getD s 0=((Qbt zs s:Nat):Int):=by
 have h1:=Xf0 h l hl
 have h2:=Qes zs s l hs hz h0
 have h3:=Qf2 zs s l hz
 rw[Qdk zs s hs];unfold codeF;rw[if_pos (by omega),Nat.mod_eq_of_lt (by omega)]
theorem Xab(a:Option Addr)(cap:Nat)(zs:List Int)(ac:Option Addr)(cc:Nat)(a2:Option Addr)(cap2:Nat)(b:List Int)(at':Nat)(w:World)(hr:Ri w .i64 a cap zs)(hrc:Ri w .u16 ac cc (Qaj zs))(hr2:Ri w .u8 a2 cap2 b)(hc:Qal zs=true)(hn:b.length<=4200)(hat:at'<=100000):
 Calls Tryz.prog 121 #[.slice a zs.length cap,.slice ac zs.length cc,.slice a2 b.length cap2,.int .i64 (at':Int)] w fun e w'=>e= .returned (.tuple #[.int .i64 (Qed zs b at').1,.int .i64 (Qed zs b at').2])∧w'=w:=by
 have HCV:=hid (fun s l=>Xfu hc s l)
 have HRC:=hid hrc
 have HR:=hid hr
 have HCL:=hid (Qaq zs)
 have HFN:=hid (show Qed zs b at'=oneG zs b at' 16 1 from rfl)
 have HZL:=hid (Qdr hc).1
 obtain⟨len,hl⟩:∃n,n=zs.length:=⟨_,rfl⟩
 obtain⟨len2,hl2⟩:∃n,n=b.length:=⟨_,rfl⟩
 have HL:=hid hl
 have HL2:=hid hl2
 have HBT:Hid (∀p,p<8*len2->Calls Tryz.prog 122 #[.slice a2 len2 cap2,.int .i64 (p:Int)] w fun e w'=>e= .returned (.int .i64 ((Quk b p:Nat):Int))∧w'=w):=fun p hp=>by
  rw[hl2]
  exact Qyw a2 cap2 b p _ hr2 (by rw[<-hl2];exact hp) hn
 rw[<-hl2] at hn|-
 rw[<-hl]
 have hlen:len<=512:=by rw[hl];exact HZL.out
 clear hr hr2 hrc hc hl hl2
 go_enter Tryz.func121,Tryz.ntmps121
 go_wp2
 go_loop [10,11] (fun x10 x11=>∃l:Nat,1<=l∧l<=16∧x11= .int .i64 l∧x10= .int .i64 ((vb b at' (l-1):Nat):Int)∧Hid (Qed zs b at'=oneG zs b at' (17-l) l)) (fun _ x11=>16-(intOf x11).toNat)
 case atStart=>exact⟨1,by omega,by omega,rfl,by simp[vb],HFN⟩
 case round=>
  clear HFN
  obtain⟨l,hl1,hl2,rfl,rfl,HFN⟩:=hrel
  by_cases hlt:l<=15
  ·have hlz:(l:Int)<=15:=by omega
   have HG:=hid (show oneG zs b at' (17-l) l=if l<16∧at'+l<=8*b.length then (match who zs l (vb b at' l) with | some s=>((s:Int),(l:Int)) | none=>oneG zs b at' (17-(l+1)) (l+1)) else (-1,0) from by
    rw[show 17-l=(17-(l+1))+1 from by omega,oneG];rfl)
   by_cases hpl:at'+l<=8*len2
   ·have hplz:(at':Int)+(l:Int)<=8*(len2:Int):=by omega
    rw[if_pos ⟨by omega,by rw[<-HL2.out];exact hpl⟩] at HG
    have HB:=hid (HBT.out (at'+(l-1)) (by omega))
    have hpi:(at':Int)+(l:Int)-1=((at'+(l-1):Nat):Int):=by omega
    have hv0:=Qvy b at' (l-1) (by omega)
    have HV:Hid (vb b at' l=vb b at' (l-1)*2+Quk b (at'+(l-1))):=by
     show _=_
     conv=>lhs;rw[show l=(l-1)+1 from by omega,vb]
    have hv1:=Qvy b at' l (by omega)
    have hbv:=Qol b (at'+(l-1))
    have hvv:=HV.out
    have HVL:Hid (∀m,m=l->vb b at' m=vb b at' l):=fun m hm=>by rw[hm]
    generalize vb b at' (l-1)=v0 at *
    generalize Quk b (at'+(l-1))=bt at *
    obtain⟨p,hp⟩:∃p,p=at'+(l-1):=⟨_,rfl⟩
    rw[<-hp] at hpi HB
    have hsum:(v0:Int)*2+(bt:Int)=((vb b at' l:Nat):Int):=by omega
    clear hvv HV hp
    generalize vb b at' l=v at *
    go_wp2_with fail
    refine HB.out.mono ?_
    rintro _ w2 ⟨rfl,hw⟩
    obtain rfl:=hw.symm
    clear hw
    go_wp2_with fail
    go_loop [12] (fun x12=>∃i:Nat,i<=len∧x12= .int .i64 i∧Hid (∀j,j<i->zs.getD j 0=(l:Int)->Qbt zs j≠v)) (fun x12=>len-(intOf x12).toNat)
    case atStart=>exact⟨0,by omega,rfl,fun j hj=>absurd hj (by omega)⟩
    case round=>
     obtain⟨i,hi,rfl,HN⟩:=hrel
     by_cases hil:i<len
     ·have hilz:(i:Int)<(len:Int):=by omega
      have HZ:Hid (i<zs.length):=by show _<_;rw[<-HL.out];exact hil
      obtain⟨b1,o1,ha1,hb1,hc1⟩:=(HR.out).cells (by rw[<-HL.out];omega)
      obtain⟨b2,o2,ha2,hb2,hc2⟩:=(HRC.out).cells (by rw[HCL.out,<-HL.out];omega)
      have k1:=hc1 i HZ.out
      have k2:=hc2 i (by rw[HCL.out];exact HZ.out)
      have hcr:=Qc5 zs i
      subst ha1 ha2
      clear hc1 hc2
      by_cases hz:zs.getD i 0=(l:Int)
      ·have hcv:=HCV.out i l HZ.out hz (by omega) hlt
       rw[hz] at k1
       have hll:((l:Int)==(l:Int))=true:=by simp
       rw[hcv] at k2 hcr
       by_cases hcod:Qbt zs i=v
       ·have HW:=hid (Qvr (c:=v) (by omega) HZ.out hz hcod)
        rw[HW.out] at HG
        have hcc:(((Qbt zs i:Nat):Int)==(v:Int))=true:=by simp[hcod]
        clear hcod hcv hz
        generalize Qbt zs i=c at *
        go_wp2
        go_ret2
        exact⟨by rw[HFN.out,HG.out];rfl,rfl⟩
       ·have hcc:(((Qbt zs i:Nat):Int)==(v:Int))=false:=by simp;omega
        have HN2:Hid (∀j,j<i+1->zs.getD j 0=(l:Int)->Qbt zs j≠v):=fun j hj=>by
         by_cases hji:j=i
         ·subst hji;exact fun _=>hcod
         ·exact HN.out j (by omega)
        clear hcod hcv hz
        generalize Qbt zs i=c at *
        go_wp2
        exact⟨⟨i+1,by omega,by go_num,HN2⟩,by simp[intOf];omega⟩
      ·have hll:(zs.getD i 0==(l:Int))=false:=by simpa using hz
       have HN2:Hid (∀j,j<i+1->zs.getD j 0=(l:Int)->Qbt zs j≠v):=fun j hj=>by
        by_cases hji:j=i
        ·subst hji;exact fun h=>absurd h hz
        ·exact HN.out j (by omega)
       clear hz
       generalize zs.getD i 0=z at *
       generalize (Qaj zs).getD i 0=c at *
       go_wp2
       exact⟨⟨i+1,by omega,by go_num,HN2⟩,by simp[intOf];omega⟩
     ·obtain hie:i=len:=by omega
      have HW:=hid (Qu6 (zs:=zs) (l:=l) (c:=v) (fun s hs=>HN.out s (by rw[hie,HL.out];exact hs)))
      rw[HW.out] at HG
      have hilz:¬(i:Int)<(len:Int):=by omega
      clear hie
      go_wp2
      exact⟨⟨l+1,by omega,by omega,by go_num,by rw[HVL.out (l+1-1) (by omega)],hid (HFN.out.trans HG.out)⟩,by simp[intOf];omega⟩
   ·have hplz:¬(at':Int)+(l:Int)<=8*(len2:Int):=by omega
    rw[if_neg (fun h=>by have:=HL2.out;omega)] at HG
    generalize vb b at' (l-1)=v0 at *
    go_wp2
    go_ret2
    exact⟨by rw[HFN.out,HG.out];rfl,rfl⟩
  ·obtain rfl:l=16:=by omega
   have HG:=hid (show oneG zs b at' (17-16) 16=(-1,0) from rfl)
   generalize vb b at' (16-1)=v0 at *
   go_wp2
   go_ret2
   exact⟨by rw[HFN.out,HG.out];rfl,rfl⟩
end
/-
 The document's read: tokens of bytes.
-/
section
open Go.RowKit Hf Lz
theorem Qqg(n:Nat):∀(f:Nat) (l zs l' rs:List Int),Qew n f l zs=some (l',rs)->∃k,k<=zs.length∧rs=zs.drop k
 | 0,l,zs,l',rs,h=>by simp[Qew] at h
 | f+1,l,zs,l',rs,h=>by
   rw[Qdo] at h
   by_cases c:l.length<n
   ·rw[if_pos c] at h
    cases zs with
    | nil=>cases h
    | cons z zs1=>
      dsimp only at h
      cases hn:Qgi (n-l.length) zs1 with
      | none=>rw[hn] at h;cases h
      | some mr=>
        obtain⟨m,r⟩:=mr
        rw[hn] at h
        dsimp only at h
        by_cases c0:m=0
        ·rw[if_pos c0] at h;cases h
        ·rw[if_neg c0] at h
         obtain⟨k,hk,rfl⟩:=Qqg n f _ _ l' rs h
         unfold Qgi at hn
         split at hn
         ·simp only[Option.some.injEq,Prod.mk.injEq] at hn
          obtain⟨_,rfl⟩:=hn
          rw[List.length_drop] at hk
          refine⟨min (zs1.length+1) (1+((Qau 0 0 zs1).2.1.toNat+k)),by simp;omega,?_⟩
          rw[List.drop_drop]
          by_cases hq:zs1.length<=(Qau 0 0 zs1).2.1.toNat+k
          ·rw[List.drop_eq_nil_of_le hq,List.drop_eq_nil_of_le (by simp;omega)]
          ·rw[Nat.min_eq_right (by omega),Nat.add_comm 1,List.drop_succ_cons]
         ·cases hn
   ·rw[if_neg c] at h
    simp only[Option.some.injEq,Prod.mk.injEq] at h
    obtain⟨rfl,rfl⟩:=h
    exact⟨0,Nat.zero_le _,rfl⟩
theorem Qnv{n:Nat}{zs l rs:List Int}(h:Qkf n zs=some (l,rs)):rs.length<=zs.length∧zs.drop (zs.length-rs.length)=rs∧l.length=n:=by
 obtain⟨k,hk,rfl⟩:=Qqg n _ _ _ _ _ h
 have:=Qis n _ _ _ _ _ h (by simp)
 rw[List.length_drop,show zs.length-(zs.length-k)=k from by omega]
 exact⟨by omega,rfl,this⟩
theorem Xiy{ls ds b:List Int}{at':Nat}{s k:Int}(h:Qed ls b at'=(s,k))(hs:s<0):Qod ls ds b at'=none:=by unfold Qod;rw[h];dsimp only;rw[if_pos hs]
theorem Xjy{ls ds b:List Int}{at' k:Nat}{s:Int}(h:Qed ls b at'=(s,(k:Int)))(h0:0<=s)(hs:s<256):Qod ls ds b at'=some ((0,1,s),at'+k):=by unfold Qod;rw[h];dsimp only;rw[if_neg (by omega),if_pos hs,Int.toNat_natCast]
theorem Xbu{ls ds b:List Int}{at' k:Nat}{s x m:Int}(h:Qed ls b at'=(s,(k:Int)))(hs:256<=s)(h2:Qed ds b (at'+k)=(x,m))(hx:x<0∨8*b.length<at'+k+m.toNat+x.toNat):Qod ls ds b at'=none:=by
 unfold Qod;rw[h];dsimp only;rw[Int.toNat_natCast,h2];dsimp only;rw[if_neg (by omega),if_neg (by omega),if_pos hx]
theorem Xhx{ls ds b:List Int}{at' k m x:Nat}{s:Int}(h:Qed ls b at'=(s,(k:Int)))(hs:256<=s)(h2:Qed ds b (at'+k)=((x:Int),(m:Int)))(hx:at'+k+m+x<=8*b.length):Qod ls ds b at'=some ((((2^x+vb b (at'+k+m) x:Nat):Int),s-252,0),at'+k+m+x):=by
 unfold Qod;rw[h];dsimp only;rw[Int.toNat_natCast,h2];dsimp only;rw[Int.toNat_natCast,Int.toNat_natCast,if_neg (by omega),if_neg (by omega),if_neg (by omega)]
theorem Qty{ls ds b:List Int}{n at':Nat}{acc:List Tkz}(h:Qod ls ds b at'=none):Qe8 ls ds b (n+1) at' acc=none:=by rw[Qe8,h]
theorem Qz1{ls ds b:List Int}{n at' p:Nat}{acc:List Tkz}{t:Tkz}(h:Qod ls ds b at'=some (t,p)):Qe8 ls ds b (n+1) at' acc=Qe8 ls ds b n p (acc++ [t]):=by rw[Qe8,h]
def lnV:Value->Nat
 | .slice _ n _=>n
 | _=>0
def Xg0(r:Option (List Tkz))(w:World)(e:Ending)(w':World):Prop:=
 Below w.heap.size w w'∧match r with
 | none=>e= .returned (.tuple #[.slice none 0 0,.bool false])
 | some l=>∃a c,e= .returned (.tuple #[.slice a l.length c,.bool true])∧Rt w' a c l
theorem Xjq(a:Option Addr)(cap:Nat)(zs:List Int)(w:World)(hr:Ri w .u8 a cap zs)(hz:zs.length<=4200):
 Calls Tryz.prog 86 #[.slice a zs.length cap] w (Xg0 (Qkj zs) w):=by
 obtain⟨i0,hi,hz0,hz1,hz2⟩:=info_parts Tryz.info109'
 have H1:=hid (Qvb a cap 511 zs w hr (by decide) (by omega))
 have HR:=hid hr
 obtain⟨R,hR⟩:∃R,R=Qkj zs:=⟨_,rfl⟩
 have HS:=hid hR
 unfold Qkj at HS
 rw[<-hR]
 unfold Qyv at H1
 clear hr hR
 obtain⟨len,hl⟩:∃n,n=zs.length:=⟨_,rfl⟩
 have HL:=hid hl
 rw[<-hl] at hz H1|-
 clear hl
 go_enter Tryz.func86,Tryz.ntmps86
 go_wp2_with fail
 refine H1.out.mono ?_
 rintro _ w1 ⟨hb1,he⟩
 have HB1:=hid hb1
 clear hb1 H1
 cases h1:Qkf 511 zs with
 | none=>
   rw[h1] at he HS
   dsimp only at he HS
   subst he
   go_wp2_with fail
   go_ret2
   rw[HS.out]
   exact⟨HB1.out,rfl⟩
 | some lr=>
   obtain⟨ls,z1⟩:=lr
   rw[h1] at he HS
   dsimp only at he HS
   obtain⟨a1,c1,rfl,hr1⟩:=he
   obtain⟨t1,t2,t3⟩:=Qnv h1
   rw[<-HL.out] at t1 t2
   rw[t3]
   cases hc1:Qal ls with
   | false=>
     rw[hc1,if_neg (by decide)] at HS
     clear t1 t2 t3 hr1 h1
     go_wp2_with fail
     go_ret2
     rw[HS.out]
     exact⟨HB1.out,rfl⟩
   | true=>
     rw[hc1,if_pos rfl] at HS
     obtain⟨n1,hn1⟩:∃n,n=len-z1.length:=⟨_,rfl⟩
     obtain⟨ax,cx,hsl,hrz⟩:=(HR.out.later HB1.out).high n1 (by rw[<-HL.out];omega)
     have hsh:=fun W=>Qf9 a len cap n1 (by omega) W
     rw[<-HL.out] at hsl
     rw[hsl] at hsh
     rw[<-hn1] at t2
     rw[t2] at hsh hrz
     rw[<-hn1]
     have H2:=hid (Qvb ax cx 13 z1 w1 hrz (by decide) (by omega))
     unfold Qyv at H2
     have HR1:=hid hr1
     have HRZ:=hid hrz
     have HT3:=hid t3
     have HC1:=hid hc1
     have hn1l:n1<=len:=by omega
     obtain⟨len1,hl1⟩:∃n,n=z1.length:=⟨_,rfl⟩
     have HL1:=hid hl1
     rw[<-hl1] at H2 hsh t1
     have hlen1:len1<=4200:=by omega
     clear hl1 hsl t1 t2 t3 hrz hr1 h1 hc1 hn1
     go_wp2_with fail
     refine H2.out.mono ?_
     rintro _ w2 ⟨hb2,he⟩
     have HB2:=hid (Bn HB1.out hb2)
     have HB12:=hid hb2
     clear hb2 H2 hsh
     cases h2:Qkf 13 z1 with
     | none=>
       rw[h2] at he HS
       dsimp only at he HS
       subst he
       go_wp2_with fail
       go_ret2
       rw[HS.out]
       exact⟨HB2.out,rfl⟩
     | some dr=>
       obtain⟨ds,z2⟩:=dr
       rw[h2] at he HS
       dsimp only at he HS
       obtain⟨a2,c2,rfl,hr2⟩:=he
       obtain⟨t1,t2,t3⟩:=Qnv h2
       rw[<-HL1.out] at t1 t2
       rw[t3]
       cases hc2:Qal ds with
       | false=>
         rw[hc2,if_neg (by decide)] at HS
         clear t1 t2 t3 hr2 h2
         go_wp2_with fail
         go_ret2
         rw[HS.out]
         exact⟨HB2.out,rfl⟩
       | true=>
         rw[hc2,if_pos rfl] at HS
         obtain⟨n2,hn2⟩:∃n,n=len1-z2.length:=⟨_,rfl⟩
         obtain⟨ay,cy,hsl,hry⟩:=(HRZ.out.later HB12.out).high n2 (by rw[<-HL1.out];omega)
         have hsh:=fun W=>Qf9 ax len1 cx n2 (by omega) W
         rw[<-HL1.out] at hsl
         rw[hsl] at hsh
         rw[<-hn2] at t2
         rw[t2] at hsh hry
         rw[<-hn2]
         have H3:=hid (Qml ay cy z2 w2 hry)
         have HRL:=hid (Qep z2 0 0 (by omega) (by simp) (by omega))
         have HR2:=hid hr2
         have HRY:=hid hry
         have HT4:=hid t3
         have HC2:=hid hc2
         have hn2l:n2<=len1:=by omega
         obtain⟨len2,hl2⟩:∃n,n=z2.length:=⟨_,rfl⟩
         have HL2:=hid hl2
         rw[<-hl2] at H3 hsh t1
         have hlen2:len2<=4200:=by omega
         clear hl2 hsl t1 t2 t3 hry hr2 h2 hc2 hn2
         unfold Qgi at HS
         generalize Qau 0 0 z2=r at *
         obtain⟨x,u,e⟩:=r
         dsimp only at HS HRL H3
         go_wp2_with fail
         refine H3.out.mono ?_
         rintro _ w0 ⟨rfl,hw⟩
         obtain rfl:=hw.symm
         clear hw H3 hsh
         by_cases hgood:e=0∧x<=((65536:Nat):Int)
         ·rw[if_pos hgood] at HS
          obtain⟨rfl,hx⟩:=hgood
          dsimp only at HS
          obtain⟨m,hm⟩:=Int.eq_ofNat_of_zero_le (show 0<=x from HRL.out.1)
          subst hm
          obtain⟨k,hk⟩:=Int.eq_ofNat_of_zero_le (show 0<=u by have:=HRL.out;omega)
          subst hk
          rw[Int.toNat_natCast,Int.toNat_natCast] at HS
          have hm6:m<=65536:=by omega
          have hkl:k<=len2:=by have:=HRL.out;have:=HL2.out;omega
          have g1:decide ((65536:Int)<(m:Int))=false:=decide_eq_false (by omega)
          have g1n:decide (65536<m)=false:=decide_eq_false (by omega)
          obtain⟨az,cz,hsl,hrz⟩:=(HRY.out.later (Below.refl _ _)).high k (by rw[<-HL2.out];omega)
          have hsh:=fun W=>Qf9 ay len2 cy k (by omega) W
          rw[<-HL2.out] at hsl
          rw[hsl] at hsh
          obtain⟨Z,hZ⟩:∃Z,Z=z2.drop k:=⟨_,rfl⟩
          have hZl:Z.length<=4200:=by rw[hZ,List.length_drop,<-HL2.out];omega
          rw[<-hZ] at hrz HS hsh
          have HRZ3:=hid hrz
          have HCA:=hid (Qux a1 c1 ls 511 w2 (HR1.out.later HB12.out) HC1.out HT3.out)
          clear hZ hsl hrz hx HRL HRY HL2
          go_wp2_with fail
          refine HCA.out.mono ?_
          rintro _ w3 ⟨a3,c3,rfl,hr3,hb3⟩
          have HCB:=hid (Qux a2 c2 ds 13 w3 (HR2.out.later hb3) HC2.out HT4.out)
          have HR3:=hid hr3
          have HB23:=hid hb3
          clear hb3 hr3 HCA hsh
          go_wp2_with fail
          refine HCB.out.mono ?_
          rintro _ w4 ⟨a4,c4,rfl,hr4,hb4⟩
          have HB24:=hid (Bn HB23.out hb4)
          have HB4:=hid (Bn HB2.out HB24.out)
          obtain⟨zl,hzl⟩:∃n,n=Z.length:=⟨_,rfl⟩
          have HZL:=hid hzl
          have HO1:Hid (∀(W:World) (at':Nat),Below w4.heap.size w4 W->at'<=100000->Calls Tryz.prog 121 #[.slice a1 511 c1,.slice a3 511 c3,.slice az zl cz,.int .i64 (at':Int)] W fun e w'=>e= .returned (.tuple #[.int .i64 (Qed ls Z at').1,.int .i64 (Qed ls Z at').2])∧w'=W):=fun W at' hW ha=>by
           have h:=Xab a1 c1 ls a3 c3 az cz Z at' W (HR1.out.later (Bn HB12.out (Bn HB24.out hW))) (HR3.out.later (Bn hb4 hW)) (HRZ3.out.later (Bn HB24.out hW)) HC1.out hZl ha
           rw[HT3.out,<-HZL.out] at h
           exact h
          have HO2:Hid (∀(W:World) (at':Nat),Below w4.heap.size w4 W->at'<=100000->Calls Tryz.prog 121 #[.slice a2 13 c2,.slice a4 13 c4,.slice az zl cz,.int .i64 (at':Int)] W fun e w'=>e= .returned (.tuple #[.int .i64 (Qed ds Z at').1,.int .i64 (Qed ds Z at').2])∧w'=W):=fun W at' hW ha=>by
           have h:=Xab a2 c2 ds a4 c4 az cz Z at' W (HR2.out.later (Bn HB24.out hW)) (hr4.later hW) (HRZ3.out.later (Bn HB24.out hW)) HC2.out hZl ha
           rw[HT4.out,<-HZL.out] at h
           exact h
          have HBT:Hid (∀(W:World) (p:Nat),Below w4.heap.size w4 W->p<8*zl->Calls Tryz.prog 122 #[.slice az zl cz,.int .i64 (p:Int)] W fun e w'=>e= .returned (.int .i64 ((Quk Z p:Nat):Int))∧w'=W):=fun W p hW hp=>by
           have h:=Qyw az cz Z p W (HRZ3.out.later (Bn HB24.out hW)) (by rw[<-HZL.out];exact hp) hZl
           rw[<-HZL.out] at h
           exact h
          have HG1:=hid (fun at':Nat=>Qkw ls Z at')
          have HG2:=hid (fun at':Nat=>Qkw ds Z at')
          rw[HT3.out] at HG1
          rw[HT4.out] at HG2
          rw[<-hzl] at HG1 HG2 hZl|-
          have HS0:Hid (R=(Qe8 ls ds Z (m-0) 0 []).map (·.1)):=HS.out
          clear hb4 hr4 hzl HCB HR1 HR2 HR3 HRZ HRZ3 HB1 HB12 HB23 HR HS HL HL1 HC1 HC2 HT3 HT4 g1 g1n hkl hlen2 hlen1 hz hn1l hn2l
          go_wp2_with fail
          go_loopw [14,15] (fun v y wr=>∃(k p:Nat) (l:List Tkz) (a9:Option Addr) (c9:Nat),v= .slice a9 k c9∧k<=m∧y= .int .i64 (p:Int)∧p<=8*zl∧Hid (R=(Qe8 ls ds Z (m-k) p l).map (·.1))∧Hid (l.length=k)∧Hid (∀t∈l,Tin t)∧Hid (wr.ownsRow w4.heap.size 109 3 (.slice a9 k c9) k (l.flatMap zL))∧Hid (Below w4.heap.size w4 wr)) (fun v _ _=>m-lnV v)
          case atStart=>exact⟨0,0,[],none,0,rfl,by omega,rfl,by omega,HS0,rfl,(fun t h=>by cases h),World.ownsRow_nil _ _ _ _,Below.refl _ _⟩
          case round=>
           clear HS0
           obtain⟨k,p,l,a9,c9,rfl,hkm,rfl,hp8,HS,HLK,HTI,HO,HB⟩:=hrel
           by_cases hlt:k<m
           ·have g3:decide ((k:Int)<(m:Int))=true:=decide_eq_true (by omega)
            have g3n:decide (k<m)=true:=decide_eq_true hlt
            have g3p:(k:Int)<(m:Int):=by omega
            have H1:=hid (HO1.out wr p HB.out (by omega))
            obtain⟨s,hs⟩:∃s,s=Qed ls Z p:=⟨_,rfl⟩
            have hg:=HG1.out p
            rw[<-hs] at H1 hg
            obtain⟨s,k1⟩:=s
            dsimp only at H1 hg
            have HN:=hid hs.symm
            clear hs
            go_wp2_with fail
            refine H1.out.mono ?_
            rintro _ w0 ⟨rfl,hw⟩
            obtain rfl:=hw.symm
            clear hw H1
            by_cases hs0:s<0
            ·have HE:Hid (R=none):=by
              show _=_
              rw[HS.out,show m-k=(m-k-1)+1 from by omega,Qty (Xiy HN.out hs0)];rfl
             clear HS hg
             go_wp2_with fail
             go_ret2
             rw[HE.out]
             exact⟨Bn HB4.out HB.out,rfl⟩
            ·have hg':0<=s∧s<511∧1<=k1∧k1<=15∧(p:Int)+k1<=8*(zl:Int):=by
              rcases hg with h | h
              ·exact absurd h hs0
              ·exact h
             clear hg
             obtain⟨j,hj⟩:=Int.eq_ofNat_of_zero_le (show 0<=k1 by omega)
             subst hj
             obtain⟨q,hq⟩:∃q:Nat,q=p+j:=⟨_,rfl⟩
             have hqi:(p:Int)+(j:Int)=(q:Int):=by omega
             have hq8:q<=8*zl:=by omega
             have HQ:=hid hq
             have HP:Hid (1<=j):=by show _<=_;omega
             have hs1:s<511:=hg'.2.1
             have hs2:0<=s:=hg'.1
             clear hg' hq
             by_cases h256:s<256
             ·have hwu:s%256=s:=by omega
              have HE:Hid (R=(Qe8 ls ds Z (m-(k+1)) q (l++ [(0,1,s)])).map (·.1)):=by
               show _=_
               rw[HS.out,show m-k=(m-(k+1))+1 from by omega,Qz1 (Xjy HN.out hs2 h256),HQ.out]
              have HT:Hid (∀t∈l++ [((0:Int),(1:Int),s)],Tin t):=fun t ht=>by
               rcases List.mem_append.1 ht with h | h
               ·exact HTI.out t h
               ·rw[List.mem_singleton.1 h];unfold Tin;dsimp only;omega
              have HLK2:Hid ((l++ [((0:Int),(1:Int),s)]).length=k+1):=by show _=_;rw[List.length_append,HLK.out];rfl
              clear HS HN HTI HLK
              have HO8:=hid (HO.out.alloc (.cells (zC ((0:Int),(1:Int),s)) 109))
              have HNW:=hid (Xdc wr ((0:Int),(1:Int),s))
              have HB8:=hid (Qaa wr (.cells (zC ((0:Int),(1:Int),s)) 109))
              have HS8:Hid (w4.heap.size<=(wr.alloc (.cells (zC ((0:Int),(1:Int),s)) 109)).heap.size):=Nat.le_trans HB.out.size HB8.out.size
              simp only[zC] at HO8 HNW HS8 HB8
              go_wp2_with (at_builtin;refine wpList_append_own _ rfl _ _ 81 rfl w4.heap.size 109 i0 (.agg #[.int .i64 0,.int .i64 0,.int .u8 0]) 3 24 Tryz.underlying81 hi hz0 hz1 hz2 rfl (by decide) _ _ _ rfl HO8.out ⟨wr.heap.size,0,none⟩ 1 1 (zL ((0:Int),(1:Int),s)) rfl rfl HNW.out (Qyk _) (by unfold maxLen;omega) (by omega) HS8.out ?_)
              intro v9 w9 hown9 hgrow9 _
              have HB9:=hid ((Bn HB.out HB8.out).grown hgrow9 HS8.out (fun j hj=>(HO8.out.lt j hj).1))
              have hown10:w9.ownsRow w4.heap.size 109 3 v9 (k+1) ((l++ [((0:Int),(1:Int),s)]).flatMap zL):=by
               rw[List.flatMap_append]
               simpa using hown9
              obtain⟨a8,c8,rfl⟩:=Quu hown10
              have HO10:=hid hown10
              clear hown9 hgrow9 hown10 HO8 HNW HS8 HB8 HO HB
              go_wp2_with fail
              exact⟨⟨k+1,q,_,a8,c8,rfl,by omega,rfl,hq8,HE,HLK2,HT,HO10,HB9⟩,by simp only[lnV];omega⟩
             ·have H2:=hid (HO2.out wr q HB.out (by omega))
              obtain⟨x,hx⟩:∃x,x=Qed ds Z q:=⟨_,rfl⟩
              have hg:=HG2.out q
              rw[<-hx] at H2 hg
              obtain⟨x,k2⟩:=x
              dsimp only at H2 hg
              have HN2:=hid hx.symm
              clear hx
              go_wp2_with fail
              refine H2.out.mono ?_
              rintro _ w0 ⟨rfl,hw⟩
              obtain rfl:=hw.symm
              clear hw H2
              by_cases hx0:x<0
              ·have HE:Hid (R=none):=by
                show _=_
                rw[HS.out,show m-k=(m-k-1)+1 from by omega,Qty (Xbu (x:=x) (m:=k2) HN.out (by omega) (by rw[<-HQ.out];exact HN2.out) (Or.inl hx0))];rfl
               clear HS hg
               go_wp2_with fail
               go_ret2
               rw[HE.out]
               exact⟨Bn HB4.out HB.out,rfl⟩
              ·have hg':0<=x∧x<13∧1<=k2∧k2<=15∧(q:Int)+k2<=8*(zl:Int):=by
                rcases hg with h | h
                ·exact absurd h hx0
                ·exact h
               clear hg
               obtain⟨j2,hj2⟩:=Int.eq_ofNat_of_zero_le (show 0<=k2 by omega)
               subst hj2
               obtain⟨y,hy⟩:=Int.eq_ofNat_of_zero_le (show 0<=x by omega)
               subst hy
               obtain⟨q2,hq2⟩:∃q2:Nat,q2=q+j2:=⟨_,rfl⟩
               obtain⟨q3,hq3⟩:∃q3:Nat,q3=q2+y:=⟨_,rfl⟩
               have hqi2:(q:Int)+(j2:Int)=(q2:Int):=by omega
               have hqi3:(q2:Int)+(y:Int)=(q3:Int):=by omega
               have HQ2:=hid hq2
               have HQ3:=hid hq3
               have hyy:y<=12:=by omega
               have hq28:q2<=8*zl:=by omega
               clear hg' hq2 hq3
               by_cases hend:q3<=8*zl
               ·have g5:¬(8:Int)*(zl:Int)<(q3:Int):=by omega
                clear hqi
                go_wp2_with fail
                go_loop [19,20] (fun v i=>∃n:Nat,n<=y∧i= .int .i64 (n:Int)∧v= .int .i64 ((2^n+vb Z q2 n:Nat):Int)) (fun _ i=>y-(intOf i).toNat)
                case atStart=>exact⟨0,by omega,rfl,rfl⟩
                case round=>
                 obtain⟨n,hn,rfl,rfl⟩:=hrel
                 have hv1:=Xi1 Z q2 n
                 have hv2:2^n<=2^12:=Nat.pow_le_pow_right (by decide) (by omega)
                 by_cases hny:n<y
                 ·obtain⟨r,hr⟩:∃r:Nat,r=q2+n:=⟨_,rfl⟩
                  have hri:(q2:Int)+(n:Int)=(r:Int):=by omega
                  have H5:=hid (HBT.out wr r HB.out (by have:=HQ3.out;omega))
                  have HVS:Hid (2^(n+1)+vb Z q2 (n+1)=(2^n+vb Z q2 n)*2+Quk Z r):=by
                   show _=_
                   rw[vb,<-hr,Nat.pow_succ];omega
                  have hbv:=Qol Z r
                  have g6:(n:Int)<(y:Int):=by omega
                  have hV:2^n+vb Z q2 n<=8192:=by omega
                  clear hr hv1 hv2
                  generalize 2^n+vb Z q2 n=V at *
                  generalize Quk Z r=bt at *
                  go_wp2_with fail
                  refine H5.out.mono ?_
                  rintro _ w0 ⟨rfl,hw⟩
                  obtain rfl:=hw.symm
                  clear hw H5
                  go_wp2
                  exact⟨⟨n+1,by omega,by go_num,by rw[HVS.out];go_num⟩,by simp[intOf];omega⟩
                 ·obtain rfl:n=y:=by omega
                  have g6:¬(n:Int)<(n:Int):=by omega
                  obtain⟨V,hV⟩:∃V,V=2^n+vb Z q2 n:=⟨_,rfl⟩
                  have hV9:V<=8192:=by omega
                  obtain⟨s2,hs9⟩:∃s2,s2=s-252:=⟨_,rfl⟩
                  have hsi:s-252=s2:=hs9.symm
                  have hs29:4<=s2∧s2<=258:=by omega
                  have HE:Hid (R=(Qe8 ls ds Z (m-(k+1)) q3 (l++ [((V:Int),s2,0)])).map (·.1)):=by
                   show _=_
                   rw[HS.out,show m-k=(m-(k+1))+1 from by omega,Qz1 (Xhx (x:=n) (m:=j2) HN.out (by omega) (by rw[<-HQ.out];exact HN2.out) (by rw[<-HZL.out];have:=HQ.out;have:=HQ2.out;have:=HQ3.out;omega)),<-HQ.out,<-HQ2.out,<-HQ3.out,<-hV,hsi]
                  have HT:Hid (∀t∈l++ [((V:Int),s2,(0:Int))],Tin t):=fun t ht=>by
                   rcases List.mem_append.1 ht with h | h
                   ·exact HTI.out t h
                   ·rw[List.mem_singleton.1 h];unfold Tin;dsimp only;omega
                  have HLK2:Hid ((l++ [((V:Int),s2,(0:Int))]).length=k+1):=by show _=_;rw[List.length_append,HLK.out];rfl
                  rw[<-hV]
                  clear HS HN HTI HLK hs9 hV hv1 hv2 HN2 h256 hs1 hs2 hs0
                  have HO8:=hid (HO.out.alloc (.cells (zC ((V:Int),s2,(0:Int))) 109))
                  have HNW:=hid (Xdc wr ((V:Int),s2,(0:Int)))
                  have HB8:=hid (Qaa wr (.cells (zC ((V:Int),s2,(0:Int))) 109))
                  have HS8:Hid (w4.heap.size<=(wr.alloc (.cells (zC ((V:Int),s2,(0:Int))) 109)).heap.size):=Nat.le_trans HB.out.size HB8.out.size
                  simp only[zC] at HO8 HNW HS8 HB8
                  go_wp2_with (at_builtin;refine wpList_append_own _ rfl _ _ 81 rfl w4.heap.size 109 i0 (.agg #[.int .i64 0,.int .i64 0,.int .u8 0]) 3 24 Tryz.underlying81 hi hz0 hz1 hz2 rfl (by decide) _ _ _ rfl HO8.out ⟨wr.heap.size,0,none⟩ 1 1 (zL ((V:Int),s2,(0:Int))) rfl rfl HNW.out (Qyk _) (by unfold maxLen;omega) (by omega) HS8.out ?_)
                  intro v9 w9 hown9 hgrow9 _
                  have HB9:=hid ((Bn HB.out HB8.out).grown hgrow9 HS8.out (fun j hj=>(HO8.out.lt j hj).1))
                  have hown10:w9.ownsRow w4.heap.size 109 3 v9 (k+1) ((l++ [((V:Int),s2,(0:Int))]).flatMap zL):=by
                   rw[List.flatMap_append]
                   simpa using hown9
                  obtain⟨a8,c8,rfl⟩:=Quu hown10
                  have HO10:=hid hown10
                  clear hown9 hgrow9 hown10 HO8 HNW HS8 HB8 HO HB
                  go_wp2_with fail
                  exact⟨⟨k+1,q3,_,a8,c8,rfl,by omega,rfl,hend,HE,HLK2,HT,HO10,HB9⟩,by simp only[lnV];omega⟩
               ·have HE:Hid (R=none):=by
                 show _=_
                 rw[HS.out,show m-k=(m-k-1)+1 from by omega,Qty (Xbu (x:=(y:Int)) (m:=(j2:Int)) HN.out (by omega) (by rw[<-HQ.out];exact HN2.out) (Or.inr (by rw[<-HZL.out,Int.toNat_natCast,Int.toNat_natCast];have:=HQ.out;have:=HQ2.out;have:=HQ3.out;omega)))];rfl
                have g5:(8:Int)*(zl:Int)<(q3:Int):=by omega
                clear HS hend hqi
                go_wp2_with fail
                go_ret2
                rw[HE.out]
                exact⟨Bn HB4.out HB.out,rfl⟩
           ·obtain rfl:k=m:=by omega
            have g3:decide ((k:Int)<(k:Int))=false:=decide_eq_false (by omega)
            have g3n:decide (k<k)=false:=decide_eq_false (by omega)
            have g3p:¬(k:Int)<(k:Int):=by omega
            have HE:Hid (R=some l):=by
             show _=_
             rw[HS.out,Nat.sub_self];rfl
            go_wp2_with fail
            go_ret2
            rw[HE.out]
            have ho:=HO.out
            rw[<-HLK.out] at ho
            obtain⟨a',c',e',h'⟩:=Rt.ownZ ho HTI.out
            exact⟨Bn HB4.out HB.out,a',c',by rw[<-e',HLK.out];rfl,h'⟩
         ·rw[if_neg hgood] at HS
          dsimp only at HS
          by_cases he:e=0
          ·subst he
           have hx:¬x<=65536:=fun h=>hgood ⟨rfl,h⟩
           have g1:decide ((65536:Int)<x)=true:=decide_eq_true (by omega)
           clear hgood hx HRL
           go_wp2_with fail
           go_ret2
           rw[HS.out]
           exact⟨HB2.out,rfl⟩
          ·have g0:(e != 0)=true:=by rw[bne_iff_ne];exact he
           clear he hgood HRL
           go_wp2_with fail
           go_ret2
           rw[HS.out]
           exact⟨HB2.out,rfl⟩
end
end Go.Proofs.YtibjlbcnapoblaaGreatDoor
