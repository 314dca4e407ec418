/- Contracts and facts. -/
import Derived.Test.YtibjlbcnapoblaaGreatDoorPart03
import Derived.Test.YtibjlbcnapoblaaGreatDoorPart28
namespace Go.Proofs.YtibjlbcnapoblaaGreatDoor
set_option maxRecDepth 100000
set_option maxHeartbeats 6400000
section
open Hf Lz
theorem Qvt(zs b:List Int)(at':Nat):∀f l,0<l->(oneG zs b at' f l).1<0∨(0<=(oneG zs b at' f l).1∧(oneG zs b at' f l).1<zs.length∧1<=(oneG zs b at' f l).2∧(oneG zs b at' f l).2<=15∧(at':Int)+(oneG zs b at' f l).2<=8*b.length)
 | 0,l,h0=> .inl (by simp[oneG])
 | f+1,l,h0=>by
   rw[oneG]
   by_cases h:l<16∧at'+l<=8*b.length
   ·rw[if_pos h]
    cases hw:who zs l (vb b at' l) with
    | none=>exact Qvt zs b at' f (l+1) (by omega)
    | some s=>
      have h2:=List.mem_of_find?_eq_some hw
      rw[List.mem_range] at h2
      dsimp only
      right;omega
   ·rw[if_neg h]
    left;simp
theorem Qkw(zs b:List Int)(at':Nat):(Qed zs b at').1<0∨(0<=(Qed zs b at').1∧(Qed zs b at').1<zs.length∧1<=(Qed zs b at').2∧(Qed zs b at').2<=15∧(at':Int)+(Qed zs b at').2<=8*b.length):=Qvt zs b at' 16 1 (by decide)
theorem Xdu{ls ds b:List Int}(hl:ls.length<=511)(hd:ds.length<=13){at' p:Nat}{t:Tkz}(h:Qod ls ds b at'=some (t,p)):Tin t∧at'+1<=p∧p<=8*b.length:=by
 unfold Qod at h
 have h1:=Qkw ls b at'
 generalize Qed ls b at'=o at *
 obtain⟨s,k⟩:=o
 dsimp only at *
 by_cases c1:s<0
 ·rw[if_pos c1] at h;cases h
 ·rw[if_neg c1] at h
  by_cases c2:s<256
  ·rw[if_pos c2] at h
   simp only[Option.some.injEq,Prod.mk.injEq] at h
   obtain⟨rfl,rfl⟩:=h
   unfold Tin;dsimp only;omega
  ·rw[if_neg c2] at h
   have h2:=Qkw ds b (at'+k.toNat)
   generalize Qed ds b (at'+k.toNat)=o at *
   obtain⟨x,m⟩:=o
   dsimp only at *
   by_cases c3:x<0∨8*b.length<at'+k.toNat+m.toNat+x.toNat
   ·rw[if_pos c3] at h;cases h
   ·rw[if_neg c3] at h
    simp only[Option.some.injEq,Prod.mk.injEq] at h
    obtain⟨rfl,rfl⟩:=h
    have h3:=Xi1 b (at'+k.toNat+m.toNat) x.toNat
    have h4:2^x.toNat<=2^12:=Nat.pow_le_pow_right (by decide) (by omega)
    unfold Tin;dsimp only;omega
theorem Qqu{ls ds b:List Int}(hl:ls.length<=511)(hd:ds.length<=13):∀n at' acc l p,Qe8 ls ds b n at' acc=some (l,p)->(∀t∈acc,Tin t)->at'<=8*b.length->(∀t∈l,Tin t)∧at'+n<=p∧p<=8*b.length
 | 0,at',acc,l,p,h,ha,hb=>by
   simp only[Qe8,Option.some.injEq,Prod.mk.injEq] at h
   obtain⟨rfl,rfl⟩:=h
   exact⟨ha,by omega,hb⟩
 | n+1,at',acc,l,p,h,ha,hb=>by
   rw[Qe8] at h
   cases ht:Qod ls ds b at' with
   | none=>rw[ht] at h;cases h
   | some tp=>
     obtain⟨t,q⟩:=tp
     rw[ht] at h
     dsimp only at h
     obtain⟨r1,r2,r3⟩:=Xdu hl hd ht
     obtain⟨s1,s2,s3⟩:=Qqu hl hd n q _ l p h (fun u hu=>by
      rcases List.mem_append.1 hu with h9 | h9
      ·exact ha u h9
      ·rw[List.mem_singleton.1 h9];exact r1) r3
     exact⟨s1,by omega,s3⟩
theorem Qis(n:Nat):∀f l zs l' rs,Qew n f l zs=some (l',rs)->l.length<=n->l'.length=n
 | 0,l,zs,l',rs,h,_=>by simp[Qew] at h
 | f+1,l,zs,l',rs,h,hl=>by
   rw[Qdo] at h
   by_cases c:l.length<n
   ·rw[if_pos c] at h
    cases zs with
    | nil=>cases h
    | cons z zs1=>
      dsimp only at h
      cases hn:Qgi (n-l.length) zs1 with
      | none=>rw[hn] at h;cases h
      | some mr=>
        obtain⟨m,r⟩:=mr
        rw[hn] at h
        dsimp only at h
        have:=Qek hn
        by_cases c0:m=0
        ·rw[if_pos c0] at h;cases h
        ·rw[if_neg c0] at h
         exact Qis n f _ _ l' rs h (by rw[List.length_append,List.length_replicate];omega)
   ·rw[if_neg c] at h
    simp only[Option.some.injEq,Prod.mk.injEq] at h
    obtain⟨rfl,rfl⟩:=h
    omega
theorem Qn2(n:Nat)(hn:n<=1000):∀(f:Nat) (zs:List Int) (F:Nat) (l rs:List Int),zs.length<=f->l.length+zs.length=n->(Qdh f zs++rs).length+1<=F->Qew n F l (Qdh f zs++rs)=some (l++zs,rs)
 | 0,zs,F,l,rs,h1,h2,h3=>by
   have:zs= []:=List.eq_nil_of_length_eq_zero (by omega)
   subst this
   cases F with
   | zero=>omega
   | succ F=>
     rw[Qew.eq_def]
     dsimp only
     rw[if_neg (by simp at h2;omega)]
     simp[Qdh]
 | f+1,[],F,l,rs,h1,h2,h3=>by
   cases F with
   | zero=>omega
   | succ F=>
     rw[Qew.eq_def]
     dsimp only
     rw[if_neg (by simp at h2;omega)]
     simp[Qdh]
 | f+1,z::zs,F,l,rs,h1,h2,h3=>by
   cases F with
   | zero=>omega
   | succ F=>
     have hs:=Qrx z zs
     have hl:=congrArg List.length hs
     rw[List.length_append,List.length_replicate] at hl
     rw[List.length_cons] at h1 h2 hl
     rw[Qdh,List.cons_append,List.append_assoc] at h3|-
     rw[Qew,if_pos (by omega)]
     rw[Qgv _ _ _ (by omega) (by omega)]
     dsimp only
     have hd:(zs.drop (runN z zs)).length<=f:=by rw[List.length_drop];omega
     rw[if_neg (by omega),Qn2 n hn f _ F _ rs hd (by rw[List.length_append,List.length_replicate];omega) (by
      simp only[List.length_cons,List.length_append] at h3|-
      omega),List.append_assoc,<-hs]
theorem Qnu(n:Nat)(hn:n<=1000)(zs rs:List Int)(h:zs.length=n):Qkf n (Qcu zs++rs)=some (zs,rs):=by
 unfold Qkf Qcu
 rw[Qn2 n hn zs.length zs _ [] rs (Nat.le_refl _) (by simpa using h) (Nat.le_refl _),List.nil_append]
theorem Xjf{ls ds:List Int}(h1:Qal ls=true)(h2:Qal ds=true)(hl:ls.length=511)(hd:ds.length=13){t:Tkz}(ht:Tg ls ds t)(b:List Int)(at':Nat)(r:List Nat)(hs:(Qgg b).drop at'=Qyh ls (Qaj ls) ds (Qaj ds) t++r):
 ∃p,Qod ls ds b at'=some (t,p)∧(Qgg b).drop p=r:=by
 obtain⟨d,n,x⟩:=t
 obtain⟨hk,h8,hp,hq⟩:=ht
 dsimp only at *
 unfold Qyh at hs
 dsimp only at hs
 unfold Qfa at hs hp
 dsimp only at hs hp
 have r1:=(Qdr h1).2
 have r2:=(Qdr h2).2
 rcases Qrj hk with ⟨e1,e2⟩ | ⟨e1,e2,e3,e4,e5⟩
 ·dsimp only at e1 e2
  subst e1 e2
  rw[if_pos rfl] at hs hp
  rw[if_pos rfl,Qfr h1 _ (by omega) hp] at hs
  have:=r1 x.toNat
  obtain⟨a1,a2⟩:=Xfm ls ds b h1 at' x.toNat (ls.getD x.toNat 0).toNat r (by omega) (by omega) (by omega) (by omega) (by omega) hs
  exact⟨_,by rw[a1,show((x.toNat:Nat):Int)=x from by omega],a2⟩
 ·dsimp only at e1 e2 e3 e4 e5
  subst e5
  have hdr:=Qe7 e1 e2
  have hq':=hq (by omega)
  rw[if_neg (by omega)] at hs hp
  rw[if_neg (by omega),Qfr h1 _ (by omega) hp,Qfr h2 _ (by omega) hq',List.append_assoc,List.append_assoc] at hs
  have:=r1 (252+n).toNat
  have:=r2 (Qet d).toNat
  have hlog:2^(Qet d).toNat<=d.toNat∧d.toNat<2^((Qet d).toNat+1):=by
   unfold Qet
   rw[Int.toNat_natCast]
   exact⟨Nat.log2_self_le (show d.toNat≠0 by omega),Nat.lt_log2_self⟩
  obtain⟨a1,a2⟩:=Qy5 ls ds b h1 h2 at' (252+n).toNat (ls.getD (252+n).toNat 0).toNat (Qet d).toNat (ds.getD (Qet d).toNat 0).toNat d.toNat r (by omega) (by omega) (by omega) (by omega) (by omega) (by omega) (by omega) (by omega) (by omega) hlog hs
  exact⟨_,by rw[a1,show((d.toNat:Nat):Int)=d from by omega,show(((252+n).toNat:Nat):Int)-252=n from by omega],a2⟩
def Qkj(zs:List Int):Option (List Tkz):=
 match Qkf 511 zs with
 | none=>none
 | some (ls,z1)=>if Qal ls=true then
  match Qkf 13 z1 with
  | none=>none
  | some (ds,z2)=>if Qal ds=true then
   match Qgi 65536 z2 with
   | none=>none
   | some (n,z3)=>(Qe8 ls ds z3 n 0 []).map (·.1)
   else none
  else none
def Xkj(zs:List Int):Option (List Tkz):=
 match Qkj zs with
 | none=>none
 | some l=>if (Qbs l).2=0∧Qbu l=zs then some l else none
theorem Xln(l:List Tkz)(hn:l.length<=65536)(hz:(Qbs l).2=0)(h8:∀j,j<l.length->0<=(l.getD j tk0).2.2∧(l.getD j tk0).2.2<=255):∀t∈l,Tg (lsF l) (dsF l) t:=by
 obtain⟨a1,a2,b1,b2,a3,b3⟩:=Qli l hn
 have hall:=Qgn hz
 intro t ht
 obtain⟨j,hj,rfl⟩:=List.getElem_of_mem ht
 have e:l.getD j tk0=l[j]:=by simp[List.getD,List.getElem?_eq_getElem hj]
 have c1:=hall j hj
 have c2:=h8 j hj
 have c3:=Qri l j hj
 have c4:=Qsg l j hj
 rw[e] at c1 c2 c3 c4
 have c5:=Qf8 c1 c2
 refine⟨c1,c2,a3 _ (by rcases c5 with h | h<;>omega) (c3 (by rcases c5 with h | h<;>omega)),fun hne=>?_⟩
 rcases c5 with h | h
 ·exact absurd h.1 hne
 ·have:=Qe7 h.1 h.2.1
  exact b3 _ (by omega) (c4 (by omega) (by omega))
theorem Qyu(l:List Tkz)(hn:l.length<=65536)(hz:(Qbs l).2=0)(h8:∀j,j<l.length->0<=(l.getD j tk0).2.2∧(l.getD j tk0).2.2<=255):Qkj (Qbu l)=some l:=by
 obtain⟨a1,a2,b1,b2,_,_⟩:=Qli l hn
 have hT:=Xln l hn hz h8
 obtain⟨M,e1,e2,_⟩:=Wv.toks (H:=Ql7 l) (lsF l) (Qaj (lsF l)) (dsF l) (Qaj (dsF l)) l l.length (Nat.le_refl _)
 rw[List.take_length] at e2
 obtain⟨p,hs,_⟩:=Qrg (lsF l) (dsF l) M (Qyh (lsF l) (Qaj (lsF l)) (dsF l) (Qaj (dsF l))) l (fun t ht at' r h=>Xjf a2 b2 a1 b1 (hT t ht) M at' r h) 0 _ [] (by rw[List.drop_zero];exact e2)
 have hp:Qbu l=Ql7 l++M:=by unfold Qbu;exact e1
 rw[hp]
 unfold Qkj Ql7
 rw[List.append_assoc,List.append_assoc,Qnu 511 (by decide) _ _ a1]
 dsimp only
 rw[if_pos a2,Qnu 13 (by decide) _ _ b1]
 dsimp only
 rw[if_pos b2,Qgv _ _ _ (by omega) (by decide)]
 dsimp only
 rw[hs,List.nil_append]
 rfl
theorem Qh5(n:Nat):∀(f:Nat) (l zs l' rs:List Int),Qew n f l zs=some (l',rs)->rs.length<=zs.length
 | 0,l,zs,l',rs,h=>by simp[Qew] at h
 | f+1,l,zs,l',rs,h=>by
   rw[Qdo] at h
   by_cases c:l.length<n
   ·rw[if_pos c] at h
    cases zs with
    | nil=>cases h
    | cons z zs1=>
      dsimp only at h
      cases hn:Qgi (n-l.length) zs1 with
      | none=>rw[hn] at h;cases h
      | some mr=>
        obtain⟨m,r⟩:=mr
        rw[hn] at h
        dsimp only at h
        have:=Qek hn
        by_cases c0:m=0
        ·rw[if_pos c0] at h;cases h
        ·rw[if_neg c0] at h
         have:=Qh5 n f _ _ l' rs h
         rw[List.length_cons];omega
   ·rw[if_neg c] at h
    simp only[Option.some.injEq,Prod.mk.injEq] at h
    obtain⟨rfl,rfl⟩:=h
    exact Nat.le_refl _
theorem Qq0{zs:List Int}{l:List Tkz}(h:Qkj zs=some l):(∀t∈l,Tin t)∧l.length<=8*zs.length∧l.length<=65536:=by
 unfold Qkj at h
 cases h1:Qkf 511 zs with
 | none=>rw[h1] at h;cases h
 | some lr=>
   obtain⟨ls,z1⟩:=lr
   rw[h1] at h
   dsimp only at h
   split at h
   ·cases h2:Qkf 13 z1 with
    | none=>rw[h2] at h;cases h
    | some dr=>
      obtain⟨ds,z2⟩:=dr
      rw[h2] at h
      dsimp only at h
      split at h
      ·cases h3:Qgi 65536 z2 with
       | none=>rw[h3] at h;cases h
       | some nr=>
         obtain⟨n,z3⟩:=nr
         rw[h3] at h
         dsimp only at h
         cases h4:Qe8 ls ds z3 n 0 [] with
         | none=>rw[h4] at h;cases h
         | some lp=>
           obtain⟨m,p⟩:=lp
           rw[h4] at h
           simp only[Option.map_some,Option.some.injEq] at h
           subst h
           have l1:=Qis 511 _ _ _ _ _ h1 (by decide)
           have l2:=Qis 13 _ _ _ _ _ h2 (by decide)
           have s1:=Qh5 511 _ _ _ _ _ h1
           have s2:=Qh5 13 _ _ _ _ _ h2
           have s3:=Qek h3
           obtain⟨q1,q2,q3⟩:=Qqu (by omega) (by omega) n 0 [] m p h4 (fun _ h=>by cases h) (Nat.zero_le _)
           have:=Qq2 ls ds z3 n 0 [] m p h4
           rw[List.length_nil] at this
           exact⟨q1,by omega,by omega⟩
      ·cases h
   ·cases h
theorem Xhe{l:List Tkz}(h:∀t∈l,Tin t)(j:Nat)(hj:j<l.length):0<=(l.getD j tk0).2.2∧(l.getD j tk0).2.2<=255:=by
 have e:l.getD j tk0=l[j]:=by simp[List.getD,List.getElem?_eq_getElem hj]
 rw[e]
 exact(h _ (List.getElem_mem hj)).2.2.2.2
theorem Xij(zs:List Int)(hn:zs.length<=4200):Xkj zs=Qob zs:=by
 cases hu:Qob zs with
 | some l=>
   unfold Qob at hu
   cases ht:Qj9 zs with
   | none=>rw[ht] at hu;cases hu
   | some ls=>
     obtain⟨m,s⟩:=ls
     rw[ht] at hu
     dsimp only at hu
     split at hu
     ·rename_i hc
      simp only[Option.some.injEq] at hu
      subst hu
      obtain⟨r1,r2⟩:=Qlv ht
      have hr:=Qyu m (by omega) hc.1 (Xhe r1)
      rw[hc.2] at hr
      unfold Xkj
      rw[hr]
      dsimp only
      rw[if_pos hc]
     ·cases hu
 | none=>
   unfold Xkj
   cases hr:Qkj zs with
   | none=>rfl
   | some l=>
     dsimp only
     by_cases hc:(Qbs l).2=0∧Qbu l=zs
     ·have:=Qq0 hr
      have h2:=Quv l this.2.2 hc.1 (Xhe this.1)
      rw[hc.2,hu] at h2
      cases h2
     ·rw[if_neg hc]
end
/-
 The document's symbol, dist and Varint.
-/
section
open Go.RowKit Lz
theorem Qlo(t:Tkz)(w:World)(h:t.1=0∨(0<=t.2.1∧t.2.1<=258))(h8:0<=t.2.2∧t.2.2<=255):Calls Tryz.prog 75 #[.agg (zC t)] w fun e w'=>e= .returned (.int .i64 (Qfa t))∧Below w.heap.size w w':=by
 obtain⟨d,n,x⟩:=t
 have hx0:=h8.1
 have hx1:=h8.2
 clear h8
 simp only at hx0 hx1
 unfold zC
 by_cases hl:d=0
 ·subst hl
  have HK:Hid (Qfa (0,n,x)=x):=rfl
  go_enter Tryz.func75,Tryz.ntmps75
  go_wp2
  go_ret
  exact⟨by rw[HK.out];rfl,Qag _ _⟩
 ·have HK:Hid (Qfa (d,n,x)=252+n):=by show Qfa (d,n,x)=252+n;unfold Qfa;rw[if_neg hl]
  have hd:(d==0)=false:=by rw[beq_eq_false_iff_ne];exact hl
  have h1:0<=n∧n<=258:=by
   rcases h with h | h
   ·exact absurd h hl
   ·exact h
  have h2:=h1.1
  have h3:=h1.2
  clear h h1
  go_enter Tryz.func75,Tryz.ntmps75
  go_wp2
  go_ret
  exact⟨by rw[HK.out];rfl,Qag _ _⟩
theorem Xa8(n:Nat)(h:2<=n):Nat.log2 n=Nat.log2 (n/2)+1:=by
 rw[Nat.log2_def,if_pos h]
theorem Xf8(n:Nat)(h:n<2):Nat.log2 n=0:=by
 rw[Nat.log2_def,if_neg (by omega)]
theorem Qqw(d:Int)(w:World)(h1:1<=d)(h2:d<=4096):Calls Tryz.prog 77 #[.int .i64 d] w fun e w'=>e= .returned (.int .i64 (Qet d))∧w'=w:=by
 go_enter Tryz.func77,Tryz.ntmps77
 go_wp2
 go_loopw [0,3] (fun n k wr=>wr=w∧∃(y j:Nat),n= .int .i64 (y:Int)∧k= .int .i64 (j:Int)∧1<=y∧y<=4096∧j<=4096∧j+y<=4096∧Hid ((j:Int)+(Nat.log2 y:Int)=Qet d)) (fun n _ _=>(intOf n).toNat)
 case atStart=>exact⟨rfl,d.toNat,0,by congr 1;omega,rfl,by omega,by omega,by omega,by omega,by show _=_;unfold Qet;omega⟩
 case round=>
  obtain⟨rfl,y,j,rfl,rfl,hy1,hy2,hj,hjy,HD⟩:=hrel
  by_cases hy:1<y
  ·have hyi:(y:Int)>1:=by omega
   have HD2:Hid (((j+1:Nat):Int)+(Nat.log2 (y/2):Int)=Qet d):=by
    show _=_
    rw[<-HD.out,Xa8 y (by omega)]
    omega
   clear HD
   go_wp2
   exact⟨⟨trivial,y/2,j+1,by go_num,by go_num,by omega,by omega,by omega,by omega,HD2.out⟩,by simp[intOf];omega⟩
  ·obtain rfl:y=1:=by omega
   have HD2:Hid ((j:Int)=Qet d):=by
    show _=_
    rw[<-HD.out,Xf8 1 (by omega)]
    omega
   clear HD
   go_wp2
   go_ret
   exact⟨by rw[HD2.out];rfl,rfl⟩
theorem Xgb(x:Int)(w:World)(h0:0<=x)(h1:x<18446744073709551616):
 Calls Tryz.prog 46 #[.int .u64 x] w fun e w'=>∃v,e= .returned v∧w'.ownsRow w.heap.size 5 1 v (Qeb x).length ((Qeb x).map (Value.int .u8))∧Below w.heap.size w w':=by
 obtain⟨i0,hi,hz0,hz1,hz2⟩:=info_parts Tryz.info5W
 go_enter Tryz.func46,Tryz.ntmps46
 go_wp2
 go_loopw [0,3] (fun c v wr=>∃(f:Nat) (acc:List Int) (y:Int),c= .int .u64 y∧0<=y∧y<18446744073709551616∧y<128^(f+1)∧acc.length+f=9∧acc++Qev f y=Qeb x∧wr.ownsRow w.heap.size 5 1 v acc.length (acc.map (Value.int .u8))∧Below w.heap.size w wr)
  (fun c _ _=>(intOf c).toNat)
 case atStart=>exact⟨9,[],x,rfl,h0,h1,by omega,rfl,rfl,World.ownsRow_nil _ _ _ _,Below.refl _ _⟩
 case round=>
  obtain⟨f,acc,y,rfl,hy0,hy1,hyf,hlen,hcat,hown,hbel⟩:=hrel
  have hor:=Xkq y
  by_cases hy:y<128
  ·go_wp2_with (at_builtin;refine wpList_append_own _ rfl _ _ 22 rfl w.heap.size 5 i0 (.int .u8 0) 1 1 Tryz.underlying22 hi hz0 hz1 hz2 rfl (by decide) _ _ _ rfl (hown.alloc _) ⟨wr.heap.size,0,none⟩ 1 1 [.int .u8 y] rfl rfl ?c1 ?c2 ?c3 ?c4 ?c5 ?_)
   case c1=>
    intro j u hj
    match j,hj with
    | 0,hj=>simp at hj;subst hj;simp[Addr.add]
   case c2=>intro u hu;simp at hu;subst hu;rfl
   case c3=>unfold maxLen;omega
   case c4=>omega
   case c5=>have:=hbel.size;simp;omega
   intro v' w1 hown' hgrow _
   have R:=Qd3 hbel.size hown hbel hown' hgrow
   have hv:acc++ [y]=Qeb x:=by rw[<-hcat,Qii f y hy]
   rw[hv] at R
   clear hown' hgrow hown hcat
   go_wp2
   go_ret
   exact⟨_,rfl,R.1,R.2⟩
  ·obtain⟨g,rfl⟩:∃g,f=g+1:=by
    cases f with
    | zero=>omega
    | succ g=>exact⟨g,rfl⟩
   have hcat':(acc++ [y%128+128])++Qev g (y/128)=Qeb x:=by rw[<-hcat,Qiu g y hy];simp
   have hyg:y/128<128^(g+1):=by
    rw[Int.ediv_lt_iff_lt_mul (by decide),<-Int.pow_succ];exact hyf
   clear hcat hyf
   go_wp2_with (at_builtin;refine wpList_append_own _ rfl _ _ 22 rfl w.heap.size 5 i0 (.int .u8 0) 1 1 Tryz.underlying22 hi hz0 hz1 hz2 rfl (by decide) _ _ _ rfl (hown.alloc _) ⟨wr.heap.size,0,none⟩ 1 1 [.int .u8 (y%128+128)] rfl rfl ?d1 ?d2 ?d3 ?d4 ?d5 ?_)
   case d2=>rfl
   case d3=>unfold maxLen;omega
   case d4=>omega
   case d5=>have:=hbel.size;simp;omega
   intro v' w1 hown' hgrow _
   have R:=Qd3 hbel.size hown hbel hown' hgrow
   clear hown' hgrow hown
   go_wp2
   go_roundw
   case rel=>exact⟨g,acc++ [y%128+128],y/128,rfl,by omega,by omega,hyg,by simp;omega,hcat',R.1,R.2⟩
   case measure=>simp[intOf];omega
theorem Qot(x:Int)(w:World)(h0:0<=x)(h1:x<18446744073709551616):
 Calls Tryz.prog 46 #[.int .u64 x] w fun e w'=>∃a c,e= .returned (.slice a (Qeb x).length c)∧Ri w' .u8 a c (Qeb x)∧Below w.heap.size w w':=by
 refine(Xgb x w h0 h1).mono ?_
 rintro e w' ⟨v,rfl,ho,hb⟩
 obtain⟨a,c,rfl,hr⟩:=Ri.own ho (fun j=>Qbb (Qjl x h0 h1 j).1 (Qjl x h0 h1 j).2)
 exact⟨a,c,rfl,hr,hb⟩
end
/-
 The document's Read of layer 1.
-/
section
open Go.RowKit
theorem Qml(a:Option Addr)(cap:Nat)(zs:List Int)(w:World)(hr:Ri w .u8 a cap zs):
 Calls Tryz.prog 85 #[.slice a zs.length cap] w fun e w'=>e= .returned (.tuple #[.int .u64 (Qau 0 0 zs).1,.int .i64 (Qau 0 0 zs).2.1,.int .i64 (Qau 0 0 zs).2.2])∧w'=w:=by
 have hcap:=hr.room
 have hmax:=hr.most
 unfold maxLen at hmax
 obtain⟨len,hlen⟩:∃n,n=zs.length:=⟨_,rfl⟩
 have hcells:=hr.cells
 have hlo:∀j,0<=zs.getD j 0:=fun j=>(wf_u8 (hr.fits j)).1
 have hhi:∀j,zs.getD j 0<=255:=fun j=>(wf_u8 (hr.fits j)).2
 clear hr
 rw[<-hlen] at hcells hcap|-
 have HL:Hid (len=zs.length):=hlen
 clear hlen
 go_enter Tryz.func85,Tryz.ntmps85
 go_wp2
 go_loop [5,6,7] (fun x sc i=>∃(k:Nat) (acc:Int),k<=len∧k<=9∧i= .int .i64 k∧x= .int .u64 acc∧sc= .int .u64 (128^k)∧0<=acc∧acc<128^k∧Qau 0 0 zs=Qau acc k (zs.drop k)) (fun _ _ i=>len-(intOf i).toNat)
 case atStart=>exact⟨0,0,by omega,by omega,rfl,rfl,rfl,by omega,by simp,rfl⟩
 case round=>
  obtain⟨k,acc,hk,hk9,rfl,rfl,rfl,hacc0,hacc1,hd⟩:=hrel
  by_cases hlt:k<len
  ·obtain⟨b,off,rfl,hbw,hc⟩:=hcells (by omega)
   have hck:=hc k hlt
   have hl0:=hlo k
   have hl1:=hhi k
   rw[Qiq zs k (by rw[<-HL.out];exact hlt)] at hd
   generalize zs.getD k 0=c at *
   have HD:Hid (Qau 0 0 zs=Qau acc k (c::zs.drop (k+1))):=hd
   clear hd hc hlo hhi hcells
   have hs0:(0:Int)<128^k:=Int.pow_pos (by decide)
   cases hbad:Qks k c with
   | true=>
     have hb:=of_decide_eq_true hbad
     by_cases hk9':k=9
     ·have g9:((k:Int)==9)=true:=by rw[beq_iff_eq];omega
      have g1:(c != 1)=true:=by rw[bne_iff_ne];omega
      have HK:Hid (k=9):=hk9'
      clear hb hk9'
      go_wp2
      go_ret3
      exact⟨Qd5 (HD.out.trans (Qiw hbad)),rfl⟩
     ·have g9:((k:Int)==9)=false:=by rw[beq_eq_false_iff_ne];omega
      have hkp:0<k:=by omega
      have g1:(c==0)=true:=by rw[beq_iff_eq];omega
      clear hb
      go_wp2
      go_ret3
      exact⟨Qd5 (HD.out.trans (Qiw hbad)),rfl⟩
   | false=>
     have hds:=Qlq acc c k hk9 (Qgw hbad) hacc0 hacc1
     have hdl:=Qvi k c hk9 (Qgw hbad)
     have hdp:0<=c%128*128^k:=Int.mul_nonneg (by omega) (by omega)
     have hb:=of_decide_eq_false hbad
     have hmax64:k≠9->(128:Int)^k*128<18446744073709551616:=by
      intro h
      have e:((128^(k+1):Nat):Int)<=((128^9:Nat):Int):=by
       have:=Nat.pow_le_pow_right (n:=128) (by decide) (show k+1<=9 from by omega)
       omega
      have e2:(128:Int)^(k+1)<=9223372036854775808:=by simpa using e
      rw[Int.pow_succ] at e2
      omega
     by_cases hk9':k=9
     ·have g9:((k:Int)==9)=true:=by rw[beq_iff_eq];omega
      have g1:(c != 1)=false:=by rw[bne_eq_false_iff_eq];omega
      have hkp:9<=k:=by omega
      have g2:(c==0)=false:=by rw[beq_eq_false_iff_ne];omega
      have hc128:c<128:=by omega
      have HK:Hid (k=9):=hk9'
      clear hb hk9' hmax64
      go_wp2
      go_ret3
      exact⟨Qd5 (HD.out.trans (Qfi hbad hc128)),rfl⟩
     ·have hm:=hmax64 hk9'
      have hnx:=Qdn acc c k hacc0 hacc1
      have g9:((k:Int)==9)=false:=by rw[beq_eq_false_iff_ne];omega
      clear hmax64
      by_cases hk0:0<k
      all_goals
       first
        | (have g2:(c==0)=false:=by rw[beq_eq_false_iff_ne];omega)
        | skip
       clear hb
       by_cases hc128:c<128
       ·go_wp2
        go_ret3
        exact⟨Qd5 (HD.out.trans (Qfi hbad hc128)),rfl⟩
       ·go_wp2
        go_round
        case rel=>exact⟨k+1,acc+c%128*128^k,by omega,by omega,by go_num,rfl,by rw[Int.pow_succ],hnx.1,hnx.2,by rw[HD.out,Qgq hbad (by omega)]⟩
        case measure=>simp[intOf];omega
  ·have hkl:k=len:=by omega
   have HD:Hid (Qau 0 0 zs=(0,(k:Int),11)):=hd.trans (Qp1 (by rw[<-HL.out];exact hlt))
   clear hd
   go_wp2
   go_ret3
   exact⟨Qd5 (by rw[HD.out,hkl]),rfl⟩
end
/-
 What RefCheck lacks: the document's contracts.
-/
section
open Go.RowKit Hf
theorem Qtv(a:Option Addr)(cap:Nat)(zs:List Int)(w:World)(h:512<zs.length):
 Calls Tryz.prog 112 #[.slice a zs.length cap] w fun e w'=>e= .returned (.int .i64 (Qb8 zs))∧w'=w:=by
 rw[Qum zs h]
 generalize zs.length=len at *
 go_enter Tryz.func112,Tryz.ntmps112
 go_wp2
 go_ret
 exact⟨rfl,rfl⟩
theorem Qr8(a:Option Addr)(cap:Nat)(zs:List Int)(w:World)(hr:Ri w .i64 a cap zs)(h:zs.length<=512):
 Calls Tryz.prog 112 #[.slice a zs.length cap] w fun e w'=>e= .returned (.int .i64 (Qb8 zs))∧w'=w:=by
 have HR:=hid hr
 obtain⟨len,hlen⟩:∃n,n=zs.length:=⟨_,rfl⟩
 have HL:=hid hlen
 rw[<-hlen] at h|-
 clear hr hlen
 go_enter Tryz.func112,Tryz.ntmps112
 go_wp2
 go_loop [3,4,5,6] (fun s3 s4 s5 i=>∃k:Nat,k<=len∧i= .int .i64 k∧s3= .int .i64 ((Qj6 (zs.take k):Nat):Int)∧s4= .int .i64 ((Qdf (zs.take k):Nat):Int)∧s5= .int .i64 ((Qm0 (zs.take k):Nat):Int)∧Hid (∀j,j<k->0<=zs.getD j 0∧zs.getD j 0<=15)) (fun _ _ _ i=>len-(intOf i).toNat)
 case atStart=>exact⟨0,by omega,rfl,by simp[Qj6],by simp[Qdf],by simp[Qm0],fun j hj=>absurd hj (by omega)⟩
 case round=>
  obtain⟨k,hk,rfl,rfl,rfl,rfl,HA⟩:=hrel
  by_cases hlt:k<len
  ·have hkl:(k:Int)<(len:Int):=by omega
   obtain⟨b,off,rfl,hbw,hc⟩:=(HR.out).cells (by rw[<-HL.out];omega)
   have ck:w.cell? ⟨b,off+k,none⟩=some (.int .i64 (zs.getD k 0)):=hc k (by rw[<-HL.out];exact hlt)
   clear hc
   have HZ:Hid (k<zs.length):=by show _<_;rw[<-HL.out];exact hlt
   by_cases hbad:0<=zs.getD k 0∧zs.getD k 0<=15
   ·have HA2:Hid (∀j,j<k+1->0<=zs.getD j 0∧zs.getD j 0<=15):=fun j hj=>by
     by_cases e:j=k
     ·subst e;exact hbad
     ·exact HA.out j (by omega)
    have S1:=hid (Qra (zs.take k) (zs.getD k 0))
    have S2:=hid (Qxn (zs.take k) (zs.getD k 0))
    have S3:=hid (Qzn (zs.take k) (zs.getD k 0))
    rw[<-Qbo zs k HZ.out] at S1 S2 S3
    have hs1:=Xjr (zs.take k)
    have hs2:Qdf (zs.take k)<=(zs.take k).length:=List.countP_le_length
    have hs3:Qm0 (zs.take k)<=(zs.take k).length:=List.countP_le_length
    have hl2:(zs.take k).length<=512:=by rw[List.length_take];omega
    generalize (zs.take k).length=tl at *
    generalize Qj6 (zs.take k)=a1 at *
    generalize Qdf (zs.take k)=a2 at *
    generalize Qm0 (zs.take k)=a3 at *
    by_cases hz:0<zs.getD k 0
    ·obtain⟨l,hlz⟩:∃l:Nat,zs.getD k 0=(l:Int):=⟨(zs.getD k 0).toNat,by omega⟩
     rw[hlz] at ck hz hbad S1 S2 S3
     clear hlz
     rw[if_pos hz,Int.toNat_natCast] at S1
     rw[if_pos hz] at S2
     go_wp2
     go_loop [8,9] (fun x y=>∃(m:Nat),l<=m∧m<=15∧y= .int .i64 m∧x= .int .i64 ((2^(m-l):Nat):Int)) (fun _ y=>15-(intOf y).toNat)
     case atStart=>exact⟨l,by omega,by omega,rfl,by simp⟩
     case round=>
      obtain⟨m,hm1,hm2,rfl,rfl⟩:=hrel
      have hp:2^(m-l)<=2^15:=Nat.pow_le_pow_right (by decide) (by omega)
      by_cases hm:m<15
      ·have hm':(m:Int)<15:=by omega
       have HP:Hid (2^(m+1-l)=2^(m-l)*2):=by
        show _=_
        rw[show m+1-l=(m-l)+1 from by omega,Nat.pow_succ]
       generalize 2^(m-l)=q at *
       go_wp2
       exact⟨⟨m+1,by omega,by omega,by go_num,by rw[HP.out];simp⟩,by simp[intOf];omega⟩
      ·obtain rfl:m=15:=by omega
       generalize 2^(15-l)=q at *
       by_cases h1:l=1
       ·have h1':(l:Int)=1:=by omega
        rw[if_pos h1'] at S3
        have hb:((l:Int)==1)=true:=by simp[h1]
        go_wp2
        exact⟨⟨k+1,by omega,by go_num,by rw[S1.out];simp,by rw[S2.out];simp,by rw[S3.out];simp,HA2⟩,by simp[intOf];omega⟩
       ·have h1':¬(l:Int)=1:=by omega
        rw[if_neg h1'] at S3
        have hb:((l:Int)==1)=false:=by simp;omega
        go_wp2
        exact⟨⟨k+1,by omega,by go_num,by rw[S1.out];simp,by rw[S2.out];simp,by rw[S3.out];simp,HA2⟩,by simp[intOf];omega⟩
    ·have hz0:zs.getD k 0=0:=by omega
     rw[hz0] at ck S1 S2 S3
     clear hz hz0 hbad
     go_wp2
     exact⟨⟨k+1,by omega,by go_num,by rw[S1.out];simp,by rw[S2.out];simp,by rw[S3.out];simp,HA2⟩,by simp[intOf];omega⟩
   ·have E:=hid (Qwy zs k HZ.out hbad)
    clear HZ
    generalize zs.getD k 0=z at *
    by_cases hneg:z<0
    ·go_wp2
     go_ret
     exact⟨by rw[E.out];rfl,rfl⟩
    ·have h15:(15:Int)<z:=by omega
     clear hbad
     go_wp2
     go_ret
     exact⟨by rw[E.out];rfl,rfl⟩
  ·obtain rfl:k=len:=by omega
   have hok:=Xlb zs (by rw[<-HL.out];exact h) (fun j hj=>HA.out j (by rw[HL.out];exact hj))
   have e0:Qb8 zs=if okR zs then 0 else 51:=by unfold Qb8 Qal;rw[hok,Xjp hok];rfl
   rw[show zs.take k=zs from by rw[HL.out];exact List.take_length]
   have b1:(((Qdf zs:Nat):Int)==0)=(Qdf zs==0):=by rw[Bool.eq_iff_iff,beq_iff_eq,beq_iff_eq];omega
   have b2:(((Qdf zs:Nat):Int)==1)=(Qdf zs==1):=by rw[Bool.eq_iff_iff,beq_iff_eq,beq_iff_eq];omega
   have b3:(((Qm0 zs:Nat):Int)==1)=(Qm0 zs==1):=by rw[Bool.eq_iff_iff,beq_iff_eq,beq_iff_eq];omega
   have b4:(((Qj6 zs:Nat):Int)==32768)=(Qj6 zs==32768):=by rw[Bool.eq_iff_iff,beq_iff_eq,beq_iff_eq];omega
   unfold okR at e0
   have E:=hid e0
   clear e0 hok
   generalize (Qdf zs==0)=x1 at *
   generalize (Qdf zs==1)=x2 at *
   generalize (Qm0 zs==1)=x3 at *
   generalize (Qj6 zs==32768)=x4 at *
   generalize ((Qdf zs:Nat):Int)=n1 at *
   generalize ((Qm0 zs:Nat):Int)=n2 at *
   generalize ((Qj6 zs:Nat):Int)=n3 at *
   cases x1<;>cases x2<;>cases x3<;>cases x4<;>(go_wp2;go_ret;exact⟨by rw[E.out];rfl,rfl⟩)
theorem Qr4(a:Option Addr)(cap:Nat)(zs:List Int)(w:World)(hr:Ri w .i64 a cap zs):
 Calls Tryz.prog 112 #[.slice a zs.length cap] w fun e w'=>e= .returned (.int .i64 (Qb8 zs))∧w'=w:=by
 by_cases h:zs.length<=512
 ·exact Qr8 a cap zs w hr h
 ·exact Qtv a cap zs w (by omega)
end
/-
 The document's lengths: so many out of runs.
-/
section
open Go.RowKit Hf
theorem Ri.high{w:World}{kd:IntKind}{a:Option Addr}{cap:Nat}{zs:List Int}(h:Ri w kd a cap zs)(n:Nat)(hn:n<=zs.length):
 ∃a' c',sliced a n zs.length cap 1= .slice a' (zs.drop n).length c'∧Ri w kd a' c' (zs.drop n):=by
 have hl:(zs.drop n).length=zs.length-n:=by simp
 have hroom:=h.room
 have hmost:=h.most
 have e:∀j,(zs.drop n).getD j 0=zs.getD (n+j) 0:=fun j=>by simp[List.getD]
 refine⟨_,cap-n,by rw[hl];rfl,by omega,by omega,fun h0=>?_,fun j=>by rw[e];exact h.fits _⟩
 obtain⟨b,off,rfl,hbw,hc⟩:=h.cells (by omega)
 refine⟨b,off+n,?_,hbw,fun j hj=>?_⟩
 ·rw[if_neg (by omega)]
  simp[WideShapes.add_plain]
 ·rw[e,Nat.add_assoc]
  exact hc (n+j) (by omega)
theorem Qf9(a:Option Addr)(len cap n:Nat)(h:n<=len)(W:World):(Instr.slice 22 (.slice a len cap) (some (.int .i64 (n:Int))) none none).run Tryz.prog W= .ok (sliced a n len cap 1) W:=by
 have:=run_slice_l (P:=Tryz.prog) W 22 a len cap Tryz.underlying22 .i64 (n:Int) (by omega) (by omega)
 rw[this,Int.toNat_natCast]
 rfl
theorem Quu{w:World}{B e k n:Nat}{v:Value}{xs:List Value}(h:w.ownsRow B e k v n xs):∃a c,v= .slice a n c:=by
 rcases h.2 with ⟨hv,h0⟩ | ⟨g',cap',cur',hv,_⟩
 ·exact⟨none,0,by rw[hv,h0]⟩
 ·exact⟨some ⟨g',0,none⟩,cap',hv⟩
theorem Tryz.info3L:(Tryz.prog.info? 3).map (fun i=>(i.zero,i.size,i.bytes))=some (some (.int .i64 0),1,8):=by kernel_rfl
def Qyv(r:Option (List Int×List Int))(len:Nat)(w:World)(e:Ending)(w':World):Prop:=
 Below w.heap.size w w'∧match r with
 | none=>e= .returned (.tuple #[.slice none 0 0,.int .i64 0,.bool false])
 | some (l,rs)=>∃a c,e= .returned (.tuple #[.slice a l.length c,.int .i64 ((len-rs.length:Nat):Int),.bool (Qal l)])∧Ri w' .i64 a c l
theorem Xe2(n f p:Nat)(l zs:List Int)(hl:l.length<n)(hp:zs.length<=p):Qew n f l (zs.drop p)=none:=by
 rw[List.drop_eq_nil_of_le hp]
 cases f with
 | zero=>rfl
 | succ f=>rw[Qdo,if_pos hl]
theorem Xau(n f:Nat)(l zs:List Int)(hl:¬l.length<n):Qew n (f+1) l zs=some (l,zs):=by
 rw[Qdo,if_neg hl]
theorem Xcl(n f p:Nat)(l zs:List Int)(hl:l.length<n)(hp:p<zs.length)(h:¬((Qau 0 0 (zs.drop (p+1))).2.2=0∧1<=(Qau 0 0 (zs.drop (p+1))).1∧(Qau 0 0 (zs.drop (p+1))).1<=((n-l.length:Nat):Int))):Qew n f l (zs.drop p)=none:=by
 cases f with
 | zero=>rfl
 | succ f=>
   rw[Qiq zs p hp,Qdo,if_pos hl]
   dsimp only
   unfold Qgi
   have:=Qep (zs.drop (p+1)) 0 0 (by omega) (by simp) (by omega)
   by_cases hc:(Qau 0 0 (zs.drop (p+1))).2.2=0∧(Qau 0 0 (zs.drop (p+1))).1<=((n-l.length:Nat):Int)
   ·rw[if_pos hc]
    dsimp only
    rw[if_pos (by have:=hc.1;have:=hc.2;by_cases h1:1<=(Qau 0 0 (zs.drop (p+1))).1;exact absurd ⟨hc.1,h1,hc.2⟩ h;omega)]
   ·rw[if_neg hc]
theorem Qw0(n f p m k:Nat)(l zs:List Int)(hl:l.length<n)(hp:p<zs.length)(h0:(Qau 0 0 (zs.drop (p+1))).2.2=0)(h1:(Qau 0 0 (zs.drop (p+1))).1=(m:Int))(hm:1<=m)(h2:m<=n-l.length)(h3:(Qau 0 0 (zs.drop (p+1))).2.1=(k:Int)):Qew n (f+1) l (zs.drop p)=Qew n f (l++List.replicate m (zs.getD p 0)) (zs.drop (p+1+k)):=by
 rw[Qiq zs p hp,Qdo,if_pos hl]
 dsimp only
 unfold Qgi
 rw[if_pos ⟨h0,by rw[h1];omega⟩]
 dsimp only
 rw[h1,h3,Int.toNat_natCast,Int.toNat_natCast,if_neg (by omega),List.drop_drop]
theorem Qvb(a:Option Addr)(cap n:Nat)(zs:List Int)(w:World)(hr:Ri w .u8 a cap zs)(hn:n<=511)(hz:zs.length<=100000):
 Calls Tryz.prog 120 #[.slice a zs.length cap,.int .i64 (n:Int)] w (Qyv (Qkf n zs) zs.length w):=by
 obtain⟨i0,hi,hz0,hz1,hz2⟩:=info_parts Tryz.info3L
 have HR:=hid hr
 have hroom:=hr.room
 have hu:∀j,0<=zs.getD j 0∧zs.getD j 0<=255:=fun j=>wf_u8 (hr.fits j)
 have HU:=hid hu
 obtain⟨R,hR⟩:∃R,R=Qkf n zs:=⟨_,rfl⟩
 have HS:=hid (show Qkf n zs=Qew n (zs.length+1) [] (zs.drop 0) from rfl)
 rw[<-hR] at HS|-
 obtain⟨len,hl⟩:∃n,n=zs.length:=⟨_,rfl⟩
 have HL:=hid hl
 rw[<-hl] at hz hroom|-
 rw[<-hl] at HS
 clear hr hl hu hR
 go_enter Tryz.func120,Tryz.ntmps120
 go_wp2_with fail
 go_loopw [7,8] (fun v x wr=>∃(p f:Nat) (l:List Int),x= .int .i64 (p:Int)∧p<=len∧l.length<=n∧Hid (R=Qew n (f+1) l (zs.drop p))∧Hid (len<=p+f)∧Hid (wr.ownsRow w.heap.size 3 1 v l.length (l.map (Value.int .i64)))∧Hid (Below w.heap.size w wr)∧Hid (∀j,0<=l.getD j 0∧l.getD j 0<=255)) (fun _ x _=>len-(intOf x).toNat)
 case atStart=>exact⟨0,len,[],rfl,by omega,by simp,HS,by show _<=_;omega,World.ownsRow_nil _ _ _ _,Below.refl _ _,fun j=>by simp⟩
 case round=>
  clear HS
  obtain⟨p,f,l,rfl,hp,hln,HS,HF,HO,HB,HLU⟩:=hrel
  obtain⟨a7,c7,rfl⟩:=Quu HO.out
  obtain⟨ll,hll⟩:∃n,n=l.length:=⟨_,rfl⟩
  have HLL:=hid hll
  rw[<-hll] at HO hln|-
  clear hll
  by_cases hlt:ll<n
  ·have hltz:(ll:Int)<(n:Int):=by omega
   by_cases hpl:p<len
   ·have hplz:¬(len:Int)<=(p:Int):=by omega
    obtain⟨b,off,ha,hbw,hc⟩:=HR.out.cells (by rw[<-HL.out];omega)
    have ck:=(HB.out.cell (p:=⟨b,off+p,none⟩) hbw).trans (hc p (by rw[<-HL.out];exact hpl))
    obtain⟨a2,c2,hsl,hr2⟩:=(HR.out.later HB.out).high (p+1) (by rw[<-HL.out];omega)
    have HRD:=hid (Qml a2 c2 _ wr hr2)
    have hrg:=Qep (zs.drop (p+1)) 0 0 (by omega) (by simp) (by omega)
    have hsh:=fun W=>Qf9 a len cap (p+1) (by omega) W
    have HBD:=hid (fun h=>Xcl n (f+1) p l zs (by rw[<-HLL.out];exact hlt) (by rw[<-HL.out];exact hpl) h)
    have HGD:=hid (fun m k=>Qw0 n f p m k l zs (by rw[<-HLL.out];exact hlt) (by rw[<-HL.out];exact hpl))
    rw[<-HL.out] at hsl
    have hxu:=HU.out p
    rw[hsl] at hsh
    rw[List.length_drop,<-HL.out] at hrg
    subst ha
    obtain⟨dl,hdl⟩:∃n,n=(zs.drop (p+1)).length:=⟨_,rfl⟩
    have hdl2:dl=len-(p+1):=by rw[hdl,List.length_drop,<-HL.out]
    rw[<-hdl] at hsh HRD
    clear hdl hsl hr2 hc
    generalize Qau 0 0 (zs.drop (p+1))=r at *
    obtain⟨x,u,e⟩:=r
    dsimp only at *
    rw[<-HLL.out] at HBD HGD
    generalize zs.getD p 0=z at *
    obtain⟨q,hq⟩:∃q:Nat,q=p+1:=⟨_,rfl⟩
    have hqi:(p:Int)+1=(q:Int):=by omega
    rw[<-hq] at hsh
    have hq':q<=len:=by omega
    have HQ:=hid hq
    have hwz:wrap64 z=z:=Qfn (by omega) (by omega)
    clear hdl2 hq
    have HRG:=hid hrg
    have HXU:=hid hxu
    clear hrg hxu
    go_wp2_with fail
    refine HRD.out.mono ?_
    rintro _ w1 ⟨rfl,hw⟩
    obtain rfl:=hw.symm
    clear hw HRD hsh ck hwz
    by_cases hgood:e=0∧1<=x∧x<=((n-ll:Nat):Int)
    ·obtain⟨rfl,hx1,hx2⟩:=hgood
     obtain⟨m,hm⟩:=Int.eq_ofNat_of_zero_le (show 0<=x by omega)
     subst hm
     obtain⟨k,hk⟩:=Int.eq_ofNat_of_zero_le (show 0<=u by have:=HRG.out;omega)
     subst hk
     have HNX:=hid (HGD.out m k rfl rfl (by omega) (by omega) rfl)
     obtain⟨r,hr⟩:∃r:Nat,r=n-ll:=⟨_,rfl⟩
     have hri:(n:Int)-(ll:Int)=(r:Int):=by omega
     have g1:decide ((m:Int)<1)=false:=decide_eq_false (by omega)
     have g2:decide ((r:Int)<(m:Int))=false:=decide_eq_false (by omega)
     have g1n:decide (m<1)=false:=decide_eq_false (by omega)
     have g2n:decide (r<m)=false:=decide_eq_false (by omega)
     have g1p:¬(m:Int)<1:=by omega
     have g2p:¬(r:Int)<(m:Int):=by omega
     have HM:Hid (1<=m∧m<=n-ll):=by show _∧_;omega
     have HK:Hid (k<=len-(p+1)):=by show _<=_;have:=HRG.out;omega
     clear hx1 hx2 HBD HGD HRG hr
     go_wp2_with fail
     go_loopw [7,13] (fun v y wr2=>∃i:Nat,i<=m∧y= .int .u64 (i:Int)∧Hid (wr2.ownsRow w.heap.size 3 1 v (ll+i) ((l++List.replicate i z).map (Value.int .i64)))∧Hid (Below w.heap.size w wr2)) (fun _ y _=>m-(intOf y).toNat)
     case atStart=>exact⟨0,by omega,rfl,by show World.ownsRow _ _ _ _ _ _ _;simpa using HO.out,HB.out⟩
     case round=>
      clear HO HB
      obtain⟨i,him,rfl,HO,HB⟩:=hrel
      obtain⟨a8,c8,rfl⟩:=Quu HO.out
      by_cases hil:i<m
      ·have g3:decide ((i:Int)<(m:Int))=true:=decide_eq_true (by omega)
       have hm9:=HM.out
       have g3n:decide (i<m)=true:=decide_eq_true hil
       have g3p:(i:Int)<(m:Int):=by omega
       have hi9:(i:Int)+1<18446744073709551616:=by omega
       go_wp2_with (at_builtin;refine wpList_append_own _ rfl _ _ 112 rfl w.heap.size 3 i0 (.int .i64 0) 1 8 Tryz.underlying112 hi hz0 hz1 hz2 rfl (by decide) _ _ _ rfl (HO.out.alloc _) ⟨wr.heap.size,0,none⟩ 1 1 [.int .i64 z] rfl rfl ?c1 ?c2 ?c3 ?c4 ?c5 ?_)
       case c1=>
        intro j u hj
        match j,hj with
        | 0,hj=>simp at hj;subst hj;simp[Addr.add]
       case c2=>intro u hu;simp at hu;subst hu;rfl
       case c3=>unfold maxLen;omega
       case c4=>omega
       case c5=>have:=HB.out.size;simp;omega
       intro v1 w1 hown0 hgrow _
       have HB1:=hid ((HB.out.alloc HB.out.size _).grown hgrow (by have:=HB.out.size;simp;omega) (fun j hj=>(HO.out.lt j hj).1))
       have HO1:Hid (w1.ownsRow w.heap.size 3 1 v1 (ll+(i+1)) ((l++List.replicate (i+1) z).map (Value.int .i64))):=by
        show World.ownsRow _ _ _ _ _ _ _
        rw[List.replicate_succ',List.map_append,List.map_append,List.map_replicate]
        exact hown0
       clear hown0 hgrow HO HB
       go_wp2
       exact⟨⟨i+1,by omega,by go_num,HO1.out,HB1.out⟩,by simp[intOf];omega⟩
      ·obtain rfl:i=m:=by omega
       have g3:decide ((i:Int)<(i:Int))=false:=decide_eq_false (by omega)
       have g3n:decide (i<i)=false:=decide_eq_false (by omega)
       have g3p:¬(i:Int)<(i:Int):=by omega
       obtain⟨t,ht⟩:∃t:Nat,t=p+1+k:=⟨_,rfl⟩
       have hti:(q:Int)+(k:Int)=(t:Int):=by have:=HQ.out;omega
       have HT:=hid ht
       have htl:t<=len:=by have:=HK.out;omega
       have HE:Hid (R=Qew n (f-1+1) (l++List.replicate i z) (zs.drop t)):=by
        show _=_
        rw[HS.out,HNX.out,show f-1+1=f from by have:=HF.out;omega,HT.out]
       have HF2:Hid (len<=t+(f-1)):=by show _<=_;have:=HF.out;omega
       have HLE:Hid (ll+i=(l++List.replicate i z).length):=by show _=_;rw[List.length_append,List.length_replicate,<-HLL.out]
       have HLU2:Hid (∀j,0<=(l++List.replicate i z).getD j 0∧(l++List.replicate i z).getD j 0<=255):=fun j=>by
        by_cases h1:j<l.length
        ·rw[List.getD_eq_getElem?_getD,List.getElem?_append_left h1,<-List.getD_eq_getElem?_getD];exact HLU.out j
        ·rw[List.getD_eq_getElem?_getD,List.getElem?_append_right (by omega),List.getElem?_replicate]
         split
         ·exact HXU.out
         ·simp
       have hpt:p<t:=by omega
       clear ht HS HNX HF HK
       go_wp2
       refine⟨⟨t,f-1,l++List.replicate i z,rfl,htl,by rw[<-HLE.out];have:=HM.out;omega,HE,HF2,by rw[<-HLE.out];exact HO.out,HB.out,HLU2⟩,by simp[intOf];omega⟩
    ·have HN:Hid (R=none):=HS.out.trans (HBD.out hgood)
     clear HBD HGD HS
     by_cases he:e=0
     ·subst he
      by_cases hx1:1<=x
      ·have hx2:¬x<=((n-ll:Nat):Int):=fun h=>hgood ⟨rfl,hx1,h⟩
       obtain⟨r,hr⟩:∃r:Nat,r=n-ll:=⟨_,rfl⟩
       have hri:(n:Int)-(ll:Int)=(r:Int):=by omega
       have g1:decide (x<1)=false:=decide_eq_false (by omega)
       have g2:decide ((r:Int)<x)=true:=decide_eq_true (by omega)
       clear hx1 hx2 HRG hr hgood
       go_wp2_with fail
       go_ret3
       rw[HN.out]
       exact⟨HB.out,rfl⟩
      ·have g1:decide (x<1)=true:=decide_eq_true (by omega)
       clear hx1 HRG hgood
       go_wp2_with fail
       go_ret3
       rw[HN.out]
       exact⟨HB.out,rfl⟩
     ·have g0:(e != 0)=true:=by rw[bne_iff_ne];exact he
      clear he HRG hgood
      go_wp2_with fail
      go_ret3
      rw[HN.out]
      exact⟨HB.out,rfl⟩
   ·have hplz:(len:Int)<=(p:Int):=by omega
    have HN:Hid (R=none):=HS.out.trans (Xe2 n (f+1) p l zs (by rw[<-HLL.out];exact hlt) (by rw[<-HL.out];omega))
    clear HS
    go_wp2_with fail
    go_ret3
    rw[HN.out]
    exact⟨HB.out,rfl⟩
  ·have hltz:¬(ll:Int)<(n:Int):=by omega
   have HN:Hid (R=some (l,zs.drop p)):=HS.out.trans (Xau n f l (zs.drop p) (by rw[<-HLL.out];exact hlt))
   have HRI:Hid (Ri wr .i64 a7 c7 l):=by
    have h0:=HO.out
    rw[HLL.out] at h0
    obtain⟨a',c',e',h'⟩:=Ri.own h0 (fun j=>Qbz (by have:=HLU.out j;omega) (by have:=HLU.out j;omega))
    injection e' with e1 e2 e3
    subst e1 e3
    exact h'
   have HCK:=hid (Qr4 a7 c7 l wr HRI.out)
   rw[<-HLL.out] at HCK
   have HCB:Hid ((Qb8 l==0)=Qal l):=by show _=_;unfold Qb8;cases Qal l<;>rfl
   clear HS
   generalize Qb8 l=cf at *
   go_wp2_with fail
   refine HCK.out.mono ?_
   rintro _ w1 ⟨rfl,hw⟩
   obtain rfl:=hw.symm
   clear hw HCK
   go_wp2_with fail
   go_ret3
   rw[HN.out]
   refine⟨HB.out,a7,c7,?_,HRI.out⟩
   rw[<-HCB.out,<-HLL.out,List.length_drop,<-HL.out,show len-(len-p)=p from by omega]
   rfl
end
end Go.Proofs.YtibjlbcnapoblaaGreatDoor
