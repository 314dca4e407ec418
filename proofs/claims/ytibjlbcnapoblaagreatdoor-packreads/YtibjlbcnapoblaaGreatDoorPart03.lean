/- Contracts and facts. -/
import Derived.Test.YtibjlbcnapoblaaGreatDoorPart02
namespace Go.Proofs.YtibjlbcnapoblaaGreatDoor
set_option maxRecDepth 100000
set_option maxHeartbeats 6400000
section
open Hf
def Qod(ls ds b:List Int)(at':Nat):Option ((Int×Int×Int)×Nat):=
 if (Qed ls b at').1<0 then none
 else if (Qed ls b at').1<256 then some ((0,1,(Qed ls b at').1),at'+(Qed ls b at').2.toNat)
 else if (Qed ds b (at'+(Qed ls b at').2.toNat)).1<0∨8*b.length<at'+(Qed ls b at').2.toNat+(Qed ds b (at'+(Qed ls b at').2.toNat)).2.toNat+(Qed ds b (at'+(Qed ls b at').2.toNat)).1.toNat then none
 else some (((2^(Qed ds b (at'+(Qed ls b at').2.toNat)).1.toNat+vb b (at'+(Qed ls b at').2.toNat+(Qed ds b (at'+(Qed ls b at').2.toNat)).2.toNat) (Qed ds b (at'+(Qed ls b at').2.toNat)).1.toNat:Nat),(Qed ls b at').1-252,0),at'+(Qed ls b at').2.toNat+(Qed ds b (at'+(Qed ls b at').2.toNat)).2.toNat+(Qed ds b (at'+(Qed ls b at').2.toNat)).1.toNat)
def Qe8(ls ds b:List Int):Nat->Nat->List (Int×Int×Int)->Option (List (Int×Int×Int)×Nat)
 | 0,at',acc=>some (acc,at')
 | n+1,at',acc=>match Qod ls ds b at' with
   | none=>none
   | some (t,p)=>Qe8 ls ds b n p (acc++ [t])
theorem Xkh(b:List Int)(at' c l:Nat)(r:List Nat)(h:(Qgg b).drop at'=low c l++r):vb b at' l=c%2^l:=by
 rcases Qqv b at' c l r h with h1 | h1
 ·rw[Xbl b at' l h1,h,show(low c l++r).take l=low c l from by
   have:=List.take_left (l₁:=low c l) (l₂:=r)
   rwa[Qa2] at this,Qkp]
 ·subst h1
  simp[vb,Nat.mod_one]
theorem Xfm(ls ds b:List Int)(hc:Qal ls=true)(at' x L:Nat)(r:List Nat)(hx:x<256)(hs:x<ls.length)(hz:ls.getD x 0=(L:Int))(h0:0<L)(hL:L<=15)(h:(Qgg b).drop at'=low (Qbt ls x) L++r):
 Qod ls ds b at'=some ((0,1,(x:Int)),at'+L)∧(Qgg b).drop (at'+L)=r:=by
 have h1:=Qto ls b hc at' x L r hs hz h0 hL h
 refine⟨?_,Qkx b at' _ L r h⟩
 unfold Qod
 rw[h1]
 dsimp only
 rw[if_neg (by omega),if_pos (by omega),Int.toNat_natCast]
theorem Qy5(ls ds b:List Int)(hc:Qal ls=true)(hd:Qal ds=true)(at' s L k K d:Nat)(r:List Nat)(hs:s<ls.length)(hz:ls.getD s 0=(L:Int))(h0:0<L)(hL:L<=15)(h256:256<=s)(hk:k<ds.length)(hK:ds.getD k 0=(K:Int))(k0:0<K)(hK2:K<=15)(hdk:2^k<=d∧d<2^(k+1))(h:(Qgg b).drop at'=low (Qbt ls s) L++(low (Qbt ds k) K++(low d k++r))):
 Qod ls ds b at'=some (((d:Int),(s:Int)-252,0),at'+L+K+k)∧(Qgg b).drop (at'+L+K+k)=r:=by
 have h1:=Qto ls b hc at' s L _ hs hz h0 hL h
 have d1:=Qkx b at' _ L _ h
 have h2:=Qto ds b hd (at'+L) k K _ hk hK k0 hK2 d1
 have d2:=Qkx b (at'+L) _ K _ d1
 have h3:=Xkh b (at'+L+K) d k r d2
 have d3:=Qkx b (at'+L+K) _ k r d2
 refine⟨?_,d3⟩
 have hv:2^k+d%2^k=d:=by
  rw[Nat.pow_succ] at hdk
  have e:d/2^k=1:=by
   rw[Nat.div_eq_iff (Nat.two_pow_pos k)]
   omega
  have:=Nat.div_add_mod d (2^k)
  rw[e,Nat.mul_one] at this
  exact this
 have hb:¬8*b.length<at'+L+K+k:=by
  rcases Qqv b (at'+L+K) d k r d2 with h9 | h9
  ·omega
  ·rcases Qqv b (at'+L) _ K _ d1 with h8 | h8<;>omega
 unfold Qod
 simp only[h1,Int.toNat_natCast,h2,h3]
 rw[if_neg (by omega),if_neg (by omega),if_neg (by rintro (h9 | h9);omega;exact hb h9),hv]
theorem Qrg(ls ds b:List Int)(f:Int×Int×Int->List Nat):∀(l:List (Int×Int×Int)),(∀t∈l,∀at' r,(Qgg b).drop at'=f t++r->∃p,Qod ls ds b at'=some (t,p)∧(Qgg b).drop p=r) ->
 ∀at' r acc,(Qgg b).drop at'=l.flatMap f++r->∃p,Qe8 ls ds b l.length at' acc=some (acc++l,p)∧(Qgg b).drop p=r
 | [],_,at',r,acc,h=>⟨at',by simp[Qe8],h⟩
 | t::l,hl,at',r,acc,h=>by
   rw[List.flatMap_cons,List.append_assoc] at h
   obtain⟨p,h1,h2⟩:=hl t (by simp) at' _ h
   obtain⟨q,h3,h4⟩:=Qrg ls ds b f l (fun u hu=>hl u (by simp[hu])) p r (acc++ [t]) h2
   refine⟨q,?_,h4⟩
   rw[List.length_cons,Qe8,h1]
   dsimp only
   rw[h3,List.append_assoc,List.singleton_append]
theorem Qq2(ls ds b:List Int):∀n at' acc l p,Qe8 ls ds b n at' acc=some (l,p)->l.length=acc.length+n
 | 0,at',acc,l,p,h=>by
   simp only[Qe8,Option.some.injEq,Prod.mk.injEq] at h
   rw[<-h.1];rfl
 | n+1,at',acc,l,p,h=>by
   rw[Qe8] at h
   split at h
   ·cases h
   ·have:=Qq2 ls ds b n _ _ l p h
    rw[this,List.length_append,List.length_singleton]
    omega
end
end Go.Proofs.YtibjlbcnapoblaaGreatDoor
