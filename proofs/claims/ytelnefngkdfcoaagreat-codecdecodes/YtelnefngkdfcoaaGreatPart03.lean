/-
 The document's reader of tokens, on rows of bytes: it reads what stands there as tokens' bits.
-/
import Derived.Test.YtelnefngkdfcoaaGreatPart02
namespace Go.Proofs.YtelnefngkdfcoaaGreat
open Hf
def tokD(ls ds b:List Int)(at':Nat):Option ((Int×Int×Int)×Nat):=
 if (oneF ls b at').1<0 then none
 else if (oneF ls b at').1<256 then some ((0,1,(oneF ls b at').1),at'+(oneF ls b at').2.toNat)
 else if (oneF ds b (at'+(oneF ls b at').2.toNat)).1<0∨8*b.length<at'+(oneF ls b at').2.toNat+(oneF ds b (at'+(oneF ls b at').2.toNat)).2.toNat+(oneF ds b (at'+(oneF ls b at').2.toNat)).1.toNat then none
 else some (((2^(oneF ds b (at'+(oneF ls b at').2.toNat)).1.toNat+vb b (at'+(oneF ls b at').2.toNat+(oneF ds b (at'+(oneF ls b at').2.toNat)).2.toNat) (oneF ds b (at'+(oneF ls b at').2.toNat)).1.toNat:Nat),(oneF ls b at').1-252,0),at'+(oneF ls b at').2.toNat+(oneF ds b (at'+(oneF ls b at').2.toNat)).2.toNat+(oneF ds b (at'+(oneF ls b at').2.toNat)).1.toNat)
def toksD(ls ds b:List Int):Nat->Nat->List (Int×Int×Int)->Option (List (Int×Int×Int)×Nat)
 | 0,at',acc=>some (acc,at')
 | n+1,at',acc=>match tokD ls ds b at' with
   | none=>none
   | some (t,p)=>toksD ls ds b n p (acc++ [t])
theorem vb_mod(b:List Int)(at' c l:Nat)(r:List Nat)(h:(bytB b).drop at'=low c l++r):vb b at' l=c%2^l:=by
 rcases vb_low b at' c l r h with h1 | h1
 ·rw[vb_num b at' l h1,h,show(low c l++r).take l=low c l from by
   have:=List.take_left (l₁:=low c l) (l₂:=r)
   rwa[low_length] at this,numG_low]
 ·subst h1
  simp[vb,Nat.mod_one]
theorem tokD_lit(ls ds b:List Int)(hc:checkB ls=true)(at' x L:Nat)(r:List Nat)(hx:x<256)(hs:x<ls.length)(hz:ls.getD x 0=(L:Int))(h0:0<L)(hL:L<=15)(h:(bytB b).drop at'=low (codeN ls x) L++r):
 tokD ls ds b at'=some ((0,1,(x:Int)),at'+L)∧(bytB b).drop (at'+L)=r:=by
 have h1:=one_low ls b hc at' x L r hs hz h0 hL h
 refine⟨?_,drop_low b at' _ L r h⟩
 unfold tokD
 rw[h1]
 dsimp only
 rw[if_neg (by omega),if_pos (by omega),Int.toNat_natCast]
theorem tokD_copy(ls ds b:List Int)(hc:checkB ls=true)(hd:checkB ds=true)(at' s L k K d:Nat)(r:List Nat)(hs:s<ls.length)(hz:ls.getD s 0=(L:Int))(h0:0<L)(hL:L<=15)(h256:256<=s)(hk:k<ds.length)(hK:ds.getD k 0=(K:Int))(k0:0<K)(hK2:K<=15)(hdk:2^k<=d∧d<2^(k+1))(h:(bytB b).drop at'=low (codeN ls s) L++(low (codeN ds k) K++(low d k++r))):
 tokD ls ds b at'=some (((d:Int),(s:Int)-252,0),at'+L+K+k)∧(bytB b).drop (at'+L+K+k)=r:=by
 have h1:=one_low ls b hc at' s L _ hs hz h0 hL h
 have d1:=drop_low b at' _ L _ h
 have h2:=one_low ds b hd (at'+L) k K _ hk hK k0 hK2 d1
 have d2:=drop_low b (at'+L) _ K _ d1
 have h3:=vb_mod b (at'+L+K) d k r d2
 have d3:=drop_low b (at'+L+K) _ k r d2
 refine⟨?_,d3⟩
 have hv:2^k+d%2^k=d:=by
  rw[Nat.pow_succ] at hdk
  have e:d/2^k=1:=by
   rw[Nat.div_eq_iff (Nat.two_pow_pos k)]
   omega
  have:=Nat.div_add_mod d (2^k)
  rw[e,Nat.mul_one] at this
  exact this
 have hb:¬8*b.length<at'+L+K+k:=by
  rcases vb_low b (at'+L+K) d k r d2 with h9 | h9
  ·omega
  ·rcases vb_low b (at'+L) _ K _ d1 with h8 | h8<;>omega
 unfold tokD
 simp only[h1,Int.toNat_natCast,h2,h3]
 rw[if_neg (by omega),if_neg (by omega),if_neg (by rintro (h9 | h9);omega;exact hb h9),hv]
theorem toksD_all(ls ds b:List Int)(f:Int×Int×Int->List Nat):∀(l:List (Int×Int×Int)),(∀t∈l,∀at' r,(bytB b).drop at'=f t++r->∃p,tokD ls ds b at'=some (t,p)∧(bytB b).drop p=r) ->
 ∀at' r acc,(bytB b).drop at'=l.flatMap f++r->∃p,toksD ls ds b l.length at' acc=some (acc++l,p)∧(bytB b).drop p=r
 | [],_,at',r,acc,h=>⟨at',by simp[toksD],h⟩
 | t::l,hl,at',r,acc,h=>by
   rw[List.flatMap_cons,List.append_assoc] at h
   obtain⟨p,h1,h2⟩:=hl t (by simp) at' _ h
   obtain⟨q,h3,h4⟩:=toksD_all ls ds b f l (fun u hu=>hl u (by simp[hu])) p r (acc++ [t]) h2
   refine⟨q,?_,h4⟩
   rw[List.length_cons,toksD,h1]
   dsimp only
   rw[h3,List.append_assoc,List.singleton_append]
theorem toksD_len(ls ds b:List Int):∀n at' acc l p,toksD ls ds b n at' acc=some (l,p)->l.length=acc.length+n
 | 0,at',acc,l,p,h=>by
   simp only[toksD,Option.some.injEq,Prod.mk.injEq] at h
   rw[<-h.1];rfl
 | n+1,at',acc,l,p,h=>by
   rw[toksD] at h
   split at h
   ·cases h
   ·have:=toksD_len ls ds b n _ _ l p h
    rw[this,List.length_append,List.length_singleton]
    omega
end Go.Proofs.YtelnefngkdfcoaaGreat
