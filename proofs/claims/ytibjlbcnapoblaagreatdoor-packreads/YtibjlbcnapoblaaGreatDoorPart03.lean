/-
 What the document's reader finds at a place of the bits.
-/
import Derived.Test.YtibjlbcnapoblaaGreatDoorPart02
namespace Go.Proofs.YtibjlbcnapoblaaGreatDoor
set_option maxRecDepth 100000
set_option maxHeartbeats 6400000
section
open Hf
theorem Qtk(x:Nat):∀n i,i<n->(low x n).getD i 0=x/2^(n-1-i)%2
 | 0,_,h=>absurd h (Nat.not_lt_zero _)
 | n+1,0,_=>by simp[low]
 | n+1,i+1,h=>by
   rw[show(low x (n+1)).getD (i+1) 0=(low x n).getD i 0 from by simp[low,List.getD],Qtk x n i (by omega),show n+1-1-(i+1)=n-1-i from by omega]
theorem Qti:∀(b:List Int) (i:Nat),i<8*b.length->(bytB b).getD i 0=bitV b i
 | [],i,h=>absurd h (by simp)
 | z::b,i,h=>by
   rw[show bytB (z::b)=low z.toNat 8++bytB b from rfl]
   by_cases h8:i<8
   ·rw[show(low z.toNat 8++bytB b).getD i 0=(low z.toNat 8).getD i 0 from by simp[List.getD,List.getElem?_append_left (show i<(low z.toNat 8).length by rw[Qa4];exact h8)],Qtk _ _ _ h8]
    unfold bitV
    rw[show i/8=0 from by omega,show i%8=i from by omega,show 8-1-i=7-i from by omega]
    rfl
   ·rw[show(low z.toNat 8++bytB b).getD i 0=(bytB b).getD (i-8) 0 from by simp[List.getD,List.getElem?_append_right (show(low z.toNat 8).length<=i by rw[Qa4];omega),Qa4],Qti b (i-8) (by rw[List.length_cons] at h;omega)]
    unfold bitV
    rw[show i/8=(i-8)/8+1 from by omega,show(i-8)%8=i%8 from by omega]
    rfl
theorem Qw5(b:List Int)(at':Nat):∀l,at'+l<=8*b.length->vb b at' l=numG 0 (((bytB b).drop at').take l)
 | 0,_=>by simp[vb,numG]
 | l+1,h=>by
   have hl:at'+l<(bytB b).length:=by rw[Qg5];omega
   have e:((bytB b).drop at').take (l+1)=((bytB b).drop at').take l++ [(bytB b).getD (at'+l) 0]:=by
    rw[List.take_succ_eq_append_getElem (by rw[List.length_drop];omega),List.getElem_drop]
    simp[List.getD,List.getElem?_eq_getElem hl]
   rw[e,Qjq,Qti _ _ (by omega),vb,Qw5 b at' l (by omega)]
   simp[numG]
theorem Qpq(b:List Int)(at' c l:Nat)(r:List Nat)(h:(bytB b).drop at'=low c l++r):at'+l<=8*b.length∨l=0:=by
 by_cases h0:l=0
 ·exact .inr h0
 ·have:=congrArg List.length h
  rw[List.length_drop,Qg5,List.length_append,Qa4] at this
  exact .inl (by omega)
theorem Xhp(b:List Int)(at' c l:Nat)(r:List Nat)(h:(bytB b).drop at'=low c l++r)(hc:c<2^l):vb b at' l=c:=by
 rcases Qpq b at' c l r h with h1 | h1
 ·rw[Qw5 b at' l h1,h,show(low c l++r).take l=low c l from by
   have:=List.take_left (l₁:=low c l) (l₂:=r)
   rwa[Qa4] at this,Qj0,Nat.mod_eq_of_lt hc]
 ·subst h1
  have:c=0:=by simpa using hc
  rw[this];rfl
theorem Qrk(zs b:List Int)(hc:Qal zs=true)(at' s L:Nat)(r:List Nat)(hs:s<zs.length)(hz:zs.getD s 0=(L:Int))(h0:0<L)(hL:L<=15)(h:(bytB b).drop at'=low (Qbv zs s) L++r):oneF zs b at'=((s:Int),(L:Int)):=by
 have hlt:=Qhz hc s L hs hz h0 hL
 refine Xcn zs b at' s L hs hz (by omega) h0 ?_ (Xhp b at' _ _ r h hlt)
 rcases Qpq b at' _ _ r h with h1 | h1
 ·exact h1
 ·omega
theorem Qka(b:List Int)(at' c l:Nat)(r:List Nat)(h:(bytB b).drop at'=low c l++r):(bytB b).drop (at'+l)=r:=by
 rw[<-List.drop_drop,h]
 have:=List.drop_left (l₁:=low c l) (l₂:=r)
 rwa[Qa4] at this
end
/-
 The document's reader of tokens, on rows of bytes: it reads what stands there as tokens' bits.
-/
section
open Hf
def tokD(ls ds b:List Int)(at':Nat):Option ((Int×Int×Int)×Nat):=
 if (oneF ls b at').1<0 then none
 else if (oneF ls b at').1<256 then some ((0,1,(oneF ls b at').1),at'+(oneF ls b at').2.toNat)
 else if (oneF ds b (at'+(oneF ls b at').2.toNat)).1<0∨8*b.length<at'+(oneF ls b at').2.toNat+(oneF ds b (at'+(oneF ls b at').2.toNat)).2.toNat+(oneF ds b (at'+(oneF ls b at').2.toNat)).1.toNat then none
 else some (((2^(oneF ds b (at'+(oneF ls b at').2.toNat)).1.toNat+vb b (at'+(oneF ls b at').2.toNat+(oneF ds b (at'+(oneF ls b at').2.toNat)).2.toNat) (oneF ds b (at'+(oneF ls b at').2.toNat)).1.toNat:Nat),(oneF ls b at').1-252,0),at'+(oneF ls b at').2.toNat+(oneF ds b (at'+(oneF ls b at').2.toNat)).2.toNat+(oneF ds b (at'+(oneF ls b at').2.toNat)).1.toNat)
def Qez(ls ds b:List Int):Nat->Nat->List (Int×Int×Int)->Option (List (Int×Int×Int)×Nat)
 | 0,at',acc=>some (acc,at')
 | n+1,at',acc=>match tokD ls ds b at' with
   | none=>none
   | some (t,p)=>Qez ls ds b n p (acc++ [t])
theorem Xh8(b:List Int)(at' c l:Nat)(r:List Nat)(h:(bytB b).drop at'=low c l++r):vb b at' l=c%2^l:=by
 rcases Qpq b at' c l r h with h1 | h1
 ·rw[Qw5 b at' l h1,h,show(low c l++r).take l=low c l from by
   have:=List.take_left (l₁:=low c l) (l₂:=r)
   rwa[Qa4] at this,Qj0]
 ·subst h1
  simp[vb,Nat.mod_one]
theorem Xco(ls ds b:List Int)(hc:Qal ls=true)(at' x L:Nat)(r:List Nat)(hx:x<256)(hs:x<ls.length)(hz:ls.getD x 0=(L:Int))(h0:0<L)(hL:L<=15)(h:(bytB b).drop at'=low (Qbv ls x) L++r):
 tokD ls ds b at'=some ((0,1,(x:Int)),at'+L)∧(bytB b).drop (at'+L)=r:=by
 have h1:=Qrk ls b hc at' x L r hs hz h0 hL h
 refine⟨?_,Qka b at' _ L r h⟩
 unfold tokD
 rw[h1]
 dsimp only
 rw[if_neg (by omega),if_pos (by omega),Int.toNat_natCast]
theorem Xa2(ls ds b:List Int)(hc:Qal ls=true)(hd:Qal ds=true)(at' s L k K d:Nat)(r:List Nat)(hs:s<ls.length)(hz:ls.getD s 0=(L:Int))(h0:0<L)(hL:L<=15)(h256:256<=s)(hk:k<ds.length)(hK:ds.getD k 0=(K:Int))(k0:0<K)(hK2:K<=15)(hdk:2^k<=d∧d<2^(k+1))(h:(bytB b).drop at'=low (Qbv ls s) L++(low (Qbv ds k) K++(low d k++r))):
 tokD ls ds b at'=some (((d:Int),(s:Int)-252,0),at'+L+K+k)∧(bytB b).drop (at'+L+K+k)=r:=by
 have h1:=Qrk ls b hc at' s L _ hs hz h0 hL h
 have d1:=Qka b at' _ L _ h
 have h2:=Qrk ds b hd (at'+L) k K _ hk hK k0 hK2 d1
 have d2:=Qka b (at'+L) _ K _ d1
 have h3:=Xh8 b (at'+L+K) d k r d2
 have d3:=Qka b (at'+L+K) _ k r d2
 refine⟨?_,d3⟩
 have hv:2^k+d%2^k=d:=by
  rw[Nat.pow_succ] at hdk
  have e:d/2^k=1:=by
   rw[Nat.div_eq_iff (Nat.two_pow_pos k)]
   omega
  have:=Nat.div_add_mod d (2^k)
  rw[e,Nat.mul_one] at this
  exact this
 have hb:¬8*b.length<at'+L+K+k:=by
  rcases Qpq b (at'+L+K) d k r d2 with h9 | h9
  ·omega
  ·rcases Qpq b (at'+L) _ K _ d1 with h8 | h8<;>omega
 unfold tokD
 simp only[h1,Int.toNat_natCast,h2,h3]
 rw[if_neg (by omega),if_neg (by omega),if_neg (by rintro (h9 | h9);omega;exact hb h9),hv]
theorem Qpf(ls ds b:List Int)(f:Int×Int×Int->List Nat):∀(l:List (Int×Int×Int)),(∀t∈l,∀at' r,(bytB b).drop at'=f t++r->∃p,tokD ls ds b at'=some (t,p)∧(bytB b).drop p=r) ->
 ∀at' r acc,(bytB b).drop at'=l.flatMap f++r->∃p,Qez ls ds b l.length at' acc=some (acc++l,p)∧(bytB b).drop p=r
 | [],_,at',r,acc,h=>⟨at',by simp[Qez],h⟩
 | t::l,hl,at',r,acc,h=>by
   rw[List.flatMap_cons,List.append_assoc] at h
   obtain⟨p,h1,h2⟩:=hl t (by simp) at' _ h
   obtain⟨q,h3,h4⟩:=Qpf ls ds b f l (fun u hu=>hl u (by simp[hu])) p r (acc++ [t]) h2
   refine⟨q,?_,h4⟩
   rw[List.length_cons,Qez,h1]
   dsimp only
   rw[h3,List.append_assoc,List.singleton_append]
theorem Qpj(ls ds b:List Int):∀n at' acc l p,Qez ls ds b n at' acc=some (l,p)->l.length=acc.length+n
 | 0,at',acc,l,p,h=>by
   simp only[Qez,Option.some.injEq,Prod.mk.injEq] at h
   rw[<-h.1];rfl
 | n+1,at',acc,l,p,h=>by
   rw[Qez] at h
   split at h
   ·cases h
   ·have:=Qpj ls ds b n _ _ l p h
    rw[this,List.length_append,List.length_singleton]
    omega
end
end Go.Proofs.YtibjlbcnapoblaaGreatDoor
