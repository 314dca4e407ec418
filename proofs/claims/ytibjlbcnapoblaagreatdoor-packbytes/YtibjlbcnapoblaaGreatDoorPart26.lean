/- Contracts and facts. -/
import Derived.Test.YtibjlbcnapoblaaGreatDoorPart25
import Derived.Test.YtibjlbcnapoblaaGreatDoorPart10
import Derived.Deep.OwnRows
import Derived.Deep.MidRow
namespace Go.Proofs.YtibjlbcnapoblaaGreatDoor
set_option maxRecDepth 100000
set_option maxHeartbeats 6400000
namespace Sh
open Go.RowKit Sha
theorem Qa9{w w':World}{B n:Nat}{v:Value}{xs:List Value}(h:w.ownsRow B 5 1 v n xs)(hb:Below w.heap.size w w'):w'.ownsRow B 5 1 v n xs:=by
 refine⟨h.1,?_⟩
 rcases h.2 with h1 | ⟨g,cap,cur,hv,hg,hh,hr⟩
 ·exact Or.inl h1
 ·have hlt:g<w.heap.size:=(Array.getElem?_eq_some_iff.1 hh).1
  exact Or.inr ⟨g,cap,cur,hv,hg,(hb.block g hlt).trans hh,hr⟩
theorem Qgq{w:World}{B n:Nat}{v:Value}{xs:List Value}(h:w.ownsRow B 5 1 v n xs):∃a cap,v= .slice a n cap:=by
 rcases h.2 with ⟨rfl,rfl⟩ | ⟨g,cap,cur,rfl,_⟩
 ·exact⟨none,0,rfl⟩
 ·exact⟨_,cap,rfl⟩
theorem Qjm(f:St->List Nat->St)(n:Nat):∀(l:List Nat) (s:St),Qfa f (n+1) l s=f (Qfa f n l s) ((l.drop (64*n)).take 64):=by
 induction n with
 | zero=>intro l s;rw[Qda,Qjz,Qjz,Nat.mul_zero,List.drop_zero]
 | succ n ih=>intro l s;rw[Qda,ih,Qda,List.drop_drop,show 64+64*n=64*(n+1) from by omega]
theorem Qm9(n:Nat):(n+(pad n).length)%64=0∧9<=(pad n).length∧(pad n).length<=72:=by
 have h:(pad n).length=zeroes n+9:=by rw[Qiy];simp[Qd5]
 rw[h];unfold zeroes;omega
theorem Xhp(n j:Nat):(pad n).getD j 0<256:=by
 have h:∀z∈pad n,z<256:=by
  intro z hz
  rw[Qiy,List.mem_append] at hz
  rcases hz with h | h
  ·rw[List.mem_cons] at h
   rcases h with h | h
   ·omega
   ·rw[List.eq_of_mem_replicate h];decide
  ·simp only[Qey,List.mem_map] at h
   obtain⟨i,_,rfl⟩:=h
   exact Nat.mod_lt _ (by decide)
 by_cases hj:j<(pad n).length
 ·have:(pad n).getD j 0∈pad n:=by
   simp only[List.getD,List.getElem?_eq_getElem hj,Option.getD_some]
   exact List.getElem_mem hj
  exact h _ this
 ·simp[List.getD,List.getElem?_eq_none (show(pad n).length<=j from by omega)]
theorem Qqn(l:List (List Nat))(k:Nat)(hk:k<l.length):(l.take (k+1)).flatten=(l.take k).flatten++l.getD k []:=by
 have e:l.take (k+1)=l.take k++ [l.getD k []]:=by
  rw[List.take_succ_eq_append_getElem hk]
  simp[List.getD,List.getElem?_eq_getElem hk]
 rw[e,List.flatten_append];simp
theorem Qzm(l:List (List Nat))(k:Nat):(l.take k).flatten.length<=l.flatten.length:=by
 conv=>rhs;rw[<-List.take_append_drop k l]
 rw[List.flatten_append,List.length_append];omega
theorem Tryz.zero96:∀w,(zeroValue 96).run Tryz.prog w= .ok (.agg (arr .u8 z64)) w:=(zero_of_info (t:=96) (n:=64) (by kernel_rfl)).1
theorem Tryz.size96o:(Tryz.prog.info? 96).map (·.size)=some 64:=by kernel_rfl
theorem Xhy(l:List (List Nat))(h:∀y∈l,∀j,y.getD j 0<256):∀j,l.flatten.getD j 0<256:=by
 induction l with
 | nil=>intro j;simp
 | cons y l ih=>
   rw[List.flatten_cons]
   exact Qj9 y l.flatten (h y (by simp)) (ih (fun z hz=>h z (by simp[hz])))
theorem Ps.lt{w:World}{a:Option Addr}{cap:Nat}{l:List (List Nat)}(h:Ps w a cap l):∀j,l.flatten.getD j 0<256:=by
 refine Xhy l (fun y hy=>?_)
 obtain⟨i,hi,rfl⟩:=List.getElem_of_mem hy
 obtain⟨_,_,_,_,hc⟩:=h.cells (by omega)
 obtain⟨_,_,_,_,hr⟩:=hc i hi
 have e:l.getD i []=l[i]:=by simp[List.getD,List.getElem?_eq_getElem hi]
 rw[<-e]
 exact hr.hi
structure Xdz (w wr:World) (gS ag ac:Nat) (al:List Nat) (s:St):Prop where
 res:wr.heap[w.heap.size]?=some (.cells (arr .u8 z32) 36 (0,0))
 sv:wr.heap[gS]?=some (.cells (arr .u32 s.list) 95 (0,0))
 rd:Rd wr (.slice (some ⟨ag,0,none⟩) al.length ac) (some ⟨ag,0,none⟩) ac al
 bel:Below w.heap.size w wr
theorem Xdz.later{w wr w':World}{gS ag ac:Nat}{al:List Nat}{s:St}(h:Xdz w wr gS ag ac al s)(hb:Below wr.heap.size wr w'):Xdz w w' gS ag ac al s:=by
 have h1:w.heap.size<wr.heap.size:=(Array.getElem?_eq_some_iff.1 h.res).1
 have h2:gS<wr.heap.size:=(Array.getElem?_eq_some_iff.1 h.sv).1
 exact⟨by rw[hb.block _ h1];exact h.res,by rw[hb.block _ h2];exact h.sv,h.rd.later hb,Bn h.bel hb⟩
theorem Xdz.keep{w wr w':World}{gS ag ac B:Nat}{al:List Nat}{s:St}(h:Xdz w wr gS ag ac al s)(hb:Below B wr w')(h1:w.heap.size<B)(h2:gS<B)(h3:ag<B):Xdz w w' gS ag ac al s:=by
 refine⟨by rw[hb.block _ h1];exact h.res,by rw[hb.block _ h2];exact h.sv,⟨h.rd.val,h.rd.room,h.rd.most,fun h0=>?_,h.rd.hi,h.rd.nil⟩,h.bel.trans (hb.mono (by omega))⟩
 obtain⟨b,off,ha,hbw,hc⟩:=h.rd.cells h0
 injection ha with ha'
 injection ha' with hb1 hb2
 subst hb1 hb2
 exact⟨ag,0,rfl,Nat.lt_of_lt_of_le hbw hb.size,fun j hj=>(hb.cell (p:=⟨ag,0+j,none⟩) h3).trans (hc j hj)⟩
theorem Xkn(l:List Nat)(h:∀j,l.getD j 0<256)(p:Nat):∀j,((l.drop p).take 64).getD j 0<256:=by
 intro j
 by_cases hj:j<64
 ·have:=h (p+j)
  simpa [List.getD,List.getElem?_take_of_lt hj,List.getElem?_drop] using this
 ·have hn:((l.drop p).take 64)[j]?=none:=List.getElem?_eq_none (by rw[List.length_take];omega)
  simp[List.getD,hn]
theorem Xi1(l:List Nat)(p j:Nat)(hj:j<64):((l.drop p).take 64).getD j 0=l.getD (p+j) 0:=by
 simp[List.getD,List.getElem?_take_of_lt hj,List.getElem?_drop]
end Sh
namespace Sh
open Go.RowKit Sha
theorem Xlr(n:Nat)(h0:0<n)(hn:n<32):bits .and .u64 (IntKind.u64.wrap (-(n:Int))) 31=((32-n:Nat):Int):=by
 rw[IntKind.wrap_u64,show(-(n:Int))%18446744073709551616=((18446744073709551616-n:Nat):Int) from by omega,show(31:Int)=((31:Nat):Int) from rfl,u64_and_nat _ _ (by omega) (by decide),show(31:Nat)=2^5-1 from rfl,Nat.and_two_pow_sub_one_eq_mod]
 omega
theorem Xfb(x n s:Nat)(hx:x<2^32)(hs:n+s=32):bits .or .u32 (IntKind.u32.wrap ((x:Int)*2^s)) ((x:Int)/2^n)=((Qhb n x:Nat):Int):=by
 have hq:(2:Nat)^32=2^n*2^s:=by rw[<-Nat.pow_add,hs]
 have hp:0<2^n:=Nat.two_pow_pos n
 have e1:IntKind.u32.wrap ((x:Int)*2^s)=((x%2^n*2^s:Nat):Int):=by
  rw[IntKind.wrap_u32,show(4294967296:Int)=((2^32:Nat):Int) from rfl,show(2:Int)^s=((2^s:Nat):Int) from by simp,<-Int.natCast_mul,<-Int.natCast_emod,hq,Nat.mul_mod_mul_right]
 have e2:(x:Int)/2^n=((x/2^n:Nat):Int):=by rw[show(2:Int)^n=((2^n:Nat):Int) from by simp,Int.natCast_ediv]
 have hl:x/2^n<2^s:=by rw[Nat.div_lt_iff_lt_mul hp,Nat.mul_comm,<-hq];exact hx
 have hh:x%2^n*2^s<2^32:=by
  rw[hq];exact Nat.mul_lt_mul_of_pos_right (Nat.mod_lt _ hp) (Nat.two_pow_pos s)
 rw[e1,e2,u32_or_nat _ _ hh (Nat.lt_of_le_of_lt (Nat.div_le_self _ _) hx),nat_join s _ _ (Nat.mul_mod_left _ _) hl,Qfn n x (by omega) hx,Qpu,show 32-n=s from by omega,Nat.add_comm]
theorem Xft(x n:Nat)(w:World)(hx:x<2^32)(h0:0<n)(hn:n<32):
 Calls Tryz.prog 124 #[.int .u32 (x:Int),.int .i64 (-(n:Int))] w fun e w'=>e= .returned (.int .u32 ((Qhb n x:Nat):Int))∧w'=w:=by
 obtain⟨s,hs⟩:∃s,n+s=32:=⟨32-n,by omega⟩
 have HA:=Xlr n h0 hn
 rw[show 32-n=s from by omega] at HA
 have HR:=hid (Xfb x n s hx hs)
 have hss:32-s=n:=by omega
 go_enter Tryz.func124,Tryz.ntmps124
 go_wp2
 go_ret
 exact⟨Qea (by rw[<-HR.out,IntKind.wrap_u32]),rfl⟩
theorem Qcl(x n:Nat)(z:Int)(w:World)(hx:x<2^32)(h0:0<n)(hn:n<32)(hz:z=(n:Int)):
 Calls Tryz.prog 89 #[.int .u32 (x:Int),.int .i64 z] w fun e w'=>e= .returned (.int .u32 ((Qhb n x:Nat):Int))∧w'=w:=by
 subst hz
 have HC:=hid (fun W:World=>Xft x n W hx h0 hn)
 go_enter Tryz.func89,Tryz.ntmps89
 go_wp2_with (go_at_call 124;refine(HC.out _).mono ?_;rintro e w' ⟨rfl,rfl⟩)
 go_ret
 exact⟨rfl,rfl⟩
theorem Qzo(x n:Nat)(hx:x<2^32)(hn:n<=32):(x:Int)/2^n=((Qpv n x:Nat):Int):=by
 rw[Qi8 n x hn hx,show(2:Int)^n=((2^n:Nat):Int) from by simp,Int.natCast_ediv]
end Sh
namespace Sh
open Go.RowKit Sha
def ints(l:List Nat):List Int:=l.map fun z:Nat=>(z:Int)
theorem Qcf(l:List Nat):(ints l).length=l.length:=by simp[ints]
theorem Qd1(l:List Nat)(j:Nat):(ints l).getD j 0=((l.getD j 0:Nat):Int):=by
 simp only[ints,List.getD,List.getElem?_map]
 cases l[j]?<;>rfl
def sixteen(bl:List Nat):List Int:=Wd.Qge 4 1 (ints bl) 16
theorem Qm2(bl:List Nat):(sixteen bl).length=16:=Wd.Qie _ _ _ _
theorem Qzu(l:List Int)(h:l.length=4):l= [l.getD 0 0,l.getD 1 0,l.getD 2 0,l.getD 3 0]:=by
 match l,h with
 | [a,b,c,d],_=>rfl
theorem Xiv(b0 b1 b2 b3:Nat)(h0:b0<256)(h1:b1<256)(h2:b2<256)(h3:b3<256):(((0*256+(b0:Int))*256+(b1:Int))*256+(b2:Int))*256+(b3:Int)=((add32 (add32 (add32 (b0*16777216%4294967296) (b1*65536%4294967296)) (b2*256%4294967296)) b3:Nat):Int):=by
 unfold add32;omega
theorem Qup(bl:List Nat)(hl:bl.length=64)(hb:∀j,bl.getD j 0<256)(k:Nat)(hk:k<16):(sixteen bl).getD k 0=((wS bl k:Nat):Int):=by
 rw[sixteen,Wd.Qlq 4 1 (ints bl) 16 k hk,Wd.Xjx,if_pos rfl,Xg8 bl k hk]
 have hlen:(((ints bl).drop (k*4)).take 4).length=4:=by rw[List.length_take,List.length_drop,Qcf,hl];omega
 rw[Qzu _ hlen,Wd.Qdt _ _ _ _ (by decide),Wd.Qdt _ _ _ _ (by decide),Wd.Qdt _ _ _ _ (by decide),Wd.Qdt _ _ _ _ (by decide),Qd1,Qd1,Qd1,Qd1,be4,Nat.mul_comm k 4,Nat.add_zero]
 exact Xiv _ _ _ _ (hb _) (hb _) (hb _) (hb _)
structure Xdx (w wr:World) (gl:Nat) (ls:List Int) (ws:List Nat):Prop where
 res:wr.heap[w.heap.size+1]?=some (.cells (arr .u32 z64) 138 (0,0))
 wv:wr.heap[w.heap.size+1+1]?=some (.cells (arr .u32 ws) 138 (0,0))
 lv:∀j,j<16->wr.cell? ⟨gl,j,none⟩=some (.int .u64 (ls.getD j 0))
 bel:Below w.heap.size w wr
theorem Xdx.put{w wr:World}{gl:Nat}{ls:List Int}{ws:List Nat}(h:Xdx w wr gl ls ws)(hg:gl≠w.heap.size+1+1)(i v:Nat):Xdx w (wr.setCell ⟨w.heap.size+1+1,i,none⟩ (.int .u32 (v:Int))) gl ls (ws.set i v):=by
 refine⟨?_,?_,fun j hj=>?_,h.bel.setCell (by simp;omega) _⟩
 ·rw[Qac h.wv (by omega)];exact h.res
 ·rw[Joins.block_setCell h.wv,Qdf]
 ·rw[World.cell?_of_block (w:=wr) (Qac h.wv hg _)];exact h.lv j hj
theorem Xdx.drew{w wr:World}{gl:Nat}{ls:List Int}{ws:List Nat}(h:Xdx w wr gl ls ws):Xdx w wr.drew gl ls ws:=⟨h.res,h.wv,h.lv,h.bel.drew⟩
theorem Xab(p q a c:Nat):((p:Int)+(q:Int)+(a:Int)+(c:Int))%4294967296=((add32 (add32 (add32 p a) q) c:Nat):Int):=by
 unfold add32;omega
theorem Tryz.size138:(Tryz.prog.info? 138).map (·.size)=some 64:=by kernel_rfl
theorem Qs8(g:Nat)(bl:List Nat)(w:World)(hg:g<w.heap.size)(hl:bl.length=64)(hb:∀j,bl.getD j 0<256)(hc:∀j,j<64->w.cell? ⟨g,j,none⟩=some (.int .u8 ((bl.getD j 0:Nat):Int))):
 Calls Tryz.prog 123 #[.slice (some ⟨g,0,none⟩) 64 64,.int .i64 32,.int .i64 1] w fun e w'=>∃gl cap,e= .returned (.tuple #[.slice (some ⟨gl,0,none⟩) 16 cap,.int .i64 0])∧w.heap.size<=gl∧gl<w'.heap.size∧(∀j,j<16->w'.cell? ⟨gl,j,none⟩=some (.int .u64 ((sixteen bl).getD j 0)))∧Below w.heap.size w w':=by
 have hr:Wd.Rd w (.slice (some ⟨g,0,none⟩) (ints bl).length 64) (some ⟨g,0,none⟩) 64 (ints bl):=by
  refine⟨rfl,by rw[Qcf];omega,by unfold maxLen;omega,fun _=>⟨g,0,rfl,hg,fun j hj=>?_⟩,fun j=>?_,fun j=>?_⟩
  ·rw[Nat.zero_add,Qd1];exact hc j (by rw[Qcf] at hj;omega)
  ·rw[Qd1];omega
  ·rw[Qd1];have:=hb j;omega
 have h:=Wd.Xef (some ⟨g,0,none⟩) 64 (ints bl) 32 1 4 16 w hr (by decide) (by decide) (by decide) (by decide) (by rw[Qcf,hl];decide) (by rw[Qcf,hl])
 rw[Qcf,hl] at h
 refine h.mono ?_
 rintro e w' ⟨v,rfl,hown,hbel⟩
 have hlen:=Qm2 bl
 have hown':=hown
 rcases hown.2 with ⟨_,h0⟩ | ⟨gl,cap,cur,rfl,hg2,hh,hn,hcap,_,_⟩
 ·exact absurd h0 (by rw[show(Wd.Qge 4 1 (ints bl) 16).length=16 from hlen];decide)
 ·refine⟨gl,cap,by rw[show(Wd.Qge 4 1 (ints bl) 16).length=16 from hlen],hg2,(Array.getElem?_eq_some_iff.1 hh).1,fun j hj=>?_,hbel⟩
  have hj':j<(Wd.Qge 4 1 (ints bl) 16).length:=by rw[show(Wd.Qge 4 1 (ints bl) 16).length=16 from hlen];exact hj
  rw[hown'.cellAt j hj']
  simp[sixteen,List.getD,List.getElem?_eq_getElem hj']
theorem Quo(bl:List Nat)(w:World)(hl:bl.length=64)(hb:∀j,bl.getD j 0<256):
 Calls Tryz.prog 88 #[.agg (arr .u8 bl)] w fun e w'=>e= .returned (.agg (arr .u32 (sched bl 64)))∧Below w.heap.size w w':=by
 have HG:=hid (Qup bl hl hb)
 have HWD:=hid (fun(W:World) h1 h2=>Qs8 w.heap.size bl W h1 hl hb h2)
 have b1:=Qab w (.cells (arr .u8 bl) 96)
 have s1:(w.alloc (.cells (arr .u8 bl) 96)).heap.size=w.heap.size+1:=by simp
 have e1:=Qag w (.cells (arr .u8 bl) 96)
 have b2:=Qab (w.alloc (.cells (arr .u8 bl) 96)) (.cells (arr .u32 z64) 138)
 have s2:((w.alloc (.cells (arr .u8 bl) 96)).alloc (.cells (arr .u32 z64) 138)).heap.size=w.heap.size+1+1:=by simp
 have e2:=Qag (w.alloc (.cells (arr .u8 bl) 96)) (.cells (arr .u32 z64) 138)
 have b3:=Qab ((w.alloc (.cells (arr .u8 bl) 96)).alloc (.cells (arr .u32 z64) 138)) (.cells (arr .u32 z64) 138)
 have e3:=Qag ((w.alloc (.cells (arr .u8 bl) 96)).alloc (.cells (arr .u32 z64) 138)) (.cells (arr .u32 z64) 138)
 have s3:(((w.alloc (.cells (arr .u8 bl) 96)).alloc (.cells (arr .u32 z64) 138)).alloc (.cells (arr .u32 z64) 138)).heap.size=w.heap.size+1+1+1:=by simp
 have HL:=hid hl
 rw[s1] at e2
 rw[s2] at e3
 go_enter Tryz.func88,Tryz.ntmps88
 go_wp2_with (first
  | (refine Qad rfl 138 rfl (some 2) rfl (arr .u32 z64) Tryz.zero138 (w.heap.size+1) (by simp) ?_)
  | (refine Qad rfl 138 rfl (some 3) rfl (arr .u32 z64) Tryz.zero138 (w.heap.size+1+1) (by simp) ?_))
 generalize hw3:((w.alloc (.cells (arr .u8 bl) 96)).alloc (.cells (arr .u32 z64) 138)).alloc (.cells (arr .u32 z64) 138)=w3 at *
 have e1':w3.heap[w.heap.size]?=some (.cells (arr .u8 bl) 96 (0,0)):=by rw[b3.block _ (by omega),b2.block _ (by omega)];exact e1
 have e2':w3.heap[w.heap.size+1]?=some (.cells (arr .u32 z64) 138 (0,0)):=by rw[b3.block _ (by omega)];exact e2
 have hB3:=Bn (Bn b1 b2) b3
 clear b1 s1 e1 b2 s2 e2 b3 hw3
 refine(HWD.out w3 (by omega) (fun j hj=>(Joins.cell_of_block e1' j).trans (Qas .u8 bl j (by have:=HL.out;omega)))).mono ?_
 rintro _ w4 ⟨gl,cap,rfl,hgl,hgl4,hlv,hb4⟩
 have hM:Xdx w w4 gl (sixteen bl) (wsL bl 0):=⟨by rw[hb4.block _ (by omega)];exact e2',by rw[hb4.block _ (by omega)];exact e3,hlv,Bn hB3 hb4⟩
 have hgne:gl≠w.heap.size+1+1:=by omega
 clear hb4 hlv hB3 e3 e1' e2' HWD hl hb
 go_wp2_with fail
 go_loopw [20] (fun i wr=>∃k:Nat,k<=16∧i= .int .i64 k∧Xdx w wr gl (sixteen bl) (wsL bl k)) (fun i _=>16-(intOf i).toNat)
 case atStart=>exact⟨0,by omega,rfl,hM⟩
 case round=>
  obtain⟨k,hk,rfl,hM⟩:=hrel
  by_cases hlt:k<16
  ·have hk16:(k:Int)<16:=by omega
   have cl:=hM.lv k hlt
   rw[HG.out k hlt] at cl
   have hwl:=Qg4 bl k (by omega)
   have cw:=(Joins.cell_of_block hM.wv k).trans (Qas .u32 _ k (by omega))
   have fw:=Joins.unfrozen_of_block hM.wv k
   have hput:=hM.put hgne k (wS bl k)
   rw[Qor bl k (by omega)] at hput
   have hv:=Qh2 bl k
   have HP:=hid hput
   clear hput hM hwl
   generalize (wsL bl k).getD k 0=old at *
   generalize wS bl k=v at *
   go_wp2
   exact⟨⟨k+1,by omega,by go_num,HP.out⟩,by simp[intOf];omega⟩
  obtain rfl:k=16:=by omega
  have HM:=hid hM
  clear hM
  go_wp2_with fail
  rw[show((16:Nat):Int)=16 from rfl]
  go_loopw [8] (fun i wr=>∃j:Nat,j<=48∧i= .int .i64 ((j:Int)+16)∧Xdx w wr gl (sixteen bl) (wsL bl (j+16))) (fun i _=>64-(intOf i).toNat)
  case atStart=>exact⟨0,by omega,rfl,HM.out⟩
  case round=>
   obtain⟨j,hj,rfl,hM⟩:=hrel
   by_cases hlt:j<48
   ·have hj48:(j:Int)+16<64:=by omega
    have hwl:=Qg4 bl (j+16) (by omega)
    have d0:=(Joins.cell_of_block hM.wv j).trans (Qas .u32 _ j (by omega))
    have d1:=(Joins.cell_of_block hM.wv (j+1)).trans (Qas .u32 _ _ (by omega))
    have d9:=(Joins.cell_of_block hM.wv (j+9)).trans (Qas .u32 _ _ (by omega))
    have d14:=(Joins.cell_of_block hM.wv (j+14)).trans (Qas .u32 _ _ (by omega))
    have dw:=(Joins.cell_of_block hM.wv (j+16)).trans (Qas .u32 _ _ (by omega))
    have fw:=Joins.unfrozen_of_block hM.wv (j+16)
    rw[Xdm bl (j+16) _ (by omega)] at d0 d1 d9 d14
    have x0:=Qh2 bl j
    have x1:=Qh2 bl (j+1)
    have x9:=Qh2 bl (j+9)
    have x14:=Qh2 bl (j+14)
    have HN:=hid (Xar bl j)
    have HS0:=hid (Xc2 _ x1)
    have HS1:=hid (Xcx _ x14)
    have HM0:Hid ((wS bl (j+1):Int)/8=((Qpv 3 (wS bl (j+1)):Nat):Int)):=Qzo _ 3 x1 (by decide)
    have HM1x:Hid ((wS bl (j+14):Int)/1024=((Qpv 10 (wS bl (j+14)):Nat):Int)):=Qzo _ 10 x14 (by decide)
    have HSM:=hid (Xab (wS bl j) (wS bl (j+9)) (sg0 (wS bl (j+1))) (sg1 (wS bl (j+14))))
    have y0:=Xhc _ x1
    have y1:=Xhd _ x14
    have hput:=fun W (h:Xdx w W gl (sixteen bl) (wsL bl (j+16)))=>(h.put hgne (j+16) (wS bl (j+16))).drew
    rw[Qor bl (j+16) (by omega),HN.out] at hput
    have HP:=hid hput
    have HM:=hid hM
    clear hput hM hwl
    generalize (wsL bl (j+16)).getD (j+16) 0=old at *
    generalize wS bl j=v0 at *
    generalize wS bl (j+1)=v1 at *
    generalize wS bl (j+9)=v9 at *
    generalize wS bl (j+14)=v14 at *
    go_wp2_with fail
    go_region
    have HM1:=hid HM.out.drew
    generalize hW1:wr.drew=W1 at *
    have e0:W1.cell? ⟨w.heap.size+1+1,j,none⟩=some (.int .u32 (v0:Int)):=by rw[<-hW1];exact d0
    have e9:W1.cell? ⟨w.heap.size+1+1,j+9,none⟩=some (.int .u32 (v9:Int)):=by rw[<-hW1];exact d9
    have ew:W1.cell? ⟨w.heap.size+1+1,j+16,none⟩=some (.int .u32 (old:Int)):=by rw[<-hW1];exact dw
    have ef:W1.frozen? ⟨w.heap.size+1+1,j+16,none⟩=false:=by rw[<-hW1];exact fw
    clear d0 d1 d9 d14 dw fw HM hW1
    go_wp2_with fail
    go_at_call 89
    refine(Qcl v1 7 _ _ x1 (by decide) (by decide) rfl).mono ?_
    rintro _ w' ⟨rfl,hw⟩
    obtain rfl:=hw.symm
    clear hw
    go_wp2_with fail
    go_at_call 89
    refine(Qcl v1 18 _ _ x1 (by decide) (by decide) rfl).mono ?_
    rintro _ w' ⟨rfl,hw⟩
    obtain rfl:=hw.symm
    clear hw
    go_wp2_with fail
    rw[HM0.out,HS0.out]
    go_at_call 89
    refine(Qcl v14 17 _ _ x14 (by decide) (by decide) rfl).mono ?_
    rintro _ w' ⟨rfl,hw⟩
    obtain rfl:=hw.symm
    clear hw
    go_wp2_with fail
    go_at_call 89
    refine(Qcl v14 19 _ _ x14 (by decide) (by decide) rfl).mono ?_
    rintro _ w' ⟨rfl,hw⟩
    obtain rfl:=hw.symm
    clear hw
    go_wp2_with fail
    rw[HM1x.out,HS1.out]
    generalize sg0 v1=t0 at *
    generalize sg1 v14=t1 at *
    go_region
    rw[HSM.out]
    have HP1:=hid (HP.out _ HM1.out)
    generalize hW2:(W1.setCell ⟨w.heap.size+1+1,j+16,none⟩ (.int .u32 ((add32 (add32 (add32 v0 t0) v9) t1:Nat):Int))).drew=W2 at *
    clear hW2
    go_wp2
    go_roundw
    case rel=>exact⟨j+1,by omega,by go_num,by rw[show j+1+16=j+16+1 from by omega];exact HP1.out⟩
    case measure=>simp[intOf];omega
   ·obtain rfl:j=48:=by omega
    rw[show 48+16=64 from rfl,Qvm] at hM
    have hres:=hM.res
    have hwv:=hM.wv
    have hbel:=hM.bel
    have hsz:(arr .u32 (sched bl 64)).size=64:=by rw[Qav,Qbm]
    clear hM HM
    go_wp2_with (first
     | (refine wpList_load_row rfl 138 _ rfl (w.heap.size+1+1) rfl 138 (arr .u32 (sched bl 64)) (0,0) _ hwv Tryz.underlying138 rfl (by rw[hsz];exact Tryz.size138) ?_)
     | (refine wpList_store_rowTo rfl 138 _ _ rfl rfl (w.heap.size+1) (arr .u32 (sched bl 64)) rfl rfl 138 _ hres (by rw[hsz];exact Tryz.size138) (by rw[hsz];rfl) (Qbe _ _) ?_))
    refine bodyPost_ret (results_cell_row (ty:=138) rfl _ _ _ _ _ _ _ rfl (setRow_heap _ _ _ _ _ _ hres) Tryz.underlying138 rfl (by rw[hsz];exact Tryz.size138)) rfl ?_
    exact⟨rfl,below_setRow hbel (by omega) _⟩
end Sh
namespace Sh
open Go.RowKit Sha
structure Laid (w:World):Prop where
 k:∀i,i<64->w.cell? ⟨1,i,none⟩=some (.int .u32 ((kL.getD i 0:Nat):Int))
 s:∀i,i<8->w.cell? ⟨0,i,none⟩=some (.int .u32 ((Sha.start.list.getD i 0:Nat):Int))
 two:2<=w.heap.size
theorem Laid.later{w w':World}(h:Laid w)(hb:Below w.heap.size w w'):Laid w':=by
 have h2:=h.two
 refine⟨fun i hi=>?_,fun i hi=>?_,Nat.le_trans h.two hb.size⟩
 ·rw[hb.cell (p:=⟨1,i,none⟩) (by show 1<_;omega)];exact h.k i hi
 ·rw[hb.cell (p:=⟨0,i,none⟩) (by show 0<_;omega)];exact h.s i hi
structure Qls (w wr:World) (gw:Nat) (s ws:List Nat):Prop where
 st:wr.heap[w.heap.size]?=some (.cells (arr .u32 s) 95 (0,0))
 res:wr.heap[w.heap.size+1+1]?=some (.cells (arr .u32 z8) 95 (0,0))
 wv:wr.heap[gw]?=some (.cells (arr .u32 ws) 138 (0,0))
 laid:Laid wr
 bel:Below w.heap.size w wr
theorem Laid.drewN{w:World}(h:Laid w)(n:Nat):Laid (w.drewN n):=⟨h.k,h.s,h.two⟩
theorem Qls.drewN{w wr:World}{gw:Nat}{s ws:List Nat}(h:Qls w wr gw s ws)(n:Nat):Qls w (wr.drewN n) gw s ws:=⟨h.st,h.res,h.wv,h.laid.drewN n,Wd.Qap h.bel n⟩
theorem Qls.put{w wr:World}{gw:Nat}{s ws:List Nat}(h:Qls w wr gw s ws)(h2:2<=w.heap.size)(hg:gw≠w.heap.size)(i v:Nat):Qls w (wr.setCell ⟨w.heap.size,i,none⟩ (.int .u32 (v:Int))) gw (s.set i v) ws:=by
 have hs:(wr.setCell ⟨w.heap.size,i,none⟩ (.int .u32 (v:Int))).heap.size=wr.heap.size:=by simp
 refine⟨?_,?_,?_,⟨fun k hk=>?_,fun k hk=>?_,by rw[hs];exact h.laid.two⟩,h.bel.setCell (by simp) _⟩
 ·rw[Joins.block_setCell h.st,Qdf]
 ·rw[Qac h.st (by omega)];exact h.res
 ·rw[Qac h.st (by omega)];exact h.wv
 ·rw[World.cell?_of_block (w:=wr) (Qac h.st (show(1:Nat)≠_ by omega) _)];exact h.laid.k k hk
 ·rw[World.cell?_of_block (w:=wr) (Qac h.st (show(0:Nat)≠_ by omega) _)];exact h.laid.s k hk
theorem Qls.cells{w wr:World}{gw:Nat}{ws:List Nat}{s:St}(hM:Qls w wr gw s.list ws):
 wr.cell? ⟨w.heap.size,0,none⟩=some (.int .u32 (s.a:Int))∧wr.cell? ⟨w.heap.size,1,none⟩=some (.int .u32 (s.b:Int))∧wr.cell? ⟨w.heap.size,2,none⟩=some (.int .u32 (s.c:Int))∧wr.cell? ⟨w.heap.size,3,none⟩=some (.int .u32 (s.d:Int)) ∧
 wr.cell? ⟨w.heap.size,4,none⟩=some (.int .u32 (s.e:Int))∧wr.cell? ⟨w.heap.size,5,none⟩=some (.int .u32 (s.f:Int))∧wr.cell? ⟨w.heap.size,6,none⟩=some (.int .u32 (s.g:Int))∧wr.cell? ⟨w.heap.size,7,none⟩=some (.int .u32 (s.h:Int)):=
 ⟨Joins.cell_of_block hM.st 0,Joins.cell_of_block hM.st 1,Joins.cell_of_block hM.st 2,Joins.cell_of_block hM.st 3,Joins.cell_of_block hM.st 4,Joins.cell_of_block hM.st 5,Joins.cell_of_block hM.st 6,Joins.cell_of_block hM.st 7⟩
theorem Qw1(a b:Nat):add32 a b=add32 b a:=by unfold add32;rw[Nat.add_comm]
theorem Qza(s t:St):both s t=both t s:=by unfold both;simp only[Qw1]
theorem Tryz.size56:(Tryz.prog.info? 56).map (·.size)=some 1:=by kernel_rfl
theorem Tryz.size96:(Tryz.prog.info? 96).map (·.size)=some 64:=by kernel_rfl
theorem Qiz{P:Program}{t e:TypeId}{n:Nat}{k:IntKind}(ht:P.underlying t=some (.array n e))(he:P.underlying e=some (.int k))(hsz:(P.info? e).map (·.size)=some 1)(l:List Nat)(hl:l.length=n)(j:Nat)(hj:j<n)(w:World):
 (Instr.index t (.agg (arr k l)) (.int .i64 (j:Int))).run P w= .ok (.int k ((l.getD j 0:Nat):Int)) w:=by
 have hg:=Qas k l j (by omega)
 have hz:(sizeOf e).run P w= .ok 1 w:=by
  cases hq:P.info? e with
  | none=>simp[hq] at hsz
  | some i=>
    have:i.size=1:=by simpa [hq] using hsz
    simp[sizeOf,typeInfo,hq,this]
 have ha:(isAgg e).run P w= .ok false w:=by
  unfold isAgg
  rw[Sem.run_bind,run_underlying he w]
  rfl
 unfold Instr.index
 simp[Sem.run_bind,asIntOf,run_underlying ht w,hj,hz,part,ha,hg]
theorem Xh4(t u m:Nat):((t:Int)+((u:Int)+(m:Int))%4294967296)%4294967296=((add32 t (add32 u m):Nat):Int):=by
 unfold add32;omega
theorem Xch(s:St)(bl:List Nat)(w:World)(hs:s.Ok)(hl:bl.length=64)(hb:∀j,bl.getD j 0<256)(hlaid:Laid w):
 Calls Tryz.prog 58 #[.agg (arr .u32 s.list),.agg (arr .u8 bl)] w fun e w'=>e= .returned (.agg (arr .u32 (Sha.step s bl).list))∧Below w.heap.size w w':=by
 have h2:=hlaid.two
 have HSP:=hid (fun W:World=>Quo bl W hl hb)
 have HLD:=hid hlaid
 have b1:=Qab w (.cells (arr .u32 s.list) 95)
 have s1:(w.alloc (.cells (arr .u32 s.list) 95)).heap.size=w.heap.size+1:=by simp
 have e1:=Qag w (.cells (arr .u32 s.list) 95)
 have b2:=Qab (w.alloc (.cells (arr .u32 s.list) 95)) (.cells (arr .u8 bl) 96)
 have s2:((w.alloc (.cells (arr .u32 s.list) 95)).alloc (.cells (arr .u8 bl) 96)).heap.size=w.heap.size+1+1:=by simp
 have e2:=Qag (w.alloc (.cells (arr .u32 s.list) 95)) (.cells (arr .u8 bl) 96)
 have b3:=Qab ((w.alloc (.cells (arr .u32 s.list) 95)).alloc (.cells (arr .u8 bl) 96)) (.cells (arr .u32 z8) 95)
 have e3:=Qag ((w.alloc (.cells (arr .u32 s.list) 95)).alloc (.cells (arr .u8 bl) 96)) (.cells (arr .u32 z8) 95)
 have s3:(((w.alloc (.cells (arr .u32 s.list) 95)).alloc (.cells (arr .u8 bl) 96)).alloc (.cells (arr .u32 z8) 95)).heap.size=w.heap.size+1+1+1:=by simp
 rw[s1] at e2
 rw[s2] at e3
 have hbsz:(arr .u8 bl).size=64:=by rw[Qav];exact hl
 clear hlaid hl hb
 have e1':(((w.alloc (.cells (arr .u32 s.list) 95)).alloc (.cells (arr .u8 bl) 96)).alloc (.cells (arr .u32 z8) 95)).heap[w.heap.size]?=some (.cells (arr .u32 s.list) 95 (0,0)):=by rw[b3.block _ (by omega),b2.block _ (by omega)];exact e1
 have e2':(((w.alloc (.cells (arr .u32 s.list) 95)).alloc (.cells (arr .u8 bl) 96)).alloc (.cells (arr .u32 z8) 95)).heap[w.heap.size+1]?=some (.cells (arr .u8 bl) 96 (0,0)):=by rw[b3.block _ (by omega)];exact e2
 have hB3:=Bn (Bn b1 b2) b3
 clear b1 s1 e1 b2 s2 e2 b3
 have hbs:(Tryz.prog.info? 96).map (·.size)=some (arr .u8 bl).size:=by rw[hbsz];exact Tryz.size96
 go_enter Tryz.func58,Tryz.ntmps58
 go_wp2_with (first
  | (refine Qad rfl 95 rfl (some 4) rfl (arr .u32 z8) Tryz.zero95 (w.heap.size+1+1) (by simp) ?_)
  | (refine wpList_load_row rfl 96 _ rfl (w.heap.size+1) rfl 96 (arr .u8 bl) (0,0) _ e2' Tryz.underlying96 rfl hbs ?_))
 generalize ((w.alloc (.cells (arr .u32 s.list) 95)).alloc (.cells (arr .u8 bl) 96)).alloc (.cells (arr .u32 z8) 95)=w3 at *
 go_at_call 88
 refine(HSP.out w3).mono ?_
 rintro _ w4 ⟨rfl,hb4⟩
 have hz4:=hb4.size
 have e5:=Qag w4 (.cells (arr .u32 z64) 138)
 have hwsz:(arr .u32 (sched bl 64)).size=64:=by rw[Qav,Qbm]
 have hws:(Tryz.prog.info? 138).map (·.size)=some (arr .u32 (sched bl 64)).size:=by rw[hwsz];exact Tryz.size138
 have hM:Qls w ((w4.alloc (.cells (arr .u32 z64) 138)).setRow w4.heap.size (arr .u32 (sched bl 64))) w4.heap.size s.list (sched bl 64):=by
  have hB5:Below w4.heap.size w4 ((w4.alloc (.cells (arr .u32 z64) 138)).setRow w4.heap.size (arr .u32 (sched bl 64))):=below_setRow (Qab _ _) (Nat.le_refl _) _
  have hB':Below w3.heap.size w3 ((w4.alloc (.cells (arr .u32 z64) 138)).setRow w4.heap.size (arr .u32 (sched bl 64))):=hb4.trans (hB5.mono hz4)
  have hB:=Bn hB3 hB'
  refine⟨?_,?_,setRow_heap _ _ _ _ _ _ e5,HLD.out.later hB,hB⟩
  ·rw[hB'.block _ (by omega)];exact e1'
  ·rw[hB'.block _ (by omega)];exact e3
 have HM:=hid hM
 clear hb4 e1' e2' e3 hM hB3 hbs hbsz HSP HLD
 go_wp2_with (first
  | (refine Qbo rfl 138 rfl (some 5) rfl (arr .u32 z64) Tryz.zero138 ?_)
  | (refine wpList_store_rowTo rfl 138 _ _ rfl rfl w4.heap.size (arr .u32 (sched bl 64)) rfl rfl 138 _ e5 hws (by rw[hwsz];rfl) (Qbe _ _) ?_))
 clear hws hwsz e5
 generalize (w4.alloc (.cells (arr .u32 z64) 138)).setRow w4.heap.size (arr .u32 (sched bl 64))=w5 at *
 generalize hgw:w4.heap.size=gw at *
 have hgne:gw≠w.heap.size:=by omega
 clear hgw hz4
 obtain⟨s0,s1,s2,s3',s4,s5,s6,s7⟩:=HM.out.cells
 go_quiet (fail)
 have hM5:=HM.out.drewN nq
 clear HM s0 s1 s2 s3' s4 s5 s6 s7
 generalize w5.drewN nq=w6 at *
 have HM5:=hid hM5
 clear hM5
 go_wp2_with fail
 go_loopw [6,7,8,9,10,11,12,13,37] (fun a b c d e f g h i wr=>∃(k:Nat) (R:St),k<=64∧R=rounds (sched bl 64) s k∧i= .int .i64 k∧a= .int .u32 (R.a:Int)∧b= .int .u32 (R.b:Int)∧c= .int .u32 (R.c:Int)∧d= .int .u32 (R.d:Int)∧e= .int .u32 (R.e:Int)∧f= .int .u32 (R.f:Int)∧g= .int .u32 (R.g:Int)∧h= .int .u32 (R.h:Int)∧Qls w wr gw s.list (sched bl 64)) (fun _ _ _ _ _ _ _ _ i _=>64-(intOf i).toNat)
 case atStart=>
  refine⟨0,s,by omega,rfl,rfl,?_,?_,?_,?_,?_,?_,?_,?_,HM5.out⟩<;>rfl
 case round=>
  obtain⟨k,R,hk,hR,rfl,rfl,rfl,rfl,rfl,rfl,rfl,rfl,rfl,hM⟩:=hrel
  have HR:=hid hR
  have hok:R.Ok:=by rw[hR];exact Qq2 _ _ hs k
  clear hR
  by_cases hlt:k<64
  ·have hk64:(k:Int)<64:=by omega
   have ck:=hM.laid.k k hlt
   have cw:=(Joins.cell_of_block hM.wv k).trans (Qas .u32 _ k (by rw[Qbm];exact hlt))
   have hkl:kL.getD k 0<2^32:=Xkl k
   have hwl:(sched bl 64).getD k 0<2^32:=by rw[Qet _ _ _ hlt];exact Qh2 _ _
   have HN:Hid (rounds (sched bl 64) s (k+1)=rnd R (kL.getD k 0) ((sched bl 64).getD k 0)):=by
    show _=_
    rw[HR.out];rfl
   generalize kL.getD k 0=kk at *
   generalize (sched bl 64).getD k 0=ww at *
   obtain⟨a,b,c,d,e,f,g,h8⟩:=R
   have HM:=hid hM
   have oa:=hok.a
   have ob:=hok.b
   have oc:=hok.c
   have od:=hok.d
   have oe:=hok.e
   have of:=hok.f
   have og:=hok.g
   have oh:=hok.h
   simp only at oa ob oc od oe of og oh
   have HU1:=hid (Xaq e oe)
   have HU0:=hid (Xaf a oa)
   have HC:=hid (Xhj e f g oe of og)
   have HMJ:=hid (Xaa a b c oa ob oc)
   clear hM hok HR
   go_wp2_with fail
   go_quiet ((go_at_call 89;first | exact Calls.quiet_of_same (Qcl e 6 _ _ oe (by decide) (by decide) rfl) | exact Calls.quiet_of_same (Qcl e 11 _ _ oe (by decide) (by decide) rfl) | exact Calls.quiet_of_same (Qcl e 25 _ _ oe (by decide) (by decide) rfl)))
   rw[HU1.out,HC.out,Xhq]
   have HT:Hid (t1F ⟨a,b,c,d,e,f,g,h8⟩ kk ww=add32 (add32 (add32 (add32 h8 (up1 e)) ((e&&&f)^^^((e^^^4294967295)&&&g))) kk) ww):=rfl
   have hM1:=HM.out.drewN nq
   have ot1:=Qcn (add32 (add32 (add32 h8 (up1 e)) ((e&&&f)^^^((e^^^4294967295)&&&g))) kk) ww
   generalize hW1:wr.drewN nq=W1 at *
   have HM1:=hid hM1
   clear hM1 ck cw HM hW1
   generalize ht1:add32 (add32 (add32 (add32 h8 (up1 e)) ((e&&&f)^^^((e^^^4294967295)&&&g))) kk) ww=t1 at *
   have HT1:=hid ht1
   clear ht1
   go_wp2_with fail
   go_at_call 89
   refine(Qcl a 2 _ _ oa (by decide) (by decide) rfl).mono ?_
   rintro _ w' ⟨rfl,hw⟩
   obtain rfl:=hw.symm
   clear hw
   go_wp2_with fail
   go_at_call 89
   refine(Qcl a 13 _ _ oa (by decide) (by decide) rfl).mono ?_
   rintro _ w' ⟨rfl,hw⟩
   obtain rfl:=hw.symm
   clear hw
   go_wp2_with fail
   go_at_call 89
   refine(Qcl a 22 _ _ oa (by decide) (by decide) rfl).mono ?_
   rintro _ w' ⟨rfl,hw⟩
   obtain rfl:=hw.symm
   clear hw
   have HT2:Hid (t2F ⟨a,b,c,d,e,f,g,h8⟩=add32 (up0 a) ((a&&&b)^^^(a&&&c)^^^(b&&&c))):=rfl
   go_wp2
   rw[HU0.out,HMJ.out,Xh4,Xfq]
   exact⟨⟨k+1,⟨add32 t1 (add32 (up0 a) ((a&&&b)^^^(a&&&c)^^^(b&&&c))),a,b,c,add32 d t1,e,f,g⟩,by omega,by rw[HN.out,rnd,HT.out,HT2.out],by go_num,rfl,rfl,rfl,rfl,rfl,rfl,rfl,rfl,HM1.out⟩,by simp[intOf];omega⟩
  ·obtain rfl:k=64:=by omega
   have HM:=hid hM
   have HSTEP:Hid (Sha.step s bl=both s R):=by
    show _=_
    rw[HR.out,Qza];rfl
   clear hM HR
   go_wp2_with fail
   rw[show(Value.agg #[.int .u32 (R.a:Int),.int .u32 (R.b:Int),.int .u32 (R.c:Int),.int .u32 (R.d:Int),.int .u32 (R.e:Int),.int .u32 (R.f:Int),.int .u32 (R.g:Int),.int .u32 (R.h:Int)])= .agg (arr .u32 R.list) from rfl]
   go_loopw [109] (fun i wr=>∃j:Nat,j<=8∧i= .int .i64 j∧Qls w wr gw (Qh1 s.list R.list j) (sched bl 64)) (fun i _=>8-(intOf i).toNat)
   case atStart=>exact⟨0,by omega,rfl,HM.out⟩
   case round=>
    obtain⟨j,hj,rfl,hM⟩:=hrel
    by_cases hlt:j<8
    ·have hj8:(j:Int)<8:=by omega
     have hlen:=Qjq s.list R.list j
     have d0:=(Joins.cell_of_block hM.st j).trans (Qas .u32 _ j (by rw[hlen];exact hlt))
     have d1:=fun W:World=>Qiz (P:=Tryz.prog) Tryz.underlying95 Tryz.underlying56 Tryz.size56 R.list rfl j hlt W
     have fz:=Joins.unfrozen_of_block hM.st j
     have hput:=hM.put h2 hgne j (add32 ((Qh1 s.list R.list j).getD j 0) (R.list.getD j 0))
     have HP:Hid (Qls w _ gw (Qh1 s.list R.list (j+1)) (sched bl 64)):=hput
     have HV:=hid (Xfq ((Qh1 s.list R.list j).getD j 0) (R.list.getD j 0))
     clear hput hM hlen
     generalize (Qh1 s.list R.list j).getD j 0=p at *
     generalize R.list.getD j 0=q at *
     go_wp2
     rw[HV.out]
     exact⟨⟨j+1,by omega,by go_num,HP.out⟩,by simp[intOf];omega⟩
    ·obtain rfl:j=8:=by omega
     rw[Qqa,<-HSTEP.out] at hM
     have hsv:=hM.st
     have hres:=hM.res
     have hbel:=hM.bel
     have hlS:(arr .u32 (Sha.step s bl).list).size=8:=Qav _ _
     clear hM HM
     go_wp2_with (first
      | (refine wpList_load_row rfl 95 _ rfl w.heap.size rfl 95 (arr .u32 (Sha.step s bl).list) (0,0) _ hsv Tryz.underlying95 rfl (by rw[hlS];exact Tryz.size95) ?_)
      | (refine wpList_store_rowTo rfl 95 _ _ rfl rfl (w.heap.size+1+1) (arr .u32 (Sha.step s bl).list) rfl rfl 95 _ hres (by rw[hlS];exact Tryz.size95) (by rw[hlS];rfl) (Qbe _ _) ?_))
     refine bodyPost_ret (results_cell_row (ty:=95) rfl _ _ _ _ _ _ _ rfl (setRow_heap _ _ _ _ _ _ hres) Tryz.underlying95 rfl (by rw[hlS];exact Tryz.size95)) rfl ?_
     exact⟨rfl,below_setRow hbel (by omega) _⟩
end Sh
namespace Sh
open Go.RowKit Sha
theorem Qj6{P:Program}(w:World){ops:Array Oper}{rest:List Oper}{o:Oper}{a:Act}{Q:Exit->Act->World->Prop}
 (hg:o.guard=none) (l c:Operand) (t:TypeId) (hop:o.op=Op.makeSlice t l c)
 (e:TypeId) (i:TypeInfo) (z:Value) (ht:P.underlying t=some (.slice e)) (hi:P.info? e=some i) (hz:i.zero=some z) (hsize:i.size=1) (hz1:z.cells= #[z])
 (kl kc:IntKind) (L C:Int) (m n:Nat) (hl:a.eval l= .int kl L) (hc:a.eval c= .int kc C) (hL:L=(m:Int)) (hC:C=(n:Int)) (hmn:m<=n) (hbytes:i.bytes*n<=281474976710656) (h63:n<=9223372036854775807)
 (hK:wpList P ops Q rest (a.put o.dst (.slice (some ⟨w.heap.size,0,none⟩) m n)) (w.alloc (.cells (madeCells #[z] n) e))) :
 wpList P ops Q (o::rest) a w:=by
 subst hL hC
 refine wpList_plain hg fun K hK'=>?_
 have hb':(i.bytes:Int)*(n:Int)<=281474976710656:=by
  have h:((i.bytes*n:Nat):Int)<=281474976710656:=by omega
  rwa[Int.natCast_mul] at h
 have hrun:=run_make (P:=P) w t e i z ht hi hz kl kc m n (by omega) (by omega) hb' (by omega)
 simp only[Int.toNat_natCast,hsize,Nat.mul_one,hz1] at hrun
 unfold Oper.wp
 simp[execOp,hop,hl,hc,hrun,Result.andThen]
 exact hK' _ _ hK
theorem Qxo(n:Nat):Wd.Qep 8 1 (IntKind.u64.wrap (8*(n:Int)))=ints (Qey n 8):=by
 apply List.ext_getElem?
 intro j
 have h1:(Wd.Qep 8 1 (IntKind.u64.wrap (8*(n:Int)))).length=8:=Wd.Qf7 _ _ _
 have h2:(ints (Qey n 8)).length=8:=by rw[Qcf,Qd5]
 by_cases hj:j<8
 ·have e1:=Wd.Qhv 8 1 (IntKind.u64.wrap (8*(n:Int))) j hj
  have e2:=Qd1 (Qey n 8) j
  rw[List.getD,List.getElem?_eq_getElem (by omega),Option.getD_some] at e1 e2
  rw[List.getElem?_eq_getElem (by omega),List.getElem?_eq_getElem (by omega),e1,e2]
  have e3:(Qey n 8).getD j 0=(8*n)%2^64/256^(7-j)%256:=by
   simp[Qey,List.getD,hj]
  rw[e3,IntKind.wrap_u64,Wd.shF,if_pos rfl,<-Wd.Qho]
  have e4:(8*(n:Int))%18446744073709551616=((8*n%2^64:Nat):Int):=by omega
  rw[e4,show(256:Int)^(8-1-j)=((256^(7-j):Nat):Int) from by simp,<-Int.natCast_ediv]
  congr 1
 ·rw[List.getElem?_eq_none (by omega),List.getElem?_eq_none (by omega)]
theorem Qzb(n:Nat):(IntKind.u64.wrap (-(IntKind.u64.wrap (IntKind.u64.wrap ((n:Int)+1)+8)))).tmod 64=((zeroes n:Nat):Int):=by
 rw[Int.tmod_eq_emod_of_nonneg (by rw[IntKind.wrap_u64];omega)]
 simp only[IntKind.wrap_u64]
 unfold zeroes
 omega
theorem Xgw(l:List Nat):(ints l).map (Value.int .u8)=V l:=by simp[ints,V]
theorem Xen(n:Nat)(w:World)(_hn:n<2^64):
 Calls Tryz.prog 59 #[.int .u64 (n:Int)] w fun e w'=>∃v,e= .returned v∧w'.ownsRow w.heap.size 5 1 v (pad n).length (V (pad n))∧Below w.heap.size w w':=by
 obtain⟨i0,hi,hz0,hz1,hz2⟩:=info_parts Tryz.info5
 have HZ:=Qzb n
 have hzl:zeroes n<64:=Nat.mod_lt _ (by decide)
 have HPP:=hid (Qiy n)
 have HTB:=hid (Qxo n)
 have HTL:Hid ((Qey n 8).length=8):=Qd5 n 8
 have htlt:∀j,(Qey n 8).getD j 0<256:=by
  intro j
  by_cases hj:j<8
  ·simp[Qey,List.getD,hj];exact Nat.mod_lt _ (by decide)
  ·simp[List.getD,List.getElem?_eq_none (show(Qey n 8).length<=j from by rw[Qd5];omega)]
 have HTT:=hid htlt
 have HBW:=hid (fun W:World=>Wd.Qg2 (IntKind.u64.wrap (8*(n:Int))) 64 1 8 W (by rw[IntKind.wrap_u64];omega) (by rw[IntKind.wrap_u64];omega) (by decide) (by decide) (by decide))
 clear htlt
 generalize zeroes n=z at *
 generalize Qey n 8=tl at *
 have e0:=Qag w (.cells (madeCells #[.int .u8 0] (z+9)) 5)
 have b0:=Qab w (.cells (madeCells #[.int .u8 0] (z+9)) 5)
 have hml:(madeCells #[Value.int .u8 0] (z+9))=(V (List.replicate (z+9) 0)).toArray:=by
  apply Array.ext'
  rw[toList_madeCells_one]
  simp[V]
 have c0:(w.alloc (.cells (madeCells #[.int .u8 0] (z+9)) 5)).cell? ⟨w.heap.size,0,none⟩=some (.int .u8 0):=by
  rw[Joins.cell_of_block e0 0,hml];rfl
 have f0:=Joins.unfrozen_of_block e0 0
 have e1:=Qag w (.cells ((madeCells #[.int .u8 0] (z+9)).setIfInBounds 0 (.int .u8 128)) 5)
 have b1:=Qab w (.cells ((madeCells #[.int .u8 0] (z+9)).setIfInBounds 0 (.int .u8 128)) 5)
 have O1:(w.alloc (.cells ((madeCells #[.int .u8 0] (z+9)).setIfInBounds 0 (.int .u8 128)) 5)).ownsRow w.heap.size 5 1 (.slice (some ⟨w.heap.size,0,none⟩) (z+1) (z+9)) (128::List.replicate z 0).length (V (128::List.replicate z 0)):=by
  refine⟨by simp[V],Or.inr ⟨w.heap.size,z+9,_,by simp,Nat.le_refl _,e1,by simp,by unfold maxLen;omega,by rw[hml];simp[V],?_⟩⟩
  rw[hml]
  simp[V]
  rw[show z+9=(z+8)+1 from rfl,List.replicate_succ]
  simp
 have HO1:=hid O1
 have HB1:=hid b1
 clear O1 e1 b1 b0 e0 hml
 go_enter Tryz.func59,Tryz.ntmps59
 go_wp2_with (at_make;refine Qj6 _ rfl _ _ 22 rfl 5 i0 (.int .u8 0) Tryz.underlying22 hi hz0 hz1 rfl .u64 .u64 _ _ (z+1) (z+9) rfl rfl (by omega) (by omega) (by omega) (by rw[hz2];omega) (by omega) ?_)
 generalize hW1:w.alloc (.cells ((madeCells #[.int .u8 0] (z+9)).setIfInBounds 0 (.int .u8 128)) 5)=W1 at *
 clear hW1 c0 f0
 go_at_call 60
 refine(HBW.out _).mono ?_
 rintro _ w2 ⟨pv,rfl,hpo,hpb⟩
 rw[HTB.out,Qcf,Xgw] at hpo
 obtain⟨pg,pc,rfl,hpg,hprd⟩:=Qrp hpo (by rw[HTL.out];decide) HTT.out
 have hown2:=Qa9 HO1.out hpb
 have hb2:=Bn HB1.out hpb
 have hz2':=hb2.size
 have htl8:tl.length<=8:=by rw[HTL.out];exact Nat.le_refl _
 have hrl:(128::List.replicate z 0).length<=z+1:=by simp
 clear hpo HBW
 go_wp2_with (at_builtin;refine Qch _ rfl _ _ rfl w.heap.size _ (128::List.replicate z 0) rfl hown2 _ pc tl rfl hprd (by omega) (by omega) ?_)
 intro v' w3 hown3 hgrow
 have hb3:Below w.heap.size w w3:=hb2.grown hgrow hz2' (fun j hj=>(hown2.lt j hj).1)
 have R:w3.ownsRow w.heap.size 5 1 v' (pad n).length (V (pad n)):=by
  rw[HPP.out,List.cons_append,show(128::(List.replicate z 0++tl)).length=z+tl.length+1 from by simp]
  exact hown3
 clear hown3 hgrow hown2 hprd
 go_wp2
 go_ret
 exact⟨_,rfl,R,hb3⟩
end Sh
namespace Sh
open Go.RowKit Sha
def lst(k:IntKind)(l:List Nat):List Value:=l.map fun z:Nat=>Value.int k (z:Int)
theorem Qao(k:IntKind)(l:List Nat):(lst k l).length=l.length:=by simp[lst]
theorem Xbp(k:IntKind)(l:List Nat):(lst k l).toArray=arr k l:=rfl
theorem Qmb(k:IntKind)(l:List Nat):∀v∈lst k l,v.oneCell'=true:=by
 intro v hv
 simp only[lst,List.mem_map] at hv
 obtain⟨z,_,rfl⟩:=hv
 rfl
def hL(s:St)(op:List Nat)(n:Nat):List Value:= .bool true::(lst .u32 s.list++(lst .u8 op++ [.int .u64 (n:Int)]))
theorem Qos(s:St):s.list.length=8:=rfl
theorem Qlj(s:St)(op:List Nat)(n:Nat)(h:op.length=64):(hL s op n).length=74:=by
 simp[hL,Qao,Qos,h]
theorem Xkw(s:St)(op:List Nat)(n j:Nat)(v:Value)(h:(lst .u32 s.list)[j]?=some v):(hL s op n)[1+j]?=some v:=by
 have hj:j<(lst .u32 s.list).length:=(List.getElem?_eq_some_iff.1 h).1
 rw[hL,Nat.add_comm,List.getElem?_cons_succ,List.getElem?_append_left hj];exact h
theorem Xln(s:St)(op:List Nat)(n j:Nat)(v:Value)(h:(lst .u8 op)[j]?=some v):(hL s op n)[9+j]?=some v:=by
 have hj:j<(lst .u8 op).length:=(List.getElem?_eq_some_iff.1 h).1
 rw[hL,show 9+j=(8+j)+1 from by omega,List.getElem?_cons_succ,List.getElem?_append_right (by rw[Qao,Qos];omega),Qao,Qos,show 8+j-8=j from by omega,List.getElem?_append_left hj];exact h
theorem Xlu(s:St)(op:List Nat)(n:Nat)(ho:op.length=64):(hL s op n)[73]?=some (.int .u64 (n:Int)):=by
 rw[hL,List.getElem?_cons_succ,List.getElem?_append_right (by rw[Qao,Qos];omega),Qao,Qos,List.getElem?_append_right (by rw[Qao,ho];omega),Qao,ho];rfl
theorem Xfp(s:St)(op:List Nat)(n m:Nat)(ho:op.length=64):(hL s op n).set 73 (.int .u64 (m:Int))=hL s op m:=by
 rw[hL,List.set_cons_succ,List.set_append_right _ _ (by rw[Qao,Qos];omega),Qao,Qos,List.set_append_right _ _ (by rw[Qao,ho];omega),Qao,ho];rfl
theorem Qrk(s t:St)(op:List Nat)(n:Nat):splice (hL s op n) 1 (lst .u32 t.list)=hL t op n:=by
 rw[splice,Qao,Qos,hL,hL]
 rfl
def Qfc(op:List Nat)(at_:Nat)(l:List Nat):List Nat:=op.take at_++(l++op.drop (at_+l.length))
theorem Qh8(op:List Nat)(i:Nat)(l:List Nat)(h:i+l.length<=op.length):(Qfc op i l).length=op.length:=by simp[Qfc];omega
theorem Qr6(s:St)(op:List Nat)(n i:Nat)(l:List Nat)(h:i+l.length<=op.length):splice (hL s op n) (9+i) (lst .u8 l)=hL s (Qfc op i l) n:=by
 have e8:(lst .u32 s.list).length=8:=rfl
 have e1:(hL s op n).take (9+i)= .bool true::(lst .u32 s.list++lst .u8 (op.take i)):=by
  rw[hL,show 9+i=(8+i)+1 from by omega,List.take_succ_cons,List.take_append,e8,List.take_of_length_le (by rw[e8];omega),show 8+i-8=i from by omega,List.take_append,Qao,show i-op.length=0 from by omega,List.take_zero,List.append_nil,lst,lst,lst,List.map_take]
 have e2:(hL s op n).drop (9+i+l.length)=lst .u8 (op.drop (i+l.length))++ [.int .u64 (n:Int)]:=by
  rw[hL,show 9+i+l.length=(8+(i+l.length))+1 from by omega,List.drop_succ_cons,List.drop_append,e8,List.drop_eq_nil_of_le (by rw[e8];omega),List.nil_append,show 8+(i+l.length)-8=i+l.length from by omega,List.drop_append,Qao,show i+l.length-op.length=0 from by omega,List.drop_zero,lst,lst,List.map_drop]
 rw[splice,Qao,e1,e2,hL,Qfc]
 simp[lst]
structure Hs (w:World) (g:Nat) (msg:List Nat) (op:List Nat):Prop where
 blk:w.heap[g]?=some (.cells (hL (blocks (msg.length/64) msg Sha.start) op msg.length).toArray 98 (0,0))
 len:op.length=64
 lo:∀j,op.getD j 0<256
 tk:op.take (msg.length%64)=msg.drop (64*(msg.length/64))
 hi:∀j,msg.getD j 0<256
theorem Qum(f:St->List Nat->St)(n:Nat):∀(l m:List Nat) (s:St),64*n<=l.length->Qfa f n (l++m) s=Qfa f n l s:=by
 induction n with
 | zero=>intro l m s _;rfl
 | succ n ih=>
   intro l m s h
   rw[Qda,Qda,List.drop_append_of_le_length (by omega),List.take_append_of_le_length (by omega),ih _ _ _ (by rw[List.length_drop];omega)]
theorem Qn3(n:Nat)(l m:List Nat)(s:St)(h:64*n<=l.length):blocks n (l++m) s=blocks n l s:=Qum _ n l m s h
theorem Qtl(n:Nat)(l:List Nat)(s:St):blocks (n+1) l s=Sha.step (blocks n l s) ((l.drop (64*n)).take 64):=Qjm _ n l s
theorem Qqb(l:List Nat):(∀j,l.getD j 0<256) ↔ ∀z∈l,z<256:=by
 constructor
 ·intro h z hz
  obtain⟨i,hi,rfl⟩:=List.getElem_of_mem hz
  have:=h i
  simpa [List.getD,List.getElem?_eq_getElem hi] using this
 ·intro h j
  by_cases hj:j<l.length
  ·have:l.getD j 0∈l:=by
    simp only[List.getD,List.getElem?_eq_getElem hj,Option.getD_some]
    exact List.getElem_mem hj
   exact h _ this
  ·simp[List.getD,List.getElem?_eq_none (show l.length<=j from by omega)]
theorem Qtj(op:List Nat)(i:Nat)(l:List Nat)(ho:∀j,op.getD j 0<256)(hl:∀j,l.getD j 0<256):∀j,(Qfc op i l).getD j 0<256:=by
 rw[Qqb] at *
 intro z hz
 rw[Qfc,List.mem_append,List.mem_append] at hz
 rcases hz with h | h | h
 ·exact ho z (List.mem_of_mem_take h)
 ·exact hl z h
 ·exact ho z (List.mem_of_mem_drop h)
theorem Qqf(op:List Nat)(i:Nat)(l:List Nat)(h:i+l.length<=op.length):(Qfc op i l).take (i+l.length)=op.take i++l:=by
 have e:(op.take i++l).length=i+l.length:=by simp;omega
 rw[Qfc,<-List.append_assoc,List.take_append_of_le_length (by omega),List.take_of_length_le (by omega)]
theorem Xh2{W:World}{g:Nat}{M op l:List Nat}(len:op.length=64)(lo:∀j,op.getD j 0<256)(tk:op.take (M.length%64)=M.drop (64*(M.length/64)))(hi:∀j,M.getD j 0<256)(hl:∀j,l.getD j 0<256)(hlt:M.length%64+l.length<64)
 (hb:W.heap[g]?=some (.cells (hL (blocks (M.length/64) M Sha.start) (Qfc op (M.length%64) l) (M.length+l.length)).toArray 98 (0,0))):Hs W g (M++l) (Qfc op (M.length%64) l):=by
 have e1:(M++l).length=M.length+l.length:=List.length_append
 have e2:(M++l).length/64=M.length/64:=by omega
 have e3:(M++l).length%64=M.length%64+l.length:=by omega
 refine⟨?_,by rw[Qh8 _ _ _ (by omega)];exact len,Qtj _ _ _ lo hl,?_,Qj9 _ _ hi hl⟩
 ·rw[e2,Qn3 _ _ _ _ (by omega),e1];exact hb
 ·rw[e3,e2,Qqf _ _ _ (by omega),tk,List.drop_append_of_le_length (by omega)]
theorem Xh5{W:World}{g:Nat}{M op l:List Nat}(len:op.length=64)(lo:∀j,op.getD j 0<256)(tk:op.take (M.length%64)=M.drop (64*(M.length/64)))(hi:∀j,M.getD j 0<256)(hl:∀j,l.getD j 0<256)(heq:M.length%64+l.length=64)
 (hb:W.heap[g]?=some (.cells (hL (Sha.step (blocks (M.length/64) M Sha.start) (Qfc op (M.length%64) l)) (Qfc op (M.length%64) l) (M.length+l.length)).toArray 98 (0,0))):Hs W g (M++l) (Qfc op (M.length%64) l):=by
 have e1:(M++l).length=M.length+l.length:=List.length_append
 have e2:(M++l).length/64=M.length/64+1:=by omega
 have e3:(M++l).length%64=0:=by omega
 have hpl:(Qfc op (M.length%64) l).length=64:=by rw[Qh8 _ _ _ (by omega)];exact len
 have e4:Qfc op (M.length%64) l=(M++l).drop (64*(M.length/64)):=by
  have h:=Qqf op (M.length%64) l (by omega)
  rw[heq,List.take_of_length_le (by omega)] at h
  rw[h,tk,List.drop_append_of_le_length (by omega)]
 refine⟨?_,hpl,Qtj _ _ _ lo hl,?_,Qj9 _ _ hi hl⟩
 ·rw[e2,Qtl,Qn3 _ _ _ _ (by omega),<-e4,List.take_of_length_le (by omega),e1];exact hb
 ·rw[e3,e2,List.take_zero,List.drop_eq_nil_of_le (by omega)]
end Sh
end Go.Proofs.YtibjlbcnapoblaaGreatDoor
