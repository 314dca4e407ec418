/- Contracts and facts. -/
import Derived.Test.YtibjlbcnapoblaaGreatDoorPart10
import Derived.Test.YtibjlbcnapoblaaGreatDoorPart01
namespace Go.Proofs.YtibjlbcnapoblaaGreatDoor
set_option maxRecDepth 100000
set_option maxHeartbeats 6400000
section
open Go.RowKit Hf
theorem Tryz.info5:(Tryz.prog.info? 5).map (fun i=>(i.zero,i.size,i.bytes))=some (some (.int .u8 0),1,1):=by kernel_rfl
theorem Qgq{w:World}{B e n:Nat}{v:Value}{xs:List Value}(h:w.ownsRow B e 1 v n xs):∃a m cap,v= .slice a m cap:=by
 rcases h.2 with ⟨rfl,rfl⟩ | ⟨g,cap,cur,rfl,_⟩
 ·exact⟨none,0,0,rfl⟩
 ·exact⟨_,_,cap,rfl⟩
theorem Qsp(zs:List Int)(h:512<zs.length):Qco zs=51:=by
 have hb:Qaq zs=false:=by
  unfold Qaq Qhl
  simp[show ¬zs.length<=512 from by omega]
 unfold Qco;rw[hb];rfl
theorem Qyj(zs:List Int)(k:Nat)(hk:k<zs.length)(h:¬(0<=zs.getD k 0∧zs.getD k 0<=15)):Qco zs=51:=by
 unfold Qco;rw[Xhl zs k hk h];rfl
theorem Tryz.info124:(Tryz.prog.info? 124).map (fun i=>(i.zero,i.size,i.bytes))=some (some (.int .u16 0),1,2):=by kernel_rfl
def Qc1(n k:Nat)(l:List Int):List Int:=l.take k++List.replicate (n-k) 0
theorem Qe7(n k:Nat)(l:List Int)(hl:l.length=n)(hk:k<=n):(Qc1 n k l).length=n:=by
 simp[Qc1];omega
theorem Qhc(n:Nat)(l:List Int):Qc1 n 0 l=List.replicate n 0:=by simp[Qc1]
theorem Qg7(n:Nat)(l:List Int)(hl:l.length=n):Qc1 n n l=l:=by
 simp[Qc1,<-hl]
theorem Xdp(n k:Nat)(l:List Int)(hl:l.length=n)(hk:k<n):(Qc1 n k l).set k (l.getD k 0)=Qc1 n (k+1) l:=by
 unfold Qc1
 rw[List.set_append_right _ _ (by simp;omega),show k-(l.take k).length=0 from by simp;omega,show n-k=(n-(k+1))+1 from by omega,List.replicate_succ,List.set_cons_zero]
 have e:l.getD k 0=l[k]'(by omega):=by simp[List.getD,List.getElem?_eq_getElem (show k<l.length from by omega)]
 rw[e,List.take_succ_eq_append_getElem (show k<l.length from by omega),List.append_assoc]
 rfl
theorem Qxi(n k:Nat)(l:List Int)(hl:l.length=n)(hk:k<n)(h0:l.getD k 0=0):Qc1 n (k+1) l=Qc1 n k l:=by
 unfold Qc1
 have e:l.getD k 0=l[k]'(by omega):=by simp[List.getD,List.getElem?_eq_getElem (show k<l.length from by omega)]
 rw[List.take_succ_eq_append_getElem (show k<l.length from by omega),<-e,h0,List.append_assoc,show n-k=(n-(k+1))+1 from by omega,List.replicate_succ]
 rfl
structure Xdv (w wr:World) (gn gc n:Nat) (nx:List Nat) (cs:List Int):Prop where
 nxt:wr.heap[gn]?=some (.cells (arr .i64 nx) 216 (0,0))
 row:wr.ownsRow w.heap.size 124 1 (.slice (some ⟨gc,0,none⟩) n n) n (cs.map (Value.int .u16))
 bel:Below w.heap.size w wr
theorem Xdv.putRow{w wr:World}{gn gc n:Nat}{nx:List Nat}{cs:List Int}(h:Xdv w wr gn gc n nx cs)(hne:gn≠gc)(hgc:w.heap.size<=gc)(j:Nat)(x:Int):Xdv w (wr.setCell ⟨gc,j,none⟩ (.int .u16 x)) gn gc n nx (cs.set j x):=by
 have hst:=h.row.stored j (.int .u16 x)
 refine⟨?_,?_,h.bel.setCell hgc _⟩
 ·obtain⟨_,_,_,_,_,hh,_⟩:∃g cap cur,Value.slice (some ⟨gc,0,none⟩) n n= .slice (some ⟨g,0,none⟩) n cap∧w.heap.size<=g∧wr.heap[g]?=some (.cells cur 124 (0,0))∧True:=by
   rcases h.row.2 with ⟨hv,_⟩ | ⟨g,cap,cur,hv,hb,hg,_⟩
   ·cases hv
   ·exact⟨g,cap,cur,hv,hb,hg,trivial⟩
  rename_i g cap cur hv _ _
  injection hv with hv
  injection hv with hv
  injection hv with hv _
  subst hv
  rw[Qac hh hne];exact h.nxt
 ·rw[List.map_set];exact hst.1
theorem Xdv.putNext{w wr:World}{gn gc n:Nat}{nx:List Nat}{cs:List Int}(h:Xdv w wr gn gc n nx cs)(hne:gn≠gc)(hgn:w.heap.size<=gn)(j v:Nat):Xdv w (wr.setCell ⟨gn,j,none⟩ (.int .i64 (v:Int))) gn gc n (nx.set j v) cs:=by
 refine⟨?_,?_,h.bel.setCell hgn _⟩
 ·rw[Joins.block_setCell h.nxt,Qdf]
 ·exact ownsRow_setCell_other h.row (by simp[Value.ownBlock];omega) _
theorem Xd3(a:Option Addr)(cap:Nat)(zs:List Int)(w:World)(hr:Ri w .i64 a cap zs)(hc:Qaq zs=false):
 Calls Tryz.prog 132 #[.slice a zs.length cap] w fun e w'=>e= .returned (.tuple #[.slice none 0 0,.int .i64 51])∧Below w.heap.size w w':=by
 have HT:=hid (Qjv a cap zs w hr)
 have e2:Qco zs=51:=by unfold Qco;rw[hc];rfl
 rw[e2] at HT
 have htl:=Que zs
 have hsz:(arr .i64 (Qty zs)).size=16:=by rw[Qav,htl]
 clear hr e2 hc
 generalize Qty zs=tz at *
 generalize zs.length=len at *
 go_enter Tryz.func132,Tryz.ntmps132
 go_wp2_with fail
 refine HT.out.mono ?_
 rintro _ w1 ⟨rfl,hb1⟩
 have e1:=Qag w1 (.cells (arr .i64 z16) 216)
 have hb2:=Bn hb1 (Qab w1 (.cells (arr .i64 z16) 216))
 go_wp2_with (first
  | (refine Qad rfl 216 rfl (some 4) rfl (arr .i64 z16) Tryz.zero216 w1.heap.size rfl ?_)
  | (refine wpList_store_rowTo rfl 216 _ _ rfl rfl w1.heap.size (arr .i64 tz) rfl rfl 216 _ e1 (by rw[hsz];exact Tryz.size216) (by rw[hsz];rfl) (Qbe _ _) ?_))
 go_ret2
 exact⟨rfl,below_setRow hb2 hb1.size _⟩
theorem Qne(a:Option Addr)(cap:Nat)(zs:List Int)(w:World)(hr:Ri w .i64 a cap zs)(hc:Qaq zs=true):
 Calls Tryz.prog 132 #[.slice a zs.length cap] w fun e w'=>∃v,e= .returned (.tuple #[v,.int .i64 0])∧w'.ownsRow w.heap.size 124 1 v (Qam zs).length ((Qam zs).map (Value.int .u16))∧Below w.heap.size w w':=by
 obtain⟨i0,hi,hz0,hz1,hz2⟩:=info_parts Tryz.info124
 have HT:=hid (Qjv a cap zs w hr)
 have e2:Qco zs=0:=by unfold Qco;rw[hc];rfl
 have e3:Qty zs=tal zs:=by unfold Qty;rw[hc];rfl
 rw[e2,e3] at HT
 have hok:Qhl zs=true:=by unfold Qaq at hc;rw[Bool.and_eq_true] at hc;exact hc.1
 have hlen:=(Qb0 hok).1
 have HA:=hid (Qb0 hok).2
 have HF:Hid (∀w:World,Calls Tryz.prog 154 #[.agg (arr .i64 (tal zs))] w fun e w'=>e= .returned (.agg (arr .i64 (Qdm zs 16)))∧Below w.heap.size w w'):=fun w=>Qsn zs w (by omega)
 have hsz:Hid ((arr .i64 (tal zs)).size=16):=by show _=_;rw[Qav,Qba]
 have hszf:Hid ((arr .i64 (Qdm zs 16)).size=16):=by show _=_;rw[Qav,Qdb]
 have HR:=hid hr
 obtain⟨len,hl⟩:∃n,n=zs.length:=⟨_,rfl⟩
 have HL:=hid hl
 have hcl:=Qax zs
 rw[<-hl] at hlen hcl HT|-
 have HCL:=hid hcl
 clear hr e2 e3 hok hc hl hcl
 generalize hTZ:tal zs=tz at *
 clear hTZ
 go_enter Tryz.func132,Tryz.ntmps132
 go_wp2_with fail
 refine HT.out.mono ?_
 rintro _ w1 ⟨rfl,hb1⟩
 have e1:=Qag w1 (.cells (arr .i64 z16) 216)
 have hb2:=below_setRow (Bn hb1 (Qab w1 (.cells (arr .i64 z16) 216))) hb1.size (arr .i64 tz)
 have e2:=setRow_heap _ _ _ (arr .i64 tz) _ _ e1
 have HB2:=hid hb2
 go_wp2_with (first
  | (refine Qad rfl 216 rfl (some 4) rfl (arr .i64 z16) Tryz.zero216 w1.heap.size rfl ?_)
  | (refine wpList_store_rowTo rfl 216 _ _ rfl rfl w1.heap.size (arr .i64 tz) rfl rfl 216 _ e1 (by rw[hsz.out];exact Tryz.size216) (by rw[hsz.out];rfl) (Qbe _ _) ?_)
  | (refine wpList_load_row rfl 216 _ rfl w1.heap.size rfl 216 (arr .i64 tz) (0,0) _ e2 Tryz.underlying216 rfl (by rw[hsz.out];exact Tryz.size216) ?_)
  | fail)
 generalize (w1.alloc (.cells (arr .i64 z16) 216)).setRow w1.heap.size (arr .i64 tz)=w2 at *
 refine(HF.out _).mono ?_
 rintro _ w3 ⟨rfl,hb3⟩
 have hB3:=Bn HB2.out hb3
 have e4:=Qag w3 (.cells (arr .i64 z16) 216)
 have hb4:=below_setRow (Bn hB3 (Qab w3 (.cells (arr .i64 z16) 216))) hB3.size (arr .i64 (Qdm zs 16))
 have e5:=setRow_heap _ _ _ (arr .i64 (Qdm zs 16)) _ _ e4
 have hg3:=hB3.size
 have HB4:=hid hb4
 clear e2 e1 hb1 hb2 hb3 hb4 HT HF HB2 hB3
 go_wp2_with (first
  | (refine Qad rfl 216 rfl (some 6) rfl (arr .i64 z16) Tryz.zero216 w3.heap.size rfl ?_)
  | (refine wpList_store_rowTo rfl 216 _ _ rfl rfl w3.heap.size (arr .i64 (Qdm zs 16)) rfl rfl 216 _ e4 (by rw[hszf.out];exact Tryz.size216) (by rw[hszf.out];rfl) (Qbe _ _) ?_)
  | (at_make;refine wpList_make_full _ rfl _ _ 118 rfl w.heap.size 124 i0 (.int .u16 0) 1 Tryz.underlying118 hi hz0 hz1 .i64 .i64 _ _ len rfl rfl (by first | rfl | omega) (by first | rfl | omega) ?b2 ?b3 ?b4 ?_))
 case b2=>rw[hz2];omega
 case b3=>unfold maxLen;omega
 case b4=>exact HB4.out.size
 intro w5 hown0 hgrow
 have hsz4:((w3.alloc (.cells (arr .i64 z16) 216)).setRow w3.heap.size (arr .i64 (Qdm zs 16))).heap.size=w3.heap.size+1:=by simp[World.setRow]
 obtain⟨gc,hgc⟩:∃g,g=w3.heap.size+1:=⟨_,rfl⟩
 have hown1:w5.ownsRow w.heap.size 124 1 (.slice (some ⟨gc,0,none⟩) len len) len ((Qc1 len 0 (Qam zs)).map (Value.int .u16)):=by
  rw[hgc,Qhc]
  rw[toList_madeCells_one] at hown0
  simpa using hown0
 have hB5:Below w.heap.size w w5:=HB4.out.grown hgrow HB4.out.size (fun k hk=>by cases hk)
 have hn5:w5.heap[w3.heap.size]?=some (.cells (arr .i64 (Qdm zs 16)) 216 (0,0)):=by
  have hb:=(Below.refl ((w3.alloc (.cells (arr .i64 z16) 216)).setRow w3.heap.size (arr .i64 (Qdm zs 16))).heap.size _).grown hgrow (Nat.le_refl _) (fun k hk=>by cases hk)
  rw[hb.block _ (by rw[hsz4];omega)];exact e5
 have HM:Hid (Xdv w w5 w3.heap.size gc len (Qh6 zs 0) (Qc1 len 0 (Qam zs))):=⟨by rw[Qxt];exact hn5,hown1,hB5⟩
 have hne:w3.heap.size≠gc:=by omega
 have hgw:w.heap.size<=gc:=by omega
 rw[<-hgc]
 clear e4 e5 HB4 hown0 hgrow hsz4 hown1 hB5 hn5 hgc
 generalize w3.heap.size=gn at *
 go_wp2_with fail
 go_loopw [25] (fun i wr=>∃k:Nat,k<=len∧i= .int .i64 k∧Xdv w wr gn gc len (Qh6 zs k) (Qc1 len k (Qam zs))) (fun i _=>len-(intOf i).toNat)
 case atStart=>exact⟨0,by omega,rfl,HM.out⟩
 case round=>
  clear HM
  obtain⟨k,hk,rfl,hM⟩:=hrel
  by_cases hlt:k<len
  ·have hkl:(k:Int)<(len:Int):=by omega
   have HZ:Hid (k<zs.length):=by show _<_;rw[<-HL.out];exact hlt
   obtain⟨b,off,rfl,hbw,hc⟩:=(HR.out).cells (by rw[<-HL.out];omega)
   have ck:wr.cell? ⟨b,off+k,none⟩=some (.int .i64 (zs.getD k 0)):=(hM.bel.cell (p:=⟨b,off+k,none⟩) hbw).trans (hc k HZ.out)
   have hrng:=HA.out _ (Qbt zs k HZ.out)
   have hcd:=Qer zs k HZ.out
   clear hc
   by_cases hz:0<zs.getD k 0
   ·obtain⟨l,hlz⟩:∃l:Nat,zs.getD k 0=(l:Int):=⟨(zs.getD k 0).toNat,by omega⟩
    have hnl:=Qd6 zs k
    have c1:=(Joins.cell_of_block hM.nxt l).trans (Qas .i64 _ l (by omega))
    rw[Qdl _ _ _ (by omega)] at c1
    have f1:=Joins.unfrozen_of_block hM.nxt l
    have hcell:∃u,wr.cell? ⟨gc,k,none⟩=some u:=by
     rw[hM.row.cellAt k (by omega)]
     exact⟨_,List.getElem?_eq_getElem (by rw[List.length_map,Qe7 len k _ HCL.out hk];exact hlt)⟩
    obtain⟨u,hu⟩:=hcell
    have f2:=hM.row.frozenAt k
    have hfs:=Qhz zs l (by omega) (by rw[<-HL.out];omega)
    have hcn:=Qle (zs.take k) l
    have hcl2:(zs.take k).length<=512:=by rw[List.length_take];omega
    have hcv:(Qam zs).getD k 0=(((first zs l+cnt (zs.take k) l)%65536:Nat):Int):=by
     rw[hcd];unfold codeF Qds;rw[if_pos hz,hlz];rfl
    have h1:=hM.putRow hne hgw k ((Qam zs).getD k 0)
    have e1:(Qc1 len k (Qam zs)).set k ((Qam zs).getD k 0)=Qc1 len (k+1) (Qam zs):=by
     exact Xdp len k (Qam zs) HCL.out hlt
    rw[e1] at h1
    have h2:=h1.putNext hne hg3 l (first zs l+cnt (zs.take k) l+1)
    rw[Xcc zs k l HZ.out hlz (by omega) (by omega),hcv] at h2
    have c1':=(Joins.cell_of_block h1.nxt l).trans (Qas .i64 _ l (by omega))
    rw[Qdl _ _ _ (by omega),hcv] at c1'
    have f1':=Joins.unfrozen_of_block h1.nxt l
    rw[hcv] at f1'
    have HP:=hid h2
    rw[hlz] at ck hz hrng
    clear h1 h2 e1 hM hnl hcd hcv hlz HZ
    generalize first zs l=f at *
    generalize cnt (zs.take k) l=c at *
    have HV:Hid (IntKind.u16.wrap ((f:Int)+(c:Int))=(((f+c)%65536:Nat):Int)):=by show _=_;rw[IntKind.wrap_u16];omega
    have HV2:Hid ((f:Int)+(c:Int)+1=((f+c+1:Nat):Int)):=by show _=_;omega
    go_wp2
    rw[HV.out,HV2.out]
    exact⟨⟨k+1,by omega,by go_num,HP.out⟩,by simp[intOf];omega⟩
   ·have hz0:zs.getD k 0=0:=by omega
    have hc0:(Qam zs).getD k 0=0:=by rw[hcd];unfold codeF;rw[if_neg hz]
    have HP:Hid (Xdv w wr gn gc len (Qh6 zs (k+1)) (Qc1 len (k+1) (Qam zs))):=by
     show Xdv _ _ _ _ _ _ _
     rw[Qw0 zs k HZ.out (by omega),Qxi _ _ _ HCL.out hlt hc0];exact hM
    rw[hz0] at ck
    clear hM hcd hc0 hz hz0 hrng HZ
    go_wp2
    exact⟨⟨k+1,by omega,by go_num,HP.out⟩,by simp[intOf];omega⟩
  ·obtain rfl:k=len:=by omega
   rw[Qg7 _ _ HCL.out] at hM
   have hrow:=hM.row
   have hbel:=hM.bel
   clear hM
   go_wp2
   go_ret2
   exact⟨_,rfl,by rw[HCL.out];exact hrow,hbel⟩
def pcF(zs:List Int)(n i j:Nat):Int:=if (0<zs.getD j 0∧zs.getD j 0<(n:Int))∨(zs.getD j 0=(n:Int)∧j<i) then codeF zs j else 0
def pcL(zs:List Int)(n i:Nat):List Int:=(List.range zs.length).map (pcF zs n i)
theorem Qdq(zs:List Int)(n i:Nat):(pcL zs n i).length=zs.length:=by simp[pcL]
theorem Qe8(zs:List Int)(n i j:Nat)(h:j<zs.length):(pcL zs n i).getD j 0=pcF zs n i j:=by
 simp[pcL,List.getD,h]
theorem Qgn{l m:List Int}(h:l.length=m.length)(he:∀i,i<l.length->l.getD i 0=m.getD i 0):l=m:=by
 refine List.ext_getElem h (fun i h1 h2=>?_)
 have:=he i h1
 simpa [List.getD,List.getElem?_eq_getElem h1,List.getElem?_eq_getElem h2] using this
theorem Qks(l:List Int)(i j:Nat)(v:Int)(h:i<l.length):(l.set i v).getD j 0=if j=i then v else l.getD j 0:=by
 simp only[List.getD,List.getElem?_set]
 by_cases e:i=j
 ·subst e;simp[h]
 ·rw[if_neg e,if_neg (fun x=>e x.symm)]
theorem Xat(zs:List Int):pcL zs 1 0=List.replicate zs.length 0:=by
 refine Qgn (by simp[pcL]) (fun j hj=>?_)
 rw[Qdq] at hj
 rw[Qe8 _ _ _ _ hj]
 have e:(List.replicate zs.length (0:Int)).getD j 0=0:=by simp[List.getD,hj]
 rw[e];unfold pcF
 rw[if_neg]
 omega
theorem Xjo(zs:List Int)(n i:Nat)(hi:i<zs.length)(hz:zs.getD i 0=(n:Int)):(pcL zs n i).set i (codeF zs i)=pcL zs n (i+1):=by
 refine Qgn (by simp[pcL]) (fun j hj=>?_)
 rw[List.length_set,Qdq] at hj
 rw[Qks _ _ _ _ (by rw[Qdq];exact hi),Qe8 _ _ _ _ hj,Qe8 _ _ _ _ hj]
 by_cases e:j=i
 ·subst e;rw[if_pos rfl];unfold pcF;rw[if_pos (Or.inr ⟨hz,by omega⟩)]
 ·rw[if_neg e];unfold pcF
  by_cases h1:0<zs.getD j 0∧zs.getD j 0<(n:Int)
  ·rw[if_pos (Or.inl h1),if_pos (Or.inl h1)]
  ·by_cases h2:zs.getD j 0=(n:Int)∧j<i
   ·rw[if_pos (Or.inr h2),if_pos (Or.inr ⟨h2.1,by omega⟩)]
   ·rw[if_neg (by omega),if_neg (by omega)]
theorem Xeo(zs:List Int)(n i:Nat)(hz:¬zs.getD i 0=(n:Int)):pcL zs n (i+1)=pcL zs n i:=by
 refine Qgn (by simp[pcL]) (fun j hj=>?_)
 rw[Qdq] at hj
 rw[Qe8 _ _ _ _ hj,Qe8 _ _ _ _ hj]
 unfold pcF
 by_cases e:j=i
 ·subst e
  by_cases h1:0<zs.getD j 0∧zs.getD j 0<(n:Int)
  ·rw[if_pos (Or.inl h1),if_pos (Or.inl h1)]
  ·rw[if_neg (by omega),if_neg (by omega)]
 ·by_cases h1:0<zs.getD j 0∧zs.getD j 0<(n:Int)
  ·rw[if_pos (Or.inl h1),if_pos (Or.inl h1)]
  ·by_cases h2:zs.getD j 0=(n:Int)∧j<i
   ·rw[if_pos (Or.inr ⟨h2.1,by omega⟩),if_pos (Or.inr h2)]
   ·rw[if_neg (by omega),if_neg (by omega)]
theorem Xd7(zs:List Int)(n:Nat)(hn:0<n):pcL zs n zs.length=pcL zs (n+1) 0:=by
 refine Qgn (by simp[pcL]) (fun j hj=>?_)
 rw[Qdq] at hj
 rw[Qe8 _ _ _ _ hj,Qe8 _ _ _ _ hj]
 unfold pcF
 by_cases h1:0<zs.getD j 0∧zs.getD j 0<(n:Int)+1
 ·rw[if_pos (by omega),if_pos (Or.inl (by omega))]
 ·rw[if_neg (by omega),if_neg (by omega)]
theorem Xek(zs:List Int)(h:∀z∈zs,0<=z∧z<=15):pcL zs 16 0=Qam zs:=by
 refine Qgn (by simp[pcL,Qam]) (fun j hj=>?_)
 rw[Qdq] at hj
 rw[Qe8 _ _ _ _ hj,Qer _ _ hj]
 have hr:=h _ (Qbt zs j hj)
 unfold pcF
 by_cases h1:0<zs.getD j 0
 ·rw[if_pos (Or.inl ⟨h1,by omega⟩)]
 ·rw[if_neg (by omega)];unfold codeF;rw[if_neg h1]
def Qdj(z:Int):Bool:=decide (z<0)||decide (1073741824<z)
def Qbp(z:Int):Bool:=decide (15<z)
theorem Qw2(z:Int)(w:World):Calls Tryz.prog 163 #[.int .i64 z] w fun e w'=>e= .returned (.bool (Qdj z))∧w'=w:=by
 by_cases h:z<0
 ·have e:Qdj z=true:=by simp[Qdj,h]
  rw[e]
  go_enter Tryz.func163,Tryz.ntmps163
  go_wp2
  go_ret
  exact⟨rfl,rfl⟩
 ·have e:Qdj z=decide (1073741824<z):=by simp[Qdj,h]
  rw[e]
  go_enter Tryz.func163,Tryz.ntmps163
  go_wp2
  go_ret
  exact⟨rfl,rfl⟩
theorem Qwv(z:Int)(w:World):Calls Tryz.prog 151 #[.int .i64 z] w fun e w'=>e= .returned (.bool (Qbp z))∧w'=w:=by
 unfold Qbp
 go_enter Tryz.func151,Tryz.ntmps151
 go_wp2
 go_ret
 exact⟨rfl,rfl⟩
theorem Xfa(a:Option Addr)(cap:Nat)(zs:List Int)(w:World)(hr:Ri w .i64 a cap zs):
 Calls Tryz.prog 166 #[.slice a zs.length cap,.func (.func 163) #[] #[]] w fun e w'=>(∃r,e= .returned (.int .i64 r)∧(0<=r↔zs.any Qdj=true)∧ -1<=r)∧w'=w:=by
 have HR:=hid hr
 have hmax:=hr.most
 have hroom:=hr.room
 unfold maxLen at hmax
 obtain⟨len,hl⟩:∃n,n=zs.length:=⟨_,rfl⟩
 have HL:=hid hl
 rw[<-hl] at hroom|-
 clear hr hl
 go_enter Tryz.func166,Tryz.ntmps166
 go_wp2
 go_loop [8] (fun i=>∃k:Nat,k<=len∧i= .int .i64 k∧Hid (∀j,j<k->Qdj (zs.getD j 0)=false)) (fun i=>len-(intOf i).toNat)
 case atStart=>exact⟨0,by omega,rfl,fun j hj=>absurd hj (by omega)⟩
 case round=>
  obtain⟨k,hk,rfl,HA⟩:=hrel
  by_cases hlt:k<len
  ·have hkl:(k:Int)<(len:Int):=by omega
   have HZ:Hid (k<zs.length):=by show _<_;rw[<-HL.out];exact hlt
   obtain⟨b,off,rfl,hbw,hc⟩:=(HR.out).cells (by rw[<-HL.out];omega)
   have ck:=hc k HZ.out
   have HW:=hid (Qw2 (zs.getD k 0))
   clear hc
   cases hq:Qdj (zs.getD k 0) with
   | true=>
     have HQ:=hid hq
     rw[hq] at HW
     clear hq
     generalize hzz:zs.getD k 0=z at *
     have HZZ:=hid hzz
     clear hzz
     go_wp2_with fail
     refine(HW.out _).mono ?_
     rintro _ w1 ⟨rfl,hw⟩
     obtain rfl:=hw.symm
     clear hw
     go_wp2
     go_ret
     refine⟨⟨_,rfl,⟨fun _=>?_,fun _=>by omega⟩,by omega⟩,rfl⟩
     rw[List.any_eq_true]
     exact⟨zs.getD k 0,Qbt zs k HZ.out,by rw[HZZ.out];exact HQ.out⟩
   | false=>
     have HQ:=hid hq
     rw[hq] at HW
     clear hq
     have HA2:Hid (∀j,j<k+1->Qdj (zs.getD j 0)=false):=fun j hj=>by
      by_cases e:j=k
      ·subst e;exact HQ.out
      ·exact HA.out j (by omega)
     generalize zs.getD k 0=z at *
     go_wp2_with fail
     refine(HW.out _).mono ?_
     rintro _ w1 ⟨rfl,hw⟩
     obtain rfl:=hw.symm
     clear hw
     go_wp2
     exact⟨⟨k+1,by omega,by go_num,HA2⟩,by simp[intOf];omega⟩
  ·obtain rfl:k=len:=by omega
   go_wp2
   go_ret
   refine⟨⟨_,rfl,⟨fun h=>absurd h (by decide),fun h=>?_⟩,by omega⟩,rfl⟩
   obtain⟨x,hx,hpx⟩:=h
   obtain⟨i,hi,rfl⟩:=List.getElem_of_mem hx
   have:=HA.out i (by rw[HL.out];exact hi)
   simp only[List.getD,List.getElem?_eq_getElem hi,Option.getD_some] at this
   rw[this] at hpx
   cases hpx
theorem Qsv(a:Option Addr)(cap:Nat)(zs:List Int)(w:World)(hr:Ri w .i64 a cap zs):
 Calls Tryz.prog 150 #[.slice a zs.length cap,.func (.func 163) #[] #[]] w fun e w'=>e= .returned (.bool (zs.any Qdj))∧w'=w:=by
 have HI:=hid (Xfa a cap zs w hr)
 clear hr
 generalize zs.any Qdj=q at *
 generalize zs.length=len at *
 go_enter Tryz.func150,Tryz.ntmps150
 go_wp2_with fail
 refine HI.out.mono ?_
 rintro _ w1 ⟨⟨r,rfl,hiff,hr1⟩,hw⟩
 obtain rfl:=hw.symm
 clear hw
 have HF:=hid hiff
 clear hiff
 go_wp2
 go_ret
 refine⟨?_,rfl⟩
 have:decide (0<=r)=q:=by
  have:=HF.out
  cases q
  ·simp at this|-;omega
  ·simp at this|-;omega
 rw[<-this];rfl
theorem Xeu(a:Option Addr)(cap:Nat)(zs:List Int)(w:World)(hr:Ri w .i64 a cap zs):
 Calls Tryz.prog 166 #[.slice a zs.length cap,.func (.func 151) #[] #[]] w fun e w'=>(∃r,e= .returned (.int .i64 r)∧(0<=r↔zs.any Qbp=true)∧ -1<=r)∧w'=w:=by
 have HR:=hid hr
 have hmax:=hr.most
 have hroom:=hr.room
 unfold maxLen at hmax
 obtain⟨len,hl⟩:∃n,n=zs.length:=⟨_,rfl⟩
 have HL:=hid hl
 rw[<-hl] at hroom|-
 clear hr hl
 go_enter Tryz.func166,Tryz.ntmps166
 go_wp2
 go_loop [8] (fun i=>∃k:Nat,k<=len∧i= .int .i64 k∧Hid (∀j,j<k->Qbp (zs.getD j 0)=false)) (fun i=>len-(intOf i).toNat)
 case atStart=>exact⟨0,by omega,rfl,fun j hj=>absurd hj (by omega)⟩
 case round=>
  obtain⟨k,hk,rfl,HA⟩:=hrel
  by_cases hlt:k<len
  ·have hkl:(k:Int)<(len:Int):=by omega
   have HZ:Hid (k<zs.length):=by show _<_;rw[<-HL.out];exact hlt
   obtain⟨b,off,rfl,hbw,hc⟩:=(HR.out).cells (by rw[<-HL.out];omega)
   have ck:=hc k HZ.out
   have HW:=hid (Qwv (zs.getD k 0))
   clear hc
   cases hq:Qbp (zs.getD k 0) with
   | true=>
     have HQ:=hid hq
     rw[hq] at HW
     clear hq
     generalize hzz:zs.getD k 0=z at *
     have HZZ:=hid hzz
     clear hzz
     go_wp2_with fail
     refine(HW.out _).mono ?_
     rintro _ w1 ⟨rfl,hw⟩
     obtain rfl:=hw.symm
     clear hw
     go_wp2
     go_ret
     refine⟨⟨_,rfl,⟨fun _=>?_,fun _=>by omega⟩,by omega⟩,rfl⟩
     rw[List.any_eq_true]
     exact⟨zs.getD k 0,Qbt zs k HZ.out,by rw[HZZ.out];exact HQ.out⟩
   | false=>
     have HQ:=hid hq
     rw[hq] at HW
     clear hq
     have HA2:Hid (∀j,j<k+1->Qbp (zs.getD j 0)=false):=fun j hj=>by
      by_cases e:j=k
      ·subst e;exact HQ.out
      ·exact HA.out j (by omega)
     generalize zs.getD k 0=z at *
     go_wp2_with fail
     refine(HW.out _).mono ?_
     rintro _ w1 ⟨rfl,hw⟩
     obtain rfl:=hw.symm
     clear hw
     go_wp2
     exact⟨⟨k+1,by omega,by go_num,HA2⟩,by simp[intOf];omega⟩
  ·obtain rfl:k=len:=by omega
   go_wp2
   go_ret
   refine⟨⟨_,rfl,⟨fun h=>absurd h (by decide),fun h=>?_⟩,by omega⟩,rfl⟩
   obtain⟨x,hx,hpx⟩:=h
   obtain⟨i,hi,rfl⟩:=List.getElem_of_mem hx
   have:=HA.out i (by rw[HL.out];exact hi)
   simp only[List.getD,List.getElem?_eq_getElem hi,Option.getD_some] at this
   rw[this] at hpx
   cases hpx
theorem Qh5(a:Option Addr)(cap:Nat)(zs:List Int)(w:World)(hr:Ri w .i64 a cap zs):
 Calls Tryz.prog 150 #[.slice a zs.length cap,.func (.func 151) #[] #[]] w fun e w'=>e= .returned (.bool (zs.any Qbp))∧w'=w:=by
 have HI:=hid (Xeu a cap zs w hr)
 clear hr
 generalize zs.any Qbp=q at *
 generalize zs.length=len at *
 go_enter Tryz.func150,Tryz.ntmps150
 go_wp2_with fail
 refine HI.out.mono ?_
 rintro _ w1 ⟨⟨r,rfl,hiff,hr1⟩,hw⟩
 obtain rfl:=hw.symm
 clear hw
 have HF:=hid hiff
 clear hiff
 go_wp2
 go_ret
 refine⟨?_,rfl⟩
 have:decide (0<=r)=q:=by
  have:=HF.out
  cases q
  ·simp at this|-;omega
  ·simp at this|-;omega
 rw[<-this];rfl
def Qnw(zs:List Int):Bool:=decide (zs.length<=512) && !(zs.any Qdj)
theorem Qkp(a:Option Addr)(cap:Nat)(zs:List Int)(w:World)(hr:Ri w .i64 a cap zs):
 Calls Tryz.prog 147 #[.slice a zs.length cap] w fun e w'=>e= .returned (.bool (Qnw zs))∧w'=w:=by
 have HI:=hid (Qsv a cap zs w hr)
 clear hr
 unfold Qnw
 generalize zs.any Qdj=q at *
 generalize zs.length=len at *
 by_cases h:len<=512
 ·have h':(len:Int)<=512:=by omega
  rw[decide_eq_true h]
  go_enter Tryz.func147,Tryz.ntmps147
  go_wp2_with fail
  refine HI.out.mono ?_
  rintro _ w1 ⟨rfl,hw⟩
  obtain rfl:=hw.symm
  clear hw
  go_wp2
  go_ret
  exact⟨rfl,rfl⟩
 ·have h':¬(len:Int)<=512:=by omega
  rw[decide_eq_false h]
  go_enter Tryz.func147,Tryz.ntmps147
  go_wp2
  go_ret
  exact⟨rfl,rfl⟩
theorem Qu4(cs:List Int)(k:Nat)(hk:k<cs.length)(h:512<=k∨cs.getD k 0<0∨1073741824<cs.getD k 0):Qnw cs=false:=by
 unfold Qnw
 rcases h with h | h
 ·rw[decide_eq_false (by omega)];rfl
 ·have:cs.any Qdj=true:=by
   rw[List.any_eq_true]
   refine⟨_,Qbt cs k hk,?_⟩
   unfold Qdj
   rw[Bool.or_eq_true,decide_eq_true_eq,decide_eq_true_eq];exact h
  rw[this];simp
theorem Qq1(cs:List Int)(h:∀k,k<cs.length->¬(512<=k∨cs.getD k 0<0∨1073741824<cs.getD k 0)):Qnw cs=true:=by
 unfold Qnw
 rw[Bool.and_eq_true,decide_eq_true_eq,Bool.not_eq_true']
 refine⟨?_,?_⟩
 ·by_cases hl:cs.length<=512
  ·exact hl
  ·exact absurd (Or.inl (by omega)) (h 512 (by omega))
 ·cases hq:cs.any Qdj with
  | false=>rfl
  | true=>
    rw[List.any_eq_true] at hq
    obtain⟨x,hx,hp⟩:=hq
    obtain⟨i,hi,rfl⟩:=List.getElem_of_mem hx
    have:=h i hi
    simp only[List.getD,List.getElem?_eq_getElem hi,Option.getD_some] at this
    unfold Qdj at hp
    rw[Bool.or_eq_true,decide_eq_true_eq,decide_eq_true_eq] at hp
    exact absurd (Or.inr hp) this
theorem Qc3{cs:List Int}(h:Qnw cs=true):cs.length<=512∧∀k,0<=cs.getD k 0∧cs.getD k 0<=1073741824:=by
 unfold Qnw at h
 rw[Bool.and_eq_true,decide_eq_true_eq,Bool.not_eq_true'] at h
 refine⟨h.1,fun k=>?_⟩
 by_cases hk:k<cs.length
 ·have h2:=h.2
  rw[List.any_eq_false] at h2
  have:=h2 _ (Qbt cs k hk)
  unfold Qdj at this
  rw[Bool.or_eq_true,decide_eq_true_eq,decide_eq_true_eq] at this
  omega
 ·rw[Qf2 cs k (by omega)];omega
theorem Qd7{zs:List Int}(h:Qaq zs=true):zs.length<=512∧∀k,0<=zs.getD k 0∧zs.getD k 0<=15:=by
 unfold Qaq at h
 rw[Bool.and_eq_true] at h
 refine⟨(Qb0 h.1).1,fun k=>?_⟩
 by_cases hk:k<zs.length
 ·exact(Qb0 h.1).2 _ (Qbt zs k hk)
 ·rw[Qf2 zs k (by omega)];omega
theorem Qu9(x:Int)(w:World):Calls Tryz.prog 179 #[.int .i64 x] w fun e w'=>e= .returned (.bool false)∧w'=w:=by
 have h:(x != x)=false:=by simp
 go_enter Tryz.func179,Tryz.ntmps179
 go_wp2
 go_ret
 exact⟨rfl,rfl⟩
def Qgg(x y:Int):Int:=if x<y then -1 else if y<x then 1 else 0
theorem Qde(x y:Int):Qgg x y<0↔x<y:=by
 unfold Qgg;split
 ·simp[*]
 ·split<;>simp[*]
theorem Qp4(x y:Int)(w:World):Calls Tryz.prog 175 #[.int .i64 x,.int .i64 y] w fun e w'=>e= .returned (.int .i64 (Qgg x y))∧w'=w:=by
 have H1:=hid (Qu9 x w)
 have H2:=hid (Qu9 y w)
 by_cases h1:x<y
 ·have e:Qgg x y= -1:=by unfold Qgg;rw[if_pos h1]
  rw[e]
  go_enter Tryz.func175,Tryz.ntmps175
  go_wp2_with fail
  refine H1.out.mono ?_
  rintro _ w1 ⟨rfl,hw⟩
  obtain rfl:=hw.symm
  clear hw
  go_wp2_with fail
  refine H2.out.mono ?_
  rintro _ w1 ⟨rfl,hw⟩
  obtain rfl:=hw.symm
  clear hw
  go_wp2
  go_ret
  exact⟨rfl,rfl⟩
 ·by_cases h2:y<x
  ·have e:Qgg x y=1:=by unfold Qgg;rw[if_neg h1,if_pos h2]
   rw[e]
   go_enter Tryz.func175,Tryz.ntmps175
   go_wp2_with fail
   refine H1.out.mono ?_
   rintro _ w1 ⟨rfl,hw⟩
   obtain rfl:=hw.symm
   clear hw
   go_wp2_with fail
   refine H2.out.mono ?_
   rintro _ w1 ⟨rfl,hw⟩
   obtain rfl:=hw.symm
   clear hw
   go_wp2
   go_ret
   exact⟨rfl,rfl⟩
  ·have e:Qgg x y=0:=by unfold Qgg;rw[if_neg h1,if_neg h2]
   rw[e]
   go_enter Tryz.func175,Tryz.ntmps175
   go_wp2_with fail
   refine H1.out.mono ?_
   rintro _ w1 ⟨rfl,hw⟩
   obtain rfl:=hw.symm
   clear hw
   go_wp2_with fail
   refine H2.out.mono ?_
   rintro _ w1 ⟨rfl,hw⟩
   obtain rfl:=hw.symm
   clear hw
   go_wp2
   go_ret
   exact⟨rfl,rfl⟩
structure Cts (w:World) (gb gs:Nat) (gc oc cap:Nat) (cs:List Int):Prop where
 box:w.cell? ⟨gb,0,none⟩=some (.slice (some ⟨gc,oc,none⟩) cs.length cap)
 cells:∀j,j<cs.length->w.cell? ⟨gc,oc+j,none⟩=some (.int .i64 (cs.getD j 0))
 small:cs.length<=1000000
 ne1:gb≠gs
 ne2:gc≠gs
theorem Cts.kept{w w':World}{gb gs gc oc cap:Nat}{cs:List Int}(h:Cts w gb gs gc oc cap cs)(hg:w.grownBy w' (some gs)):Cts w' gb gs gc oc cap cs:=
 ⟨hg.cell h.box (by simp;exact h.ne1),fun j hj=>hg.cell (h.cells j hj) (by simp;exact h.ne2),h.small,h.ne1,h.ne2⟩
theorem Qii(i j:Nat)(gb gs gc oc cap:Nat)(cs:List Int)(w:World)(h:Cts w gb gs gc oc cap cs)(hi:i<cs.length)(hj:j<cs.length):
 Calls Tryz.prog 174 #[.int .i64 (i:Int),.int .i64 (j:Int),.pointer (some ⟨gb,0,none⟩)] w fun e w'=>e= .returned (.int .i64 (Qgg (key cs (i:Int)) (key cs (j:Int))))∧w'=w.drew:=by
 have c0:=h.box
 have c1:=h.cells i hi
 have c2:=h.cells j hj
 have hsm:=h.small
 have e1:key cs (i:Int)=cs.getD i 0:=by unfold key;rw[Int.toNat_natCast]
 have e2:key cs (j:Int)=cs.getD j 0:=by unfold key;rw[Int.toNat_natCast]
 rw[e1,e2]
 clear h e1 e2
 generalize cs.getD i 0=x at *
 generalize cs.getD j 0=y at *
 generalize cs.length=len at *
 have HC:=hid (Qp4 x y w.drew)
 generalize Qgg x y=z at *
 have hi':(i:Int)<(len:Int):=by omega
 have hj':(j:Int)<(len:Int):=by omega
 go_enter Tryz.func174,Tryz.ntmps174
 go_wp2_with fail
 refine wp_region_held_drew (S:=fun W=>W.cell? ⟨gb,0,none⟩=some (.slice (some ⟨gc,oc,none⟩) len cap)∧W.cell? ⟨gc,oc+i,none⟩=some (.int .i64 x)∧W.cell? ⟨gc,oc+j,none⟩=some (.int .i64 y)) (by kernel_rfl) ⟨c0,c1,c2⟩ (fun hS=>?_)
 refine Ord.tk (i:=0) (d:=6) (v:= .slice (some ⟨gc,oc,none⟩) len cap) rfl rfl ?h0 (by assumption) ?_
 case h0=>intro w hSw;have e:=hSw.1;go_simp;try with_reducible rfl
 simp only[Ord.s1,Ord.s2,Ord.s3]
 refine Ord.tk (i:=1) (d:=7) (v:=?v1) rfl rfl ?h1 (by assumption) ?_
 case h1=>intro w hSw;go_simp;try with_reducible rfl
 simp only[Ord.s1,Ord.s2,Ord.s3]
 refine Ord.tk (i:=2) (d:=8) (v:=?v2) rfl rfl ?h2 (by assumption) ?_
 case h2=>intro w hSw;go_simp;try with_reducible rfl
 simp only[Ord.s1,Ord.s2,Ord.s3]
 refine Ord.tk (i:=3) (d:=9) (v:= .int .i64 x) rfl rfl ?h3 (by assumption) ?_
 case h3=>intro w hSw;have e:=hSw.2.1;go_simp;try with_reducible rfl
 simp only[Ord.s1,Ord.s2,Ord.s3]
 refine Ord.tk (i:=4) (d:=10) (v:= .slice (some ⟨gc,oc,none⟩) len cap) rfl rfl ?h4 (by assumption) ?_
 case h4=>intro w hSw;have e:=hSw.1;go_simp;try with_reducible rfl
 simp only[Ord.s1,Ord.s2,Ord.s3]
 refine Ord.tk (i:=5) (d:=11) (v:=?v5) rfl rfl ?h5 (by assumption) ?_
 case h5=>intro w hSw;go_simp;try with_reducible rfl
 simp only[Ord.s1,Ord.s2,Ord.s3]
 refine Ord.tk (i:=6) (d:=12) (v:=?v6) rfl rfl ?h6 (by assumption) ?_
 case h6=>intro w hSw;go_simp;try with_reducible rfl
 simp only[Ord.s1,Ord.s2,Ord.s3]
 refine Ord.tk (i:=7) (d:=13) (v:= .int .i64 y) rfl rfl ?h7 (by assumption) ?_
 case h7=>intro w hSw;have e:=hSw.2.2;go_simp;try with_reducible rfl
 simp only[Ord.s1,Ord.s2,Ord.s3]
 refine wpAnyH_ready (rs:= [8]) (by as_aux_lemma=>kernel_rfl) (by simp) (AllReadyH.cons rfl (fun K hK=>?_) AllReadyH.nil)
 go_simp
 refine HC.out.mono ?_
 rintro _ w1 ⟨rfl,hw⟩
 obtain rfl:=hw.symm
 clear hw
 refine hK.out _ _ hS (fun _=>?_)
 clear hK K
 refine Ord.tk (i:=9) (d:=5) (v:=?v9) rfl rfl ?h9 (by assumption) ?_
 case h9=>intro w hSw;go_simp;try with_reducible rfl
 simp only[Ord.s1,Ord.s2,Ord.s3]
 refine wpAnyH_done (by as_aux_lemma=>kernel_rfl) ?_ _
 go_wp2
 go_ret
 exact⟨rfl,rfl⟩
end
end Go.Proofs.YtibjlbcnapoblaaGreatDoor
