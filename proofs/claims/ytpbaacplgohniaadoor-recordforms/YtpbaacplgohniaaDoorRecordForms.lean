/-
  RecordForms is proved for every input, as a tied card: which records may be, their bytes, the chain up to them, a file's size, which paths may be, and which records are alike; no condition but that the tables of package sha start as the text lays them.
-/
import Derived.Test.YtpbaacplgohniaaDoorRcQ
import Derived.Test.YtpbaacplgohniaaDoorRcQa
import Derived.Test.YtpbaacplgohniaaDoorRcX
import Derived.Test.YtpbaacplgohniaaDoorRcW
import Derived.Test.YtpbaacplgohniaaDoorRcY
namespace Go.Proofs.YtpbaacplgohniaaDoor.recordForms
open Go.ChangeShapes Go.WideShapes Go.ChangeAt Go.RowKit Go.Deep

theorem cut_ps (r : Rec) : (cutR r).ps.length ≤ 1000 := by
  show (r.ps.take 60).length ≤ 1000
  simp
  omega
theorem blk_later {X Y : World} {g : Nat} {o : Obj} (h : X.heap[g]? = some o) (hb : Below X.heap.size X Y) : Y.heap[g]? = some o := (hb.block _ (Array.getElem?_eq_some_iff.1 h).1).trans h
theorem wpList_store_as {P : Program} {ops : Array Oper} {rest : List Oper} {o : Oper} {a : Act} {w : World} {Q : Exit → Act → World → Prop} (hgd : o.guard = none) (ty : TypeId) (x y : Operand) (ho : o.op = .store ty x y) (hd : o.dst = none)
    (W : World) (old cells : Array Value) (hw : w = W.alloc (.cells old ty)) (hx : a.eval x = .pointer (some ⟨W.heap.size, 0, none⟩)) (hy : a.eval y = .agg cells) (hi : (P.info? ty).map (·.size) = some cells.size)
    (hold : old.size = cells.size) (h1 : cells.all (·.oneCell') = true) (V : World) (hV : V = W.alloc (.cells cells ty)) (h : wpList P ops Q rest a V) : wpList P ops Q (o :: rest) a w := by
  subst hV
  exact wpList_store_new hgd ty x y ho hd W old cells hw hx hy hi hold h1 h
/-- What stays while RecordForms goes on. -/
structure Fk (w X : World) (R Q : Rec) : Prop where
  box : Bx X w.heap.size R
  box2 : Bx X (w.heap.size + 1) Q
  rv : Rv X R
  rq : Rv X Q
  bel : Below w.heap.size w X
theorem Fk.later {w X Y : World} {R Q : Rec} (h : Fk w X R Q) (hb : Below X.heap.size X Y) : Fk w Y R Q :=
  ⟨h.box.later hb, h.box2.later hb, h.rv.later hb, h.rq.later hb, Bn h.bel hb⟩
/-- What Bytes hands back, as a row. -/
def bytL (r : Rec) : List Int := if mayB r = true then wrB r else []
theorem byt_ri {w0 w w' : World} {r : Rec} {v : Value} (h : BytP (mayB r) w w' v (wrB r)) (hv : Rv w0 r) : ∃ a cap, v = .slice a (bytL r).length cap ∧ Ri w' .u8 a cap (bytL r) := by
  unfold bytL
  rcases h with ⟨e, rfl⟩ | ⟨e, ho⟩
  · rw [if_neg (by rw [e]; simp)]
    exact ⟨none, 0, rfl, Nat.le_refl _, Nat.zero_le _, fun h => absurd h (by simp), fun j => by simp; rfl⟩
  · rw [if_pos e]
    exact Ri.own ho (get_u8 (wr_mem hv e))
/-- 4097 pieces that are made. -/
theorem mk_pcs (w : World) : ∃ o : Obj, (Instr.makeSlice 25 (.int .i64 4097) (.int .i64 4097)).run Tryd.prog w = .ok (.slice (some ⟨w.heap.size, 0, none⟩) 4097 4097) (w.alloc o) := by
  have h : ((Tryd.prog.info? 76).map fun i => decide (i.bytes * 4097 ≤ 281474976710656) && i.zero.isSome) = some true := by kernel_rfl
  obtain ⟨i, hi⟩ : ∃ i, Tryd.prog.info? 76 = some i := by
    cases h2 : Tryd.prog.info? 76 with
    | none => rw [h2] at h; cases h
    | some i => exact ⟨i, rfl⟩
  rw [hi] at h
  simp only [Option.map_some, Option.some.injEq, Bool.and_eq_true, decide_eq_true_eq] at h
  obtain ⟨z, hz⟩ := Option.isSome_iff_exists.1 h.2
  exact ⟨_, run_make (P := Tryd.prog) w 25 76 i z (by kernel_rfl) hi hz .i64 .i64 4097 4097 (by omega) (by omega) (by have := h.1; omega) (by omega)⟩
/-- Two digests that are the same are not unlike. -/
theorem dig_neq {oi : Oper} {ρ : Operand → Value} {t2 : TypeId} {x y : Operand} {d : List Int} (hd : d.length = 32) (ho : oi.op = .binOp .neq 23 x y t2) (hx : ρ x = .agg (u8A d)) (hy : ρ y = .agg (u8A d)) (w : World) : (execOp ρ oi).run Tryd.prog w = .ok (.value (.bool false)) w := by
  have := run_neq_op (P := Tryd.prog) ho hx hy (by kernel_rfl) (eqD 9998 d d hd hd w)
  simpa using this
set_option maxHeartbeats 16000000 in
set_option maxRecDepth 100000 in
theorem walk_short (r q : Rec) (s : ByteArray) (ov : Int) (hov : (Lit.int .i64 ov).wf = true) (w : World) (hL : Sh.Laid w) (hr : Rv w r) (hq : Rv w q) (hs : s.size ≤ maxLen) (h300 : ¬ 300 < s.size) :
    Calls Tryd.prog 3 #[.agg r.cs.toArray, .agg q.cs.toArray, .string s, .int .i64 ov] w fun e w' => e = .returned (.bool true) ∧ Below w.heap.size w w' := by
  have b1 := bel_alc w (.cells r.cs.toArray 27)
  have b2 := bel_alc (w.alloc (.cells r.cs.toArray 27)) (.cells q.cs.toArray 27)
  have s1 : (w.alloc (.cells r.cs.toArray 27)).heap.size = w.heap.size + 1 := by simp
  obtain ⟨W0, hW0⟩ : ∃ W0, W0 = (w.alloc (.cells r.cs.toArray 27)).alloc (.cells q.cs.toArray 27) := ⟨_, rfl⟩
  have HX0 : Hid (Bx W0 w.heap.size r) := by rw [hW0]; exact (Bx.mk' w r hr.len).later b2
  have HX1 : Hid (Bx W0 (w.heap.size + 1) q) := by
    have := Bx.mk' (w.alloc (.cells r.cs.toArray 27)) q hq.len
    rw [s1, ← hW0] at this
    exact this
  have HB0 : Hid (Below w.heap.size w W0) := by rw [hW0]; exact Bn b1 b2
  have HV := hid hr
  have HQ := hid hq
  have HLA := hid hL
  have HS := hid hs
  unfold maxLen at hs
  clear b1 b2 hr hq hL
  go_enter Tryd.func3, Tryd.ntmps3
  go_wp2_with fail
  rw [← hW0]
  clear hW0 s1
  have hd0 : Below W0.heap.size W0 W0.drew := (Below.refl _ _).drew
  have HXV := hid (HX0.out.later hd0)
  refine OrdE.region (fun V => Below w.heap.size w V ∧ Bx V (w.heap.size + 1) q) 5 (by kernel_rfl) ⟨Bn HB0.out hd0, HX1.out.later hd0⟩ (fun hS0 => ?_)
  clear hd0
  generalize W0.drew = v0 at *
  simp only [List.size_toArray, List.length_cons, List.length_nil, Nat.reduceAdd]
  refine OrdE.take (i := 2) (d := 25) (v := .agg q.cs.toArray) rfl rfl rfl (by as_aux_lemma => kernel_rfl) (by as_aux_lemma => kernel_rfl) (by as_aux_lemma => kernel_rfl) (by as_aux_lemma => kernel_rfl) (fun _ _ _ h => h) (by rfl) ?hA2 (by assumption) ?_
  case hA2 => intro V hSw; exact exec_load 27 (.tmp 5) rfl (w.heap.size + 1) 0 rfl hSw.2.load
  try simp only [List.setIfInBounds_toArray, List.set_cons_zero, List.set_cons_succ]
  refine OrdE.one (i := 0) (by as_aux_lemma => kernel_rfl) rfl (fun K hK => ?_)
  rw [if_pos (by rfl)]
  refine wp_load_mid 27 _ rfl w.heap.size 0 rfl r.cs _ HXV.out.range Tryd.underlying27 rfl (by rw [Rec.cs_len HV.out.len]; exact Tryd.size27) ?_
  refine hK.out _ _ (fun _ => hS0) ?_
  clear hK K
  try refine OrdE.put (d := 23) rfl ?_
  try simp only [List.setIfInBounds_toArray, List.set_cons_zero, List.set_cons_succ]
  refine OrdE.one (i := 1) (by as_aux_lemma => kernel_rfl) rfl (fun K hK => ?_)
  go_simp
  refine (cut_word r v0 (HV.out.later hS0.1)).mono ?_
  rintro _ v1 ⟨rfl, hb1⟩
  have hS1 : Below w.heap.size w v1 ∧ Bx v1 (w.heap.size + 1) q := ⟨Bn hS0.1 hb1, hS0.2.later hb1⟩
  have HXV1 := hid (HXV.out.later hb1)
  refine hK.out _ _ (fun _ => hS1) ?_
  clear hK K
  try refine OrdE.put (d := 24) rfl ?_
  try simp only [List.setIfInBounds_toArray, List.set_cons_zero, List.set_cons_succ]
  refine OrdE.one (i := 3) (by as_aux_lemma => kernel_rfl) rfl (fun K hK => ?_)
  go_simp
  refine (cut_word q v1 (HQ.out.later hS1.1)).mono ?_
  rintro _ v2 ⟨rfl, hb2⟩
  have hS2 : Below w.heap.size w v2 ∧ Bx v2 (w.heap.size + 1) q := ⟨Bn hS1.1 hb2, hS1.2.later hb2⟩
  have HXV2 := hid (HXV1.out.later hb2)
  refine hK.out _ _ (fun _ => hS2) ?_
  clear hK K
  try refine OrdE.put (d := 26) rfl ?_
  try simp only [List.setIfInBounds_toArray, List.set_cons_zero, List.set_cons_succ]
  refine OrdE.one (i := 4) (by as_aux_lemma => kernel_rfl) rfl (fun K hK => ?_)
  rw [if_pos (by rfl)]
  refine wp_store_row 27 _ _ rfl w.heap.size (cutR r).cs.toArray rfl rfl 27 r.cs.toArray HXV2.out.blk (size_recs HV.out.len) (by rw [Rec.cs_size HV.out.len, Rec.cs_size (show (cutR r).prev.length = 32 from HV.out.len)]) (all_oneCell_toArray (Rec.cs_one _)) ?_
  have hS3 : Below w.heap.size w (v2.setRow w.heap.size (cutR r).cs.toArray) ∧ Bx (v2.setRow w.heap.size (cutR r).cs.toArray) (w.heap.size + 1) q := ⟨below_setRow hS2.1 (Nat.le_refl _) _, ⟨(other_setRow _ _ _ _ (by omega)).trans hS2.2.blk, hS2.2.len⟩⟩
  refine hK.out _ _ (fun _ => hS3) ?_
  clear hK K
  try simp only [List.setIfInBounds_toArray, List.set_cons_zero, List.set_cons_succ]
  refine OrdE.one (i := 5) (by as_aux_lemma => kernel_rfl) rfl (fun K hK => ?_)
  rw [if_pos (by rfl)]
  refine wp_store_row 27 _ _ rfl (w.heap.size + 1) (cutR q).cs.toArray rfl rfl 27 q.cs.toArray hS3.2.blk (size_recs HQ.out.len) (by rw [Rec.cs_size HQ.out.len, Rec.cs_size (show (cutR q).prev.length = 32 from HQ.out.len)]) (all_oneCell_toArray (Rec.cs_one _)) ?_
  refine hK.out _ _ (fun h => absurd rfl h) ?_
  clear hK K
  try simp only [List.setIfInBounds_toArray, List.set_cons_zero, List.set_cons_succ]
  refine OrdE.done (by as_aux_lemma => kernel_rfl) ?_ _
  have HBF := hid (below_setRow hS3.1 (show w.heap.size ≤ w.heap.size + 1 by omega) (cutR q).cs.toArray)
  have HXc : Hid (Bx ((v2.setRow w.heap.size (cutR r).cs.toArray).setRow (w.heap.size + 1) (cutR q).cs.toArray) w.heap.size (cutR r)) := ⟨(other_setRow _ _ _ _ (by omega)).trans (setRow_heap _ _ _ _ _ _ HXV2.out.blk), HV.out.len⟩
  have HXd : Hid (Bx ((v2.setRow w.heap.size (cutR r).cs.toArray).setRow (w.heap.size + 1) (cutR q).cs.toArray) (w.heap.size + 1) (cutR q)) := ⟨setRow_heap _ _ _ _ _ _ hS3.2.blk, HQ.out.len⟩
  have HPr := hid (cut_ps r)
  have hVR := fun V (h : Below w.heap.size w V) => cut_rv (HV.out.later h)
  have hVQ := fun V (h : Below w.heap.size w V) => cut_rv (HQ.out.later h)
  have HVR := hid hVR
  have HVQ := hid hVQ
  generalize cutR r = R at *
  generalize cutR q = Q at *
  generalize hX : (v2.setRow w.heap.size R.cs.toArray).setRow (w.heap.size + 1) Q.cs.toArray = X at *
  have K0 : Hid (Fk w X R Q) := ⟨HXc.out, HXd.out, hVR X HBF.out, hVQ X HBF.out, HBF.out⟩
  clear hX hb1 hb2 hS0 hS1 hS2 hS3 HX0 HX1 HB0 HXV HXV1 HXV2 HXc HXd HBF hVR hVQ HV HQ
  have HRL := hid K0.out.rv.len
  have HQL := hid K0.out.rq.len
  have HBY := hid (fun V hV => bytes_word R V hV)
  have HDB := hid (fun V hV => dbytes_word R V hV)
  have HCH := hid (fun V hV hL => chain_word R V hV hL HPr.out)
  have HDC := hid (fun V hV => dchain_word R V hV HPr.out)
  have HSZ := hid (fun V hV => size_word R.a R.cap R.ps V hV)
  have HDS := hid (fun V hV => dsize_word R.a R.cap R.ps V hV)
  have HCK := hid (fun V hV => check_word R V hV)
  have HDK := hid (fun V hV => dcheck_word R V hV)
  have HSM := hid (fun V h1 h2 => same_word R Q V h1 h2)
  have HSS := hid (fun V h1 h2 => same_word R R V h1 h2)
  have HDM := hid (fun V h1 h2 => dsame_word R Q V h1 h2)
  have HRR : Hid (sameB R R = true) := decide_eq_true ⟨rfl, rfl, rfl, rfl, rfl, rfl, rfl⟩
  have HCL : Hid ((chnD R).length = 32) := chnD_len R
  have hVB : ∀ {w0 w1 w2 : World} {v : Value}, BytP (mayB R) w1 w2 v (wrB R) → Rv w0 R → ∃ a cap, v = .slice a (bytL R).length cap ∧ Ri w2 .u8 a cap (bytL R) := fun h hv => byt_ri h hv
  have HVB : Hid (∀ w0 w1 w2 v, BytP (mayB R) w1 w2 v (wrB R) → Rv w0 R → ∃ a cap, v = .slice a (bytL R).length cap ∧ Ri w2 .u8 a cap (bytL R)) := fun _ _ _ _ h hv => byt_ri h hv
  clear hVB
  rw [HRR.out] at HSS
  have HPS : Hid (R.ps.length ≤ 1000) := HPr.out
  generalize sameB R Q = sb at *
  generalize e130 (mayB R) = ec at *
  generalize sizO R.ps = sz at *
  generalize chnD R = cd at *
  obtain ⟨sz1, sz2⟩ := sz
  clear HRR
  go_wp2_with (first | refine wpList_load_g rfl 27 _ rfl w.heap.size 0 rfl R.cs _ K0.out.box.range Tryd.underlying27 rfl (by rw [Rec.cs_len HRL.out]; exact Tryd.size27) ?_ | fail)
  clear h300 hs
  have HPL := hid HS.out
  clear HS
  generalize s = P at *
  refine (HBY.out X K0.out.rv).mono ?_
  rintro _ X1 ⟨v9, rfl, hc1, hp1⟩
  obtain ⟨a9, c9, rfl, hri1⟩ := HVB.out X _ _ _ hp1 K0.out.rv
  have K1 := hid (K0.out.later hc1)
  have HR1 := hid hri1
  clear hc1 hp1 hri1
  go_wp2_with (first | refine wpList_load_g rfl 27 _ rfl w.heap.size 0 rfl R.cs _ K1.out.box.range Tryd.underlying27 rfl (by rw [Rec.cs_len HRL.out]; exact Tryd.size27) ?_ | fail)
  refine (HDB.out X1 K1.out.rv).mono ?_
  rintro _ X2 ⟨v11, rfl, hc2, hp2⟩
  obtain ⟨a11, c11, rfl, hri2⟩ := HVB.out X1 _ _ _ hp2 K1.out.rv
  have K2 := hid (K1.out.later hc2)
  have HR1_2 := hid (HR1.out.later hc2)
  have HR2 := hid hri2
  clear hc2 hp2 hri2 HR1 HVB
  have hB8 := HR2.out.fits
  have HB8 := hid hB8
  clear hB8
  generalize bytL R = BL at *
  go_wp2_with (first | refine wpList_load_g rfl 27 _ rfl w.heap.size 0 rfl R.cs _ K2.out.box.range Tryd.underlying27 rfl (by rw [Rec.cs_len HRL.out]; exact Tryd.size27) ?_ | fail)
  refine (HCH.out X2 K2.out.rv (HLA.out.later K2.out.bel)).mono ?_
  rintro _ Y3 ⟨rfl, hc3⟩
  have hbb := bel_alc Y3 (.cells (u8A cd) 23)
  have K3 := hid (K2.out.later (Bn hc3 hbb))
  have HR1_3 := hid (HR1_2.out.later (Bn hc3 hbb))
  have HR2_3 := hid (HR2.out.later (Bn hc3 hbb))
  have E3 := hid (heap_alc Y3 (.cells (u8A cd) 23))
  obtain ⟨X3, hX3⟩ : ∃ X, X = Y3.alloc (.cells (u8A cd) 23) := ⟨_, rfl⟩
  have HX3 := hid hX3
  rw [← hX3] at K3 E3 HR1_3 HR2_3
  clear hc3 hbb hX3 HR1_2 HR2
  have HZD : Hid ((u8A z32).size = (u8A cd).size) := by show _ = _; rw [u8A_size, u8A_size, HCL.out]; rfl
  go_wp2_with (first | refine wpList_alloc_at rfl 23 rfl (some 13) rfl _ Tryd.zero23 Y3.heap.size rfl ?_ | refine wpList_store_as rfl 23 _ _ rfl rfl Y3 (u8A z32) (u8A cd) rfl rfl rfl (size_dig HCL.out) HZD.out (u8A_one _) X3 HX3.out ?_ | refine wpList_load_g rfl 27 _ rfl w.heap.size 0 rfl R.cs _ K3.out.box.range Tryd.underlying27 rfl (by rw [Rec.cs_len HRL.out]; exact Tryd.size27) ?_ | fail)
  refine (HDC.out X3 K3.out.rv).mono ?_
  rintro _ Y4 ⟨rfl, hc4⟩
  have hbb := bel_alc Y4 (.cells (u8A cd) 23)
  have K4 := hid (K3.out.later (Bn hc4 hbb))
  have HR1_4 := hid (HR1_3.out.later (Bn hc4 hbb))
  have HR2_4 := hid (HR2_3.out.later (Bn hc4 hbb))
  have E3_4 := hid (blk_later E3.out (Bn hc4 hbb))
  have E4 := hid (heap_alc Y4 (.cells (u8A cd) 23))
  obtain ⟨X4, hX4⟩ : ∃ X, X = Y4.alloc (.cells (u8A cd) 23) := ⟨_, rfl⟩
  have HX4 := hid hX4
  rw [← hX4] at K4 E4 HR1_4 HR2_4 E3_4
  clear hc4 hbb hX4 HR1_3 HR2_3 E3
  have c37 := K4.out.box.c37
  go_wp2_with (first | refine wpList_alloc_at rfl 23 rfl (some 15) rfl _ Tryd.zero23 Y4.heap.size rfl ?_ | refine wpList_store_as rfl 23 _ _ rfl rfl Y4 (u8A z32) (u8A cd) rfl rfl rfl (size_dig HCL.out) HZD.out (u8A_one _) X4 HX4.out ?_ | fail)
  refine (HSZ.out X4 K4.out.rv.row).mono ?_
  rintro _ X5 ⟨rfl, hc5⟩
  have K5 := hid (K4.out.later hc5)
  have HR1_5 := hid (HR1_4.out.later hc5)
  have HR2_5 := hid (HR2_4.out.later hc5)
  have E3_5 := hid (blk_later E3_4.out hc5)
  have E4_5 := hid (blk_later E4.out hc5)
  clear hc5 c37 HR1_4 HR2_4 E3_4 E4
  have c37 := K5.out.box.c37
  go_wp2_with fail
  refine (HDS.out X5 K5.out.rv.row).mono ?_
  rintro _ X6 ⟨rfl, hw6⟩
  obtain rfl := hw6.symm
  clear c37
  go_wp2_with fail
  refine wp_region_held_drew (S := fun V => Below X5.heap.size X5 V) (by kernel_rfl) (Below.refl _ _).drew (fun hS0 => ?_)
  generalize X5.drew = v0 at *
  simp only [List.size_toArray, List.length_cons, List.length_nil, Nat.reduceAdd]
  refine Ord.take (i := 0) (d := 64) (v := ?vA0) rfl rfl (by as_aux_lemma => kernel_rfl) (by as_aux_lemma => kernel_rfl) (by as_aux_lemma => kernel_rfl) (fun _ _ _ h => h) (by rfl) ?hA0 (by assumption) ?_
  case hA0 => intro V hSw; go_simp; try with_reducible rfl
  try simp only [List.setIfInBounds_toArray, List.set_cons_zero, List.set_cons_succ]
  refine Ord.take (i := 1) (d := 65) (v := .string (strOfNums BL)) rfl rfl (by as_aux_lemma => kernel_rfl) (by as_aux_lemma => kernel_rfl) (by as_aux_lemma => kernel_rfl) (fun _ _ _ h => h) (by rfl) ?hA1 (by assumption) ?_
  case hA1 => intro V hSw; have ht := HR1_5.out.text V hSw; go_simp; try with_reducible rfl
  try simp only [List.setIfInBounds_toArray, List.set_cons_zero, List.set_cons_succ]
  refine Ord.take (i := 2) (d := 66) (v := ?vA2) rfl rfl (by as_aux_lemma => kernel_rfl) (by as_aux_lemma => kernel_rfl) (by as_aux_lemma => kernel_rfl) (fun _ _ _ h => h) (by rfl) ?hA2 (by assumption) ?_
  case hA2 => intro V hSw; go_simp; try with_reducible rfl
  try simp only [List.setIfInBounds_toArray, List.set_cons_zero, List.set_cons_succ]
  refine Ord.take (i := 3) (d := 67) (v := .string (strOfNums BL)) rfl rfl (by as_aux_lemma => kernel_rfl) (by as_aux_lemma => kernel_rfl) (by as_aux_lemma => kernel_rfl) (fun _ _ _ h => h) (by rfl) ?hA3 (by assumption) ?_
  case hA3 => intro V hSw; have ht := HR2_5.out.text V hSw; go_simp; try with_reducible rfl
  try simp only [List.setIfInBounds_toArray, List.set_cons_zero, List.set_cons_succ]
  refine Ord.take (i := 4) (d := 68) (v := .bool false) rfl rfl (by as_aux_lemma => kernel_rfl) (by as_aux_lemma => kernel_rfl) (by as_aux_lemma => kernel_rfl) (fun _ _ _ h => h) (by rfl) ?hA4 (by assumption) ?_
  case hA4 => intro V hSw; go_simp; try with_reducible rfl
  try simp only [List.setIfInBounds_toArray, List.set_cons_zero, List.set_cons_succ]
  refine Ord.take (i := 5) (d := 69) (v := ?vA5) rfl rfl (by as_aux_lemma => kernel_rfl) (by as_aux_lemma => kernel_rfl) (by as_aux_lemma => kernel_rfl) (fun _ _ _ h => h) (by rfl) ?hA5 (by assumption) ?_
  case hA5 => intro V hSw; go_simp; try with_reducible rfl
  try simp only [List.setIfInBounds_toArray, List.set_cons_zero, List.set_cons_succ]
  refine Ord.take (i := 6) (d := 70) (v := ?vA6) rfl rfl (by as_aux_lemma => kernel_rfl) (by as_aux_lemma => kernel_rfl) (by as_aux_lemma => kernel_rfl) (fun _ _ _ h => h) (by rfl) ?hA6 (by assumption) ?_
  case hA6 => intro V hSw; go_simp; try with_reducible rfl
  try simp only [List.setIfInBounds_toArray, List.set_cons_zero, List.set_cons_succ]
  refine Ord.take (i := 7) (d := 71) (v := ?vA7) rfl rfl (by as_aux_lemma => kernel_rfl) (by as_aux_lemma => kernel_rfl) (by as_aux_lemma => kernel_rfl) (fun _ _ _ h => h) (by rfl) ?hA7 (by assumption) ?_
  case hA7 => intro V hSw; go_simp; try with_reducible rfl
  try simp only [List.setIfInBounds_toArray, List.set_cons_zero, List.set_cons_succ]
  refine Ord.take (i := 8) (d := 72) (v := ?vA8) rfl rfl (by as_aux_lemma => kernel_rfl) (by as_aux_lemma => kernel_rfl) (by as_aux_lemma => kernel_rfl) (fun _ _ _ h => h) (by rfl) ?hA8 (by assumption) ?_
  case hA8 => intro V hSw; go_simp; try with_reducible rfl
  try simp only [List.setIfInBounds_toArray, List.set_cons_zero, List.set_cons_succ]
  refine Ord.take (i := 9) (d := 73) (v := ?vA9) rfl rfl (by as_aux_lemma => kernel_rfl) (by as_aux_lemma => kernel_rfl) (by as_aux_lemma => kernel_rfl) (fun _ _ _ h => h) (by rfl) ?hA9 (by assumption) ?_
  case hA9 => intro V hSw; go_simp; try with_reducible rfl
  try simp only [List.setIfInBounds_toArray, List.set_cons_zero, List.set_cons_succ]
  refine Ord.take (i := 10) (d := 74) (v := ?vA10) rfl rfl (by as_aux_lemma => kernel_rfl) (by as_aux_lemma => kernel_rfl) (by as_aux_lemma => kernel_rfl) (fun _ _ _ h => h) (by rfl) ?hA10 (by assumption) ?_
  case hA10 => intro V hSw; go_simp; try with_reducible rfl
  try simp only [List.setIfInBounds_toArray, List.set_cons_zero, List.set_cons_succ]
  refine Ord.take (i := 11) (d := 75) (v := .agg (u8A cd)) rfl rfl (by as_aux_lemma => kernel_rfl) (by as_aux_lemma => kernel_rfl) (by as_aux_lemma => kernel_rfl) (fun _ _ _ h => h) (by rfl) ?hA11 (by assumption) ?_
  case hA11 => intro V hSw; exact exec_load 23 (.tmp 13) rfl Y3.heap.size 0 rfl (load_dig (blk_later E3_5.out hSw) HCL.out)
  try simp only [List.setIfInBounds_toArray, List.set_cons_zero, List.set_cons_succ]
  refine Ord.take (i := 12) (d := 76) (v := .agg (u8A cd)) rfl rfl (by as_aux_lemma => kernel_rfl) (by as_aux_lemma => kernel_rfl) (by as_aux_lemma => kernel_rfl) (fun _ _ _ h => h) (by rfl) ?hA12 (by assumption) ?_
  case hA12 => intro V hSw; exact exec_load 23 (.tmp 15) rfl Y4.heap.size 0 rfl (load_dig (blk_later E4_5.out hSw) HCL.out)
  try simp only [List.setIfInBounds_toArray, List.set_cons_zero, List.set_cons_succ]
  refine Ord.take (i := 13) (d := 77) (v := .bool false) rfl rfl (by as_aux_lemma => kernel_rfl) (by as_aux_lemma => kernel_rfl) (by as_aux_lemma => kernel_rfl) (fun _ _ _ h => h) (by rfl) ?hA13 (by assumption) ?_
  case hA13 => intro V hSw; exact dig_neq HCL.out rfl rfl rfl V
  try simp only [List.setIfInBounds_toArray, List.set_cons_zero, List.set_cons_succ]
  refine Ord.take (i := 14) (d := 78) (v := ?vA14) rfl rfl (by as_aux_lemma => kernel_rfl) (by as_aux_lemma => kernel_rfl) (by as_aux_lemma => kernel_rfl) (fun _ _ _ h => h) (by rfl) ?hA14 (by assumption) ?_
  case hA14 => intro V hSw; go_simp; try with_reducible rfl
  try simp only [List.setIfInBounds_toArray, List.set_cons_zero, List.set_cons_succ]
  refine Ord.take (i := 15) (d := 79) (v := ?vA15) rfl rfl (by as_aux_lemma => kernel_rfl) (by as_aux_lemma => kernel_rfl) (by as_aux_lemma => kernel_rfl) (fun _ _ _ h => h) (by rfl) ?hA15 (by assumption) ?_
  case hA15 => intro V hSw; go_simp; try with_reducible rfl
  try simp only [List.setIfInBounds_toArray, List.set_cons_zero, List.set_cons_succ]
  refine Ord.take (i := 16) (d := 80) (v := ?vA16) rfl rfl (by as_aux_lemma => kernel_rfl) (by as_aux_lemma => kernel_rfl) (by as_aux_lemma => kernel_rfl) (fun _ _ _ h => h) (by rfl) ?hA16 (by assumption) ?_
  case hA16 => intro V hSw; go_simp; try with_reducible rfl
  try simp only [List.setIfInBounds_toArray, List.set_cons_zero, List.set_cons_succ]
  refine Ord.take (i := 17) (d := 81) (v := ?vA17) rfl rfl (by as_aux_lemma => kernel_rfl) (by as_aux_lemma => kernel_rfl) (by as_aux_lemma => kernel_rfl) (fun _ _ _ h => h) (by rfl) ?hA17 (by assumption) ?_
  case hA17 => intro V hSw; go_simp; try with_reducible rfl
  try simp only [List.setIfInBounds_toArray, List.set_cons_zero, List.set_cons_succ]
  refine Ord.take (i := 18) (d := 82) (v := ?vA18) rfl rfl (by as_aux_lemma => kernel_rfl) (by as_aux_lemma => kernel_rfl) (by as_aux_lemma => kernel_rfl) (fun _ _ _ h => h) (by rfl) ?hA18 (by assumption) ?_
  case hA18 => intro V hSw; go_simp; try with_reducible rfl
  try simp only [List.setIfInBounds_toArray, List.set_cons_zero, List.set_cons_succ]
  refine Ord.take (i := 19) (d := 83) (v := ?vA19) rfl rfl (by as_aux_lemma => kernel_rfl) (by as_aux_lemma => kernel_rfl) (by as_aux_lemma => kernel_rfl) (fun _ _ _ h => h) (by rfl) ?hA19 (by assumption) ?_
  case hA19 => intro V hSw; go_simp; try with_reducible rfl
  try simp only [List.setIfInBounds_toArray, List.set_cons_zero, List.set_cons_succ]
  refine Ord.take (i := 20) (d := 84) (v := ?vA20) rfl rfl (by as_aux_lemma => kernel_rfl) (by as_aux_lemma => kernel_rfl) (by as_aux_lemma => kernel_rfl) (fun _ _ _ h => h) (by rfl) ?hA20 (by assumption) ?_
  case hA20 => intro V hSw; go_simp; try with_reducible rfl
  try simp only [List.setIfInBounds_toArray, List.set_cons_zero, List.set_cons_succ]
  refine Ord.take (i := 21) (d := 85) (v := ?vA21) rfl rfl (by as_aux_lemma => kernel_rfl) (by as_aux_lemma => kernel_rfl) (by as_aux_lemma => kernel_rfl) (fun _ _ _ h => h) (by rfl) ?hA21 (by assumption) ?_
  case hA21 => intro V hSw; go_simp; try with_reducible rfl
  try simp only [List.setIfInBounds_toArray, List.set_cons_zero, List.set_cons_succ]
  refine Ord.take (i := 22) (d := 86) (v := ?vA22) rfl rfl (by as_aux_lemma => kernel_rfl) (by as_aux_lemma => kernel_rfl) (by as_aux_lemma => kernel_rfl) (fun _ _ _ h => h) (by rfl) ?hA22 (by assumption) ?_
  case hA22 => intro V hSw; go_simp; try with_reducible rfl
  try simp only [List.setIfInBounds_toArray, List.set_cons_zero, List.set_cons_succ]
  refine Ord.take (i := 23) (d := 87) (v := ?vA23) rfl rfl (by as_aux_lemma => kernel_rfl) (by as_aux_lemma => kernel_rfl) (by as_aux_lemma => kernel_rfl) (fun _ _ _ h => h) (by rfl) ?hA23 (by assumption) ?_
  case hA23 => intro V hSw; go_simp; try with_reducible rfl
  try simp only [List.setIfInBounds_toArray, List.set_cons_zero, List.set_cons_succ]
  refine Ord.take (i := 24) (d := 88) (v := ?vA24) rfl rfl (by as_aux_lemma => kernel_rfl) (by as_aux_lemma => kernel_rfl) (by as_aux_lemma => kernel_rfl) (fun _ _ _ h => h) (by rfl) ?hA24 (by assumption) ?_
  case hA24 => intro V hSw; go_simp; try with_reducible rfl
  try simp only [List.setIfInBounds_toArray, List.set_cons_zero, List.set_cons_succ]
  refine Ord.take (i := 25) (d := 89) (v := ?vA25) rfl rfl (by as_aux_lemma => kernel_rfl) (by as_aux_lemma => kernel_rfl) (by as_aux_lemma => kernel_rfl) (fun _ _ _ h => h) (by rfl) ?hA25 (by assumption) ?_
  case hA25 => intro V hSw; go_simp; try with_reducible rfl
  try simp only [List.setIfInBounds_toArray, List.set_cons_zero, List.set_cons_succ]
  refine Ord.take (i := 26) (d := 90) (v := ?vA26) rfl rfl (by as_aux_lemma => kernel_rfl) (by as_aux_lemma => kernel_rfl) (by as_aux_lemma => kernel_rfl) (fun _ _ _ h => h) (by rfl) ?hA26 (by assumption) ?_
  case hA26 => intro V hSw; go_simp; try with_reducible rfl
  try simp only [List.setIfInBounds_toArray, List.set_cons_zero, List.set_cons_succ]
  refine Ord.take (i := 27) (d := 91) (v := ?vA27) rfl rfl (by as_aux_lemma => kernel_rfl) (by as_aux_lemma => kernel_rfl) (by as_aux_lemma => kernel_rfl) (fun _ _ _ h => h) (by rfl) ?hA27 (by assumption) ?_
  case hA27 => intro V hSw; go_simp; try with_reducible rfl
  try simp only [List.setIfInBounds_toArray, List.set_cons_zero, List.set_cons_succ]
  refine Ord.take (i := 28) (d := 92) (v := ?vA28) rfl rfl (by as_aux_lemma => kernel_rfl) (by as_aux_lemma => kernel_rfl) (by as_aux_lemma => kernel_rfl) (fun _ _ _ h => h) (by rfl) ?hA28 (by assumption) ?_
  case hA28 => intro V hSw; go_simp; try with_reducible rfl
  try simp only [List.setIfInBounds_toArray, List.set_cons_zero, List.set_cons_succ]
  refine Ord.take (i := 29) (d := 93) (v := ?vA29) rfl rfl (by as_aux_lemma => kernel_rfl) (by as_aux_lemma => kernel_rfl) (by as_aux_lemma => kernel_rfl) (fun _ _ _ h => h) (by rfl) ?hA29 (by assumption) ?_
  case hA29 => intro V hSw; go_simp; try with_reducible rfl
  try simp only [List.setIfInBounds_toArray, List.set_cons_zero, List.set_cons_succ]
  refine Ord.take (i := 30) (d := 94) (v := ?vA30) rfl rfl (by as_aux_lemma => kernel_rfl) (by as_aux_lemma => kernel_rfl) (by as_aux_lemma => kernel_rfl) (fun _ _ _ h => h) (by rfl) ?hA30 (by assumption) ?_
  case hA30 => intro V hSw; go_simp; try with_reducible rfl
  try simp only [List.setIfInBounds_toArray, List.set_cons_zero, List.set_cons_succ]
  refine Ord.take (i := 31) (d := 95) (v := .agg R.cs.toArray) rfl rfl (by as_aux_lemma => kernel_rfl) (by as_aux_lemma => kernel_rfl) (by as_aux_lemma => kernel_rfl) (fun _ _ _ h => h) (by rfl) ?hA31 (by assumption) ?_
  case hA31 => intro V hSw; exact exec_load 27 (.tmp 4) rfl w.heap.size 0 rfl (K5.out.box.later hSw).load
  try simp only [List.setIfInBounds_toArray, List.set_cons_zero, List.set_cons_succ]
  refine Ord.take (i := 33) (d := 97) (v := .agg R.cs.toArray) rfl rfl (by as_aux_lemma => kernel_rfl) (by as_aux_lemma => kernel_rfl) (by as_aux_lemma => kernel_rfl) (fun _ _ _ h => h) (by rfl) ?hA33 (by assumption) ?_
  case hA33 => intro V hSw; exact exec_load 27 (.tmp 4) rfl w.heap.size 0 rfl (K5.out.box.later hSw).load
  try simp only [List.setIfInBounds_toArray, List.set_cons_zero, List.set_cons_succ]
  refine wpAnyH_ready (rs := [32]) (by as_aux_lemma => kernel_rfl) (by simp) (AllReadyH.cons rfl (fun K hK => ?_) AllReadyH.nil)
  go_simp
  refine (HCK.out v0 (K5.out.rv.later hS0)).mono ?_
  rintro _ v1 ⟨rfl, hb1⟩
  have hS1 := Bn hS0 hb1
  refine hK.out _ _ hS1 (fun _ => ?_)
  clear hK K hb1
  try simp only [List.setIfInBounds_toArray, List.set_cons_zero, List.set_cons_succ]
  refine wpAnyH_ready (rs := [34]) (by as_aux_lemma => kernel_rfl) (by simp) (AllReadyH.cons rfl (fun K hK => ?_) AllReadyH.nil)
  go_simp
  refine (HDK.out v1 (K5.out.rv.later hS1)).mono ?_
  rintro _ v2 ⟨rfl, hb2⟩
  have hS2 := Bn hS1 hb2
  refine hK.out _ _ hS2 (fun _ => ?_)
  clear hK K hb2
  try simp only [List.setIfInBounds_toArray, List.set_cons_zero, List.set_cons_succ]
  refine Ord.take (i := 35) (d := 99) (v := ?vA35) rfl rfl (by as_aux_lemma => kernel_rfl) (by as_aux_lemma => kernel_rfl) (by as_aux_lemma => kernel_rfl) (fun _ _ _ h => h) (by rfl) ?hA35 (by assumption) ?_
  case hA35 => intro V hSw; go_simp; try with_reducible rfl
  try simp only [List.setIfInBounds_toArray, List.set_cons_zero, List.set_cons_succ]
  refine Ord.take (i := 36) (d := 100) (v := ?vA36) rfl rfl (by as_aux_lemma => kernel_rfl) (by as_aux_lemma => kernel_rfl) (by as_aux_lemma => kernel_rfl) (fun _ _ _ h => h) (by rfl) ?hA36 (by assumption) ?_
  case hA36 => intro V hSw; go_simp; try with_reducible rfl
  try simp only [List.setIfInBounds_toArray, List.set_cons_zero, List.set_cons_succ]
  refine wpAnyH_done (by as_aux_lemma => kernel_rfl) ?_ _
  have K6 := hid (K5.out.later hS2)
  clear hS0 hS1 hS2 HR1_5 HR2_5 E3_5 E4_5
  have HIP := hid (fun V => path_word P V HPL.out)
  have HDP := hid (fun V => dpath_word P V HPL.out)
  generalize pathB P = pb at *
  clear HCK HDK HSZ HDS HCH HDC HBY HDB HLA
  by_cases hv1 : ov = 1
  · subst hv1
    clear hov
    obtain ⟨ob, hmk⟩ := mk_pcs v2
    have hbo := bel_alc v2 ob
    have K7 := hid (K6.out.later hbo)
    have HLG := hid (size_long (some ⟨v2.heap.size, 0, none⟩) 4097 4097 (v2.alloc ob) (by omega) (by unfold maxLen; omega))
    clear hbo
    go_wp2_with fail
    refine HLG.out.mono ?_
    rintro _ X7 ⟨rfl, hw7⟩
    obtain rfl := hw7.symm
    clear hmk HLG
    generalize v2.alloc ob = X7 at *
    go_wp2_with fail
    refine wp_region_held_drew (S := fun V => Below X7.heap.size X7 V) (by kernel_rfl) (Below.refl _ _).drew (fun hS0 => ?_)
    generalize X7.drew = v0 at *
    simp only [List.size_toArray, List.length_cons, List.length_nil, Nat.reduceAdd]
    refine Ord.take (i := 0) (d := 110) (v := ?vB0) rfl rfl (by as_aux_lemma => kernel_rfl) (by as_aux_lemma => kernel_rfl) (by as_aux_lemma => kernel_rfl) (fun _ _ _ h => h) (by rfl) ?hB0 (by assumption) ?_
    case hB0 => intro V hSw; go_simp; try with_reducible rfl
    try simp only [List.setIfInBounds_toArray, List.set_cons_zero, List.set_cons_succ]
    refine Ord.take (i := 2) (d := 112) (v := ?vB2) rfl rfl (by as_aux_lemma => kernel_rfl) (by as_aux_lemma => kernel_rfl) (by as_aux_lemma => kernel_rfl) (fun _ _ _ h => h) (by rfl) ?hB2 (by assumption) ?_
    case hB2 => intro V hSw; go_simp; try with_reducible rfl
    try simp only [List.setIfInBounds_toArray, List.set_cons_zero, List.set_cons_succ]
    refine wpAnyH_ready (rs := [1]) (by as_aux_lemma => kernel_rfl) (by simp) (AllReadyH.cons rfl (fun K hK => ?_) AllReadyH.nil)
    go_simp
    refine (HIP.out v0).mono ?_
    rintro _ u1 ⟨rfl, hw1⟩
    obtain rfl := hw1.symm
    refine hK.out _ _ hS0 (fun _ => ?_)
    clear hK K
    try simp only [List.setIfInBounds_toArray, List.set_cons_zero, List.set_cons_succ]
    refine wpAnyH_ready (rs := [3]) (by as_aux_lemma => kernel_rfl) (by simp) (AllReadyH.cons rfl (fun K hK => ?_) AllReadyH.nil)
    go_simp
    refine (HDP.out v0).mono ?_
    rintro _ u2 ⟨rfl, hw2⟩
    obtain rfl := hw2.symm
    refine hK.out _ _ hS0 (fun _ => ?_)
    clear hK K
    try simp only [List.setIfInBounds_toArray, List.set_cons_zero, List.set_cons_succ]
    refine Ord.take (i := 4) (d := 114) (v := .bool true) rfl rfl (by as_aux_lemma => kernel_rfl) (by as_aux_lemma => kernel_rfl) (by as_aux_lemma => kernel_rfl) (fun _ _ _ h => h) (by rfl) ?hB4 (by assumption) ?_
    case hB4 => intro V hSw; cases pb <;> go_simp; try with_reducible rfl
    try simp only [List.setIfInBounds_toArray, List.set_cons_zero, List.set_cons_succ]
    refine Ord.take (i := 5) (d := 115) (v := ?vB5) rfl rfl (by as_aux_lemma => kernel_rfl) (by as_aux_lemma => kernel_rfl) (by as_aux_lemma => kernel_rfl) (fun _ _ _ h => h) (by rfl) ?hB5 (by assumption) ?_
    case hB5 => intro V hSw; go_simp; try with_reducible rfl
    try simp only [List.setIfInBounds_toArray, List.set_cons_zero, List.set_cons_succ]
    refine Ord.take (i := 6) (d := 116) (v := .agg R.cs.toArray) rfl rfl (by as_aux_lemma => kernel_rfl) (by as_aux_lemma => kernel_rfl) (by as_aux_lemma => kernel_rfl) (fun _ _ _ h => h) (by rfl) ?hB6 (by assumption) ?_
    case hB6 => intro V hSw; exact exec_load 27 (.tmp 4) rfl w.heap.size 0 rfl (K7.out.box.later hSw).load
    try simp only [List.setIfInBounds_toArray, List.set_cons_zero, List.set_cons_succ]
    refine Ord.take (i := 7) (d := 117) (v := .agg Q.cs.toArray) rfl rfl (by as_aux_lemma => kernel_rfl) (by as_aux_lemma => kernel_rfl) (by as_aux_lemma => kernel_rfl) (fun _ _ _ h => h) (by rfl) ?hB7 (by assumption) ?_
    case hB7 => intro V hSw; exact exec_load 27 (.tmp 5) rfl (w.heap.size + 1) 0 rfl (K7.out.box2.later hSw).load
    try simp only [List.setIfInBounds_toArray, List.set_cons_zero, List.set_cons_succ]
    refine Ord.take (i := 9) (d := 119) (v := .agg R.cs.toArray) rfl rfl (by as_aux_lemma => kernel_rfl) (by as_aux_lemma => kernel_rfl) (by as_aux_lemma => kernel_rfl) (fun _ _ _ h => h) (by rfl) ?hB9 (by assumption) ?_
    case hB9 => intro V hSw; exact exec_load 27 (.tmp 4) rfl w.heap.size 0 rfl (K7.out.box.later hSw).load
    try simp only [List.setIfInBounds_toArray, List.set_cons_zero, List.set_cons_succ]
    refine Ord.take (i := 10) (d := 120) (v := .agg Q.cs.toArray) rfl rfl (by as_aux_lemma => kernel_rfl) (by as_aux_lemma => kernel_rfl) (by as_aux_lemma => kernel_rfl) (fun _ _ _ h => h) (by rfl) ?hB10 (by assumption) ?_
    case hB10 => intro V hSw; exact exec_load 27 (.tmp 5) rfl (w.heap.size + 1) 0 rfl (K7.out.box2.later hSw).load
    try simp only [List.setIfInBounds_toArray, List.set_cons_zero, List.set_cons_succ]
    refine wpAnyH_ready (rs := [8]) (by as_aux_lemma => kernel_rfl) (by simp) (AllReadyH.cons rfl (fun K hK => ?_) AllReadyH.nil)
    go_simp
    refine (HSM.out v0 (K7.out.rv.later hS0) (K7.out.rq.later hS0)).mono ?_
    rintro _ v1 ⟨rfl, hb1⟩
    have hS1 := Bn hS0 hb1
    refine hK.out _ _ hS1 (fun _ => ?_)
    clear hK K hb1
    try simp only [List.setIfInBounds_toArray, List.set_cons_zero, List.set_cons_succ]
    refine wpAnyH_ready (rs := [11]) (by as_aux_lemma => kernel_rfl) (by simp) (AllReadyH.cons rfl (fun K hK => ?_) AllReadyH.nil)
    go_simp
    refine (HDM.out v1 (K7.out.rv.later hS1) (K7.out.rq.later hS1)).mono ?_
    rintro _ v2 ⟨rfl, hb2⟩
    have hS2 := Bn hS1 hb2
    refine hK.out _ _ hS2 (fun _ => ?_)
    clear hK K hb2
    try simp only [List.setIfInBounds_toArray, List.set_cons_zero, List.set_cons_succ]
    refine Ord.take (i := 12) (d := 122) (v := .bool true) rfl rfl (by as_aux_lemma => kernel_rfl) (by as_aux_lemma => kernel_rfl) (by as_aux_lemma => kernel_rfl) (fun _ _ _ h => h) (by rfl) ?hB12 (by assumption) ?_
    case hB12 => intro V hSw; cases sb <;> go_simp; try with_reducible rfl
    try simp only [List.setIfInBounds_toArray, List.set_cons_zero, List.set_cons_succ]
    refine Ord.take (i := 13) (d := 123) (v := ?vB13) rfl rfl (by as_aux_lemma => kernel_rfl) (by as_aux_lemma => kernel_rfl) (by as_aux_lemma => kernel_rfl) (fun _ _ _ h => h) (by rfl) ?hB13 (by assumption) ?_
    case hB13 => intro V hSw; go_simp; try with_reducible rfl
    try simp only [List.setIfInBounds_toArray, List.set_cons_zero, List.set_cons_succ]
    refine Ord.take (i := 14) (d := 124) (v := ?vB14) rfl rfl (by as_aux_lemma => kernel_rfl) (by as_aux_lemma => kernel_rfl) (by as_aux_lemma => kernel_rfl) (fun _ _ _ h => h) (by rfl) ?hB14 (by assumption) ?_
    case hB14 => intro V hSw; go_simp; try with_reducible rfl
    try simp only [List.setIfInBounds_toArray, List.set_cons_zero, List.set_cons_succ]
    refine Ord.take (i := 15) (d := 125) (v := .agg R.cs.toArray) rfl rfl (by as_aux_lemma => kernel_rfl) (by as_aux_lemma => kernel_rfl) (by as_aux_lemma => kernel_rfl) (fun _ _ _ h => h) (by rfl) ?hB15 (by assumption) ?_
    case hB15 => intro V hSw; exact exec_load 27 (.tmp 4) rfl w.heap.size 0 rfl (K7.out.box.later hSw).load
    try simp only [List.setIfInBounds_toArray, List.set_cons_zero, List.set_cons_succ]
    refine Ord.take (i := 16) (d := 126) (v := .agg R.cs.toArray) rfl rfl (by as_aux_lemma => kernel_rfl) (by as_aux_lemma => kernel_rfl) (by as_aux_lemma => kernel_rfl) (fun _ _ _ h => h) (by rfl) ?hB16 (by assumption) ?_
    case hB16 => intro V hSw; exact exec_load 27 (.tmp 4) rfl w.heap.size 0 rfl (K7.out.box.later hSw).load
    try simp only [List.setIfInBounds_toArray, List.set_cons_zero, List.set_cons_succ]
    refine wpAnyH_ready (rs := [17]) (by as_aux_lemma => kernel_rfl) (by simp) (AllReadyH.cons rfl (fun K hK => ?_) AllReadyH.nil)
    go_simp
    refine (HSS.out v2 (K7.out.rv.later hS2) (K7.out.rv.later hS2)).mono ?_
    rintro _ v3 ⟨rfl, hb3⟩
    have hS3 := Bn hS2 hb3
    refine hK.out _ _ hS3 (fun _ => ?_)
    clear hK K hb3
    try simp only [List.setIfInBounds_toArray, List.set_cons_zero, List.set_cons_succ]
    refine Ord.take (i := 18) (d := 128) (v := ?vB18) rfl rfl (by as_aux_lemma => kernel_rfl) (by as_aux_lemma => kernel_rfl) (by as_aux_lemma => kernel_rfl) (fun _ _ _ h => h) (by rfl) ?hB18 (by assumption) ?_
    case hB18 => intro V hSw; go_simp; try with_reducible rfl
    try simp only [List.setIfInBounds_toArray, List.set_cons_zero, List.set_cons_succ]
    refine Ord.take (i := 19) (d := 129) (v := ?vB19) rfl rfl (by as_aux_lemma => kernel_rfl) (by as_aux_lemma => kernel_rfl) (by as_aux_lemma => kernel_rfl) (fun _ _ _ h => h) (by rfl) ?hB19 (by assumption) ?_
    case hB19 => intro V hSw; go_simp; try with_reducible rfl
    try simp only [List.setIfInBounds_toArray, List.set_cons_zero, List.set_cons_succ]
    refine wpAnyH_ready (rs := [20]) (by as_aux_lemma => kernel_rfl) (by simp) (AllReadyH.cons rfl (fun K hK => ?_) AllReadyH.nil)
    go_simp
    refine (alive_word v3).mono ?_
    rintro _ v4 ⟨rfl, hb4⟩
    have hS4 := Bn hS3 hb4
    refine hK.out _ _ hS4 (fun _ => ?_)
    clear hK K hb4
    try simp only [List.setIfInBounds_toArray, List.set_cons_zero, List.set_cons_succ]
    refine Ord.take (i := 21) (d := 131) (v := ?vB21) rfl rfl (by as_aux_lemma => kernel_rfl) (by as_aux_lemma => kernel_rfl) (by as_aux_lemma => kernel_rfl) (fun _ _ _ h => h) (by rfl) ?hB21 (by assumption) ?_
    case hB21 => intro V hSw; go_simp; try with_reducible rfl
    try simp only [List.setIfInBounds_toArray, List.set_cons_zero, List.set_cons_succ]
    refine Ord.take (i := 22) (d := 8) (v := ?vB22) rfl rfl (by as_aux_lemma => kernel_rfl) (by as_aux_lemma => kernel_rfl) (by as_aux_lemma => kernel_rfl) (fun _ _ _ h => h) (by rfl) ?hB22 (by assumption) ?_
    case hB22 => intro V hSw; go_simp; try with_reducible rfl
    try simp only [List.setIfInBounds_toArray, List.set_cons_zero, List.set_cons_succ]
    refine wpAnyH_done (by as_aux_lemma => kernel_rfl) ?_ _
    have HBE := hid (Bn K7.out.bel hS4)
    clear hS0 hS1 hS2 hS3 hS4
    go_wp2
    go_ret
    exact ⟨rfl, HBE.out⟩
  · have hv2 : (ov == 1) = false := by rw [beq_eq_false_iff_ne]; exact hv1
    have hv3 : decide (ov = 1) = false := decide_eq_false hv1
    go_wp2_with fail
    refine wp_region_held_drew (S := fun V => Below v2.heap.size v2 V) (by kernel_rfl) (Below.refl _ _).drew (fun hS0 => ?_)
    generalize v2.drew = v0 at *
    simp only [List.size_toArray, List.length_cons, List.length_nil, Nat.reduceAdd]
    refine Ord.take (i := 0) (d := 110) (v := ?vC0) rfl rfl (by as_aux_lemma => kernel_rfl) (by as_aux_lemma => kernel_rfl) (by as_aux_lemma => kernel_rfl) (fun _ _ _ h => h) (by rfl) ?hC0 (by assumption) ?_
    case hC0 => intro V hSw; go_simp; try with_reducible rfl
    try simp only [List.setIfInBounds_toArray, List.set_cons_zero, List.set_cons_succ]
    refine Ord.take (i := 2) (d := 112) (v := ?vC2) rfl rfl (by as_aux_lemma => kernel_rfl) (by as_aux_lemma => kernel_rfl) (by as_aux_lemma => kernel_rfl) (fun _ _ _ h => h) (by rfl) ?hC2 (by assumption) ?_
    case hC2 => intro V hSw; go_simp; try with_reducible rfl
    try simp only [List.setIfInBounds_toArray, List.set_cons_zero, List.set_cons_succ]
    refine wpAnyH_ready (rs := [1]) (by as_aux_lemma => kernel_rfl) (by simp) (AllReadyH.cons rfl (fun K hK => ?_) AllReadyH.nil)
    go_simp
    refine (HIP.out v0).mono ?_
    rintro _ u1 ⟨rfl, hw1⟩
    obtain rfl := hw1.symm
    refine hK.out _ _ hS0 (fun _ => ?_)
    clear hK K
    try simp only [List.setIfInBounds_toArray, List.set_cons_zero, List.set_cons_succ]
    refine wpAnyH_ready (rs := [3]) (by as_aux_lemma => kernel_rfl) (by simp) (AllReadyH.cons rfl (fun K hK => ?_) AllReadyH.nil)
    go_simp
    refine (HDP.out v0).mono ?_
    rintro _ u2 ⟨rfl, hw2⟩
    obtain rfl := hw2.symm
    refine hK.out _ _ hS0 (fun _ => ?_)
    clear hK K
    try simp only [List.setIfInBounds_toArray, List.set_cons_zero, List.set_cons_succ]
    refine Ord.take (i := 4) (d := 114) (v := .bool true) rfl rfl (by as_aux_lemma => kernel_rfl) (by as_aux_lemma => kernel_rfl) (by as_aux_lemma => kernel_rfl) (fun _ _ _ h => h) (by rfl) ?hC4 (by assumption) ?_
    case hC4 => intro V hSw; cases pb <;> go_simp; try with_reducible rfl
    try simp only [List.setIfInBounds_toArray, List.set_cons_zero, List.set_cons_succ]
    refine Ord.take (i := 5) (d := 115) (v := ?vC5) rfl rfl (by as_aux_lemma => kernel_rfl) (by as_aux_lemma => kernel_rfl) (by as_aux_lemma => kernel_rfl) (fun _ _ _ h => h) (by rfl) ?hC5 (by assumption) ?_
    case hC5 => intro V hSw; go_simp; try with_reducible rfl
    try simp only [List.setIfInBounds_toArray, List.set_cons_zero, List.set_cons_succ]
    refine Ord.take (i := 6) (d := 116) (v := .agg R.cs.toArray) rfl rfl (by as_aux_lemma => kernel_rfl) (by as_aux_lemma => kernel_rfl) (by as_aux_lemma => kernel_rfl) (fun _ _ _ h => h) (by rfl) ?hC6 (by assumption) ?_
    case hC6 => intro V hSw; exact exec_load 27 (.tmp 4) rfl w.heap.size 0 rfl (K6.out.box.later hSw).load
    try simp only [List.setIfInBounds_toArray, List.set_cons_zero, List.set_cons_succ]
    refine Ord.take (i := 7) (d := 117) (v := .agg Q.cs.toArray) rfl rfl (by as_aux_lemma => kernel_rfl) (by as_aux_lemma => kernel_rfl) (by as_aux_lemma => kernel_rfl) (fun _ _ _ h => h) (by rfl) ?hC7 (by assumption) ?_
    case hC7 => intro V hSw; exact exec_load 27 (.tmp 5) rfl (w.heap.size + 1) 0 rfl (K6.out.box2.later hSw).load
    try simp only [List.setIfInBounds_toArray, List.set_cons_zero, List.set_cons_succ]
    refine Ord.take (i := 9) (d := 119) (v := .agg R.cs.toArray) rfl rfl (by as_aux_lemma => kernel_rfl) (by as_aux_lemma => kernel_rfl) (by as_aux_lemma => kernel_rfl) (fun _ _ _ h => h) (by rfl) ?hC9 (by assumption) ?_
    case hC9 => intro V hSw; exact exec_load 27 (.tmp 4) rfl w.heap.size 0 rfl (K6.out.box.later hSw).load
    try simp only [List.setIfInBounds_toArray, List.set_cons_zero, List.set_cons_succ]
    refine Ord.take (i := 10) (d := 120) (v := .agg Q.cs.toArray) rfl rfl (by as_aux_lemma => kernel_rfl) (by as_aux_lemma => kernel_rfl) (by as_aux_lemma => kernel_rfl) (fun _ _ _ h => h) (by rfl) ?hC10 (by assumption) ?_
    case hC10 => intro V hSw; exact exec_load 27 (.tmp 5) rfl (w.heap.size + 1) 0 rfl (K6.out.box2.later hSw).load
    try simp only [List.setIfInBounds_toArray, List.set_cons_zero, List.set_cons_succ]
    refine wpAnyH_ready (rs := [8]) (by as_aux_lemma => kernel_rfl) (by simp) (AllReadyH.cons rfl (fun K hK => ?_) AllReadyH.nil)
    go_simp
    refine (HSM.out v0 (K6.out.rv.later hS0) (K6.out.rq.later hS0)).mono ?_
    rintro _ v1 ⟨rfl, hb1⟩
    have hS1 := Bn hS0 hb1
    refine hK.out _ _ hS1 (fun _ => ?_)
    clear hK K hb1
    try simp only [List.setIfInBounds_toArray, List.set_cons_zero, List.set_cons_succ]
    refine wpAnyH_ready (rs := [11]) (by as_aux_lemma => kernel_rfl) (by simp) (AllReadyH.cons rfl (fun K hK => ?_) AllReadyH.nil)
    go_simp
    refine (HDM.out v1 (K6.out.rv.later hS1) (K6.out.rq.later hS1)).mono ?_
    rintro _ v2 ⟨rfl, hb2⟩
    have hS2 := Bn hS1 hb2
    refine hK.out _ _ hS2 (fun _ => ?_)
    clear hK K hb2
    try simp only [List.setIfInBounds_toArray, List.set_cons_zero, List.set_cons_succ]
    refine Ord.take (i := 12) (d := 122) (v := .bool true) rfl rfl (by as_aux_lemma => kernel_rfl) (by as_aux_lemma => kernel_rfl) (by as_aux_lemma => kernel_rfl) (fun _ _ _ h => h) (by rfl) ?hC12 (by assumption) ?_
    case hC12 => intro V hSw; cases sb <;> go_simp; try with_reducible rfl
    try simp only [List.setIfInBounds_toArray, List.set_cons_zero, List.set_cons_succ]
    refine Ord.take (i := 13) (d := 123) (v := ?vC13) rfl rfl (by as_aux_lemma => kernel_rfl) (by as_aux_lemma => kernel_rfl) (by as_aux_lemma => kernel_rfl) (fun _ _ _ h => h) (by rfl) ?hC13 (by assumption) ?_
    case hC13 => intro V hSw; go_simp; try with_reducible rfl
    try simp only [List.setIfInBounds_toArray, List.set_cons_zero, List.set_cons_succ]
    refine Ord.take (i := 14) (d := 124) (v := ?vC14) rfl rfl (by as_aux_lemma => kernel_rfl) (by as_aux_lemma => kernel_rfl) (by as_aux_lemma => kernel_rfl) (fun _ _ _ h => h) (by rfl) ?hC14 (by assumption) ?_
    case hC14 => intro V hSw; go_simp; try with_reducible rfl
    try simp only [List.setIfInBounds_toArray, List.set_cons_zero, List.set_cons_succ]
    refine Ord.take (i := 15) (d := 125) (v := .agg R.cs.toArray) rfl rfl (by as_aux_lemma => kernel_rfl) (by as_aux_lemma => kernel_rfl) (by as_aux_lemma => kernel_rfl) (fun _ _ _ h => h) (by rfl) ?hC15 (by assumption) ?_
    case hC15 => intro V hSw; exact exec_load 27 (.tmp 4) rfl w.heap.size 0 rfl (K6.out.box.later hSw).load
    try simp only [List.setIfInBounds_toArray, List.set_cons_zero, List.set_cons_succ]
    refine Ord.take (i := 16) (d := 126) (v := .agg R.cs.toArray) rfl rfl (by as_aux_lemma => kernel_rfl) (by as_aux_lemma => kernel_rfl) (by as_aux_lemma => kernel_rfl) (fun _ _ _ h => h) (by rfl) ?hC16 (by assumption) ?_
    case hC16 => intro V hSw; exact exec_load 27 (.tmp 4) rfl w.heap.size 0 rfl (K6.out.box.later hSw).load
    try simp only [List.setIfInBounds_toArray, List.set_cons_zero, List.set_cons_succ]
    refine wpAnyH_ready (rs := [17]) (by as_aux_lemma => kernel_rfl) (by simp) (AllReadyH.cons rfl (fun K hK => ?_) AllReadyH.nil)
    go_simp
    refine (HSS.out v2 (K6.out.rv.later hS2) (K6.out.rv.later hS2)).mono ?_
    rintro _ v3 ⟨rfl, hb3⟩
    have hS3 := Bn hS2 hb3
    refine hK.out _ _ hS3 (fun _ => ?_)
    clear hK K hb3
    try simp only [List.setIfInBounds_toArray, List.set_cons_zero, List.set_cons_succ]
    refine Ord.take (i := 18) (d := 128) (v := ?vC18) rfl rfl (by as_aux_lemma => kernel_rfl) (by as_aux_lemma => kernel_rfl) (by as_aux_lemma => kernel_rfl) (fun _ _ _ h => h) (by rfl) ?hC18 (by assumption) ?_
    case hC18 => intro V hSw; go_simp; try with_reducible rfl
    try simp only [List.setIfInBounds_toArray, List.set_cons_zero, List.set_cons_succ]
    refine Ord.take (i := 19) (d := 129) (v := ?vC19) rfl rfl (by as_aux_lemma => kernel_rfl) (by as_aux_lemma => kernel_rfl) (by as_aux_lemma => kernel_rfl) (fun _ _ _ h => h) (by rfl) ?hC19 (by assumption) ?_
    case hC19 => intro V hSw; go_simp; try with_reducible rfl
    try simp only [List.setIfInBounds_toArray, List.set_cons_zero, List.set_cons_succ]
    refine wpAnyH_ready (rs := [20]) (by as_aux_lemma => kernel_rfl) (by simp) (AllReadyH.cons rfl (fun K hK => ?_) AllReadyH.nil)
    go_simp
    refine (alive_word v3).mono ?_
    rintro _ v4 ⟨rfl, hb4⟩
    have hS4 := Bn hS3 hb4
    refine hK.out _ _ hS4 (fun _ => ?_)
    clear hK K hb4
    try simp only [List.setIfInBounds_toArray, List.set_cons_zero, List.set_cons_succ]
    refine Ord.take (i := 21) (d := 131) (v := ?vC21) rfl rfl (by as_aux_lemma => kernel_rfl) (by as_aux_lemma => kernel_rfl) (by as_aux_lemma => kernel_rfl) (fun _ _ _ h => h) (by rfl) ?hC21 (by assumption) ?_
    case hC21 => intro V hSw; go_simp; try with_reducible rfl
    try simp only [List.setIfInBounds_toArray, List.set_cons_zero, List.set_cons_succ]
    refine Ord.take (i := 22) (d := 8) (v := ?vC22) rfl rfl (by as_aux_lemma => kernel_rfl) (by as_aux_lemma => kernel_rfl) (by as_aux_lemma => kernel_rfl) (fun _ _ _ h => h) (by rfl) ?hC22 (by assumption) ?_
    case hC22 => intro V hSw; go_simp; try with_reducible rfl
    try simp only [List.setIfInBounds_toArray, List.set_cons_zero, List.set_cons_succ]
    refine wpAnyH_done (by as_aux_lemma => kernel_rfl) ?_ _
    have HBE := hid (Bn K6.out.bel hS4)
    clear hS0 hS1 hS2 hS3 hS4
    go_wp2
    go_ret
    exact ⟨rfl, HBE.out⟩

set_option maxHeartbeats 16000000 in
set_option maxRecDepth 100000 in
theorem walk_long (r q : Rec) (s : ByteArray) (ov : Int) (hov : (Lit.int .i64 ov).wf = true) (w : World) (hL : Sh.Laid w) (hr : Rv w r) (hq : Rv w q) (hs : s.size ≤ maxLen) (h300 : 300 < s.size) :
    Calls Tryd.prog 3 #[.agg r.cs.toArray, .agg q.cs.toArray, .string s, .int .i64 ov] w fun e w' => e = .returned (.bool true) ∧ Below w.heap.size w w' := by
  have b1 := bel_alc w (.cells r.cs.toArray 27)
  have b2 := bel_alc (w.alloc (.cells r.cs.toArray 27)) (.cells q.cs.toArray 27)
  have s1 : (w.alloc (.cells r.cs.toArray 27)).heap.size = w.heap.size + 1 := by simp
  obtain ⟨W0, hW0⟩ : ∃ W0, W0 = (w.alloc (.cells r.cs.toArray 27)).alloc (.cells q.cs.toArray 27) := ⟨_, rfl⟩
  have HX0 : Hid (Bx W0 w.heap.size r) := by rw [hW0]; exact (Bx.mk' w r hr.len).later b2
  have HX1 : Hid (Bx W0 (w.heap.size + 1) q) := by
    have := Bx.mk' (w.alloc (.cells r.cs.toArray 27)) q hq.len
    rw [s1, ← hW0] at this
    exact this
  have HB0 : Hid (Below w.heap.size w W0) := by rw [hW0]; exact Bn b1 b2
  have HV := hid hr
  have HQ := hid hq
  have HLA := hid hL
  have HS := hid hs
  unfold maxLen at hs
  clear b1 b2 hr hq hL
  go_enter Tryd.func3, Tryd.ntmps3
  go_wp2_with fail
  rw [← hW0]
  clear hW0 s1
  have hd0 : Below W0.heap.size W0 W0.drew := (Below.refl _ _).drew
  have HXV := hid (HX0.out.later hd0)
  refine OrdE.region (fun V => Below w.heap.size w V ∧ Bx V (w.heap.size + 1) q) 5 (by kernel_rfl) ⟨Bn HB0.out hd0, HX1.out.later hd0⟩ (fun hS0 => ?_)
  clear hd0
  generalize W0.drew = v0 at *
  simp only [List.size_toArray, List.length_cons, List.length_nil, Nat.reduceAdd]
  refine OrdE.take (i := 2) (d := 25) (v := .agg q.cs.toArray) rfl rfl rfl (by as_aux_lemma => kernel_rfl) (by as_aux_lemma => kernel_rfl) (by as_aux_lemma => kernel_rfl) (by as_aux_lemma => kernel_rfl) (fun _ _ _ h => h) (by rfl) ?hA2 (by assumption) ?_
  case hA2 => intro V hSw; exact exec_load 27 (.tmp 5) rfl (w.heap.size + 1) 0 rfl hSw.2.load
  try simp only [List.setIfInBounds_toArray, List.set_cons_zero, List.set_cons_succ]
  refine OrdE.one (i := 0) (by as_aux_lemma => kernel_rfl) rfl (fun K hK => ?_)
  rw [if_pos (by rfl)]
  refine wp_load_mid 27 _ rfl w.heap.size 0 rfl r.cs _ HXV.out.range Tryd.underlying27 rfl (by rw [Rec.cs_len HV.out.len]; exact Tryd.size27) ?_
  refine hK.out _ _ (fun _ => hS0) ?_
  clear hK K
  try refine OrdE.put (d := 23) rfl ?_
  try simp only [List.setIfInBounds_toArray, List.set_cons_zero, List.set_cons_succ]
  refine OrdE.one (i := 1) (by as_aux_lemma => kernel_rfl) rfl (fun K hK => ?_)
  go_simp
  refine (cut_word r v0 (HV.out.later hS0.1)).mono ?_
  rintro _ v1 ⟨rfl, hb1⟩
  have hS1 : Below w.heap.size w v1 ∧ Bx v1 (w.heap.size + 1) q := ⟨Bn hS0.1 hb1, hS0.2.later hb1⟩
  have HXV1 := hid (HXV.out.later hb1)
  refine hK.out _ _ (fun _ => hS1) ?_
  clear hK K
  try refine OrdE.put (d := 24) rfl ?_
  try simp only [List.setIfInBounds_toArray, List.set_cons_zero, List.set_cons_succ]
  refine OrdE.one (i := 3) (by as_aux_lemma => kernel_rfl) rfl (fun K hK => ?_)
  go_simp
  refine (cut_word q v1 (HQ.out.later hS1.1)).mono ?_
  rintro _ v2 ⟨rfl, hb2⟩
  have hS2 : Below w.heap.size w v2 ∧ Bx v2 (w.heap.size + 1) q := ⟨Bn hS1.1 hb2, hS1.2.later hb2⟩
  have HXV2 := hid (HXV1.out.later hb2)
  refine hK.out _ _ (fun _ => hS2) ?_
  clear hK K
  try refine OrdE.put (d := 26) rfl ?_
  try simp only [List.setIfInBounds_toArray, List.set_cons_zero, List.set_cons_succ]
  refine OrdE.one (i := 4) (by as_aux_lemma => kernel_rfl) rfl (fun K hK => ?_)
  rw [if_pos (by rfl)]
  refine wp_store_row 27 _ _ rfl w.heap.size (cutR r).cs.toArray rfl rfl 27 r.cs.toArray HXV2.out.blk (size_recs HV.out.len) (by rw [Rec.cs_size HV.out.len, Rec.cs_size (show (cutR r).prev.length = 32 from HV.out.len)]) (all_oneCell_toArray (Rec.cs_one _)) ?_
  have hS3 : Below w.heap.size w (v2.setRow w.heap.size (cutR r).cs.toArray) ∧ Bx (v2.setRow w.heap.size (cutR r).cs.toArray) (w.heap.size + 1) q := ⟨below_setRow hS2.1 (Nat.le_refl _) _, ⟨(other_setRow _ _ _ _ (by omega)).trans hS2.2.blk, hS2.2.len⟩⟩
  refine hK.out _ _ (fun _ => hS3) ?_
  clear hK K
  try simp only [List.setIfInBounds_toArray, List.set_cons_zero, List.set_cons_succ]
  refine OrdE.one (i := 5) (by as_aux_lemma => kernel_rfl) rfl (fun K hK => ?_)
  rw [if_pos (by rfl)]
  refine wp_store_row 27 _ _ rfl (w.heap.size + 1) (cutR q).cs.toArray rfl rfl 27 q.cs.toArray hS3.2.blk (size_recs HQ.out.len) (by rw [Rec.cs_size HQ.out.len, Rec.cs_size (show (cutR q).prev.length = 32 from HQ.out.len)]) (all_oneCell_toArray (Rec.cs_one _)) ?_
  refine hK.out _ _ (fun h => absurd rfl h) ?_
  clear hK K
  try simp only [List.setIfInBounds_toArray, List.set_cons_zero, List.set_cons_succ]
  refine OrdE.done (by as_aux_lemma => kernel_rfl) ?_ _
  have HBF := hid (below_setRow hS3.1 (show w.heap.size ≤ w.heap.size + 1 by omega) (cutR q).cs.toArray)
  have HXc : Hid (Bx ((v2.setRow w.heap.size (cutR r).cs.toArray).setRow (w.heap.size + 1) (cutR q).cs.toArray) w.heap.size (cutR r)) := ⟨(other_setRow _ _ _ _ (by omega)).trans (setRow_heap _ _ _ _ _ _ HXV2.out.blk), HV.out.len⟩
  have HXd : Hid (Bx ((v2.setRow w.heap.size (cutR r).cs.toArray).setRow (w.heap.size + 1) (cutR q).cs.toArray) (w.heap.size + 1) (cutR q)) := ⟨setRow_heap _ _ _ _ _ _ hS3.2.blk, HQ.out.len⟩
  have HPr := hid (cut_ps r)
  have hVR := fun V (h : Below w.heap.size w V) => cut_rv (HV.out.later h)
  have hVQ := fun V (h : Below w.heap.size w V) => cut_rv (HQ.out.later h)
  have HVR := hid hVR
  have HVQ := hid hVQ
  generalize cutR r = R at *
  generalize cutR q = Q at *
  generalize hX : (v2.setRow w.heap.size R.cs.toArray).setRow (w.heap.size + 1) Q.cs.toArray = X at *
  have K0 : Hid (Fk w X R Q) := ⟨HXc.out, HXd.out, hVR X HBF.out, hVQ X HBF.out, HBF.out⟩
  clear hX hb1 hb2 hS0 hS1 hS2 hS3 HX0 HX1 HB0 HXV HXV1 HXV2 HXc HXd HBF hVR hVQ HV HQ
  have HRL := hid K0.out.rv.len
  have HQL := hid K0.out.rq.len
  have HBY := hid (fun V hV => bytes_word R V hV)
  have HDB := hid (fun V hV => dbytes_word R V hV)
  have HCH := hid (fun V hV hL => chain_word R V hV hL HPr.out)
  have HDC := hid (fun V hV => dchain_word R V hV HPr.out)
  have HSZ := hid (fun V hV => size_word R.a R.cap R.ps V hV)
  have HDS := hid (fun V hV => dsize_word R.a R.cap R.ps V hV)
  have HCK := hid (fun V hV => check_word R V hV)
  have HDK := hid (fun V hV => dcheck_word R V hV)
  have HSM := hid (fun V h1 h2 => same_word R Q V h1 h2)
  have HSS := hid (fun V h1 h2 => same_word R R V h1 h2)
  have HDM := hid (fun V h1 h2 => dsame_word R Q V h1 h2)
  have HRR : Hid (sameB R R = true) := decide_eq_true ⟨rfl, rfl, rfl, rfl, rfl, rfl, rfl⟩
  have HCL : Hid ((chnD R).length = 32) := chnD_len R
  have hVB : ∀ {w0 w1 w2 : World} {v : Value}, BytP (mayB R) w1 w2 v (wrB R) → Rv w0 R → ∃ a cap, v = .slice a (bytL R).length cap ∧ Ri w2 .u8 a cap (bytL R) := fun h hv => byt_ri h hv
  have HVB : Hid (∀ w0 w1 w2 v, BytP (mayB R) w1 w2 v (wrB R) → Rv w0 R → ∃ a cap, v = .slice a (bytL R).length cap ∧ Ri w2 .u8 a cap (bytL R)) := fun _ _ _ _ h hv => byt_ri h hv
  clear hVB
  rw [HRR.out] at HSS
  have HPS : Hid (R.ps.length ≤ 1000) := HPr.out
  generalize sameB R Q = sb at *
  generalize e130 (mayB R) = ec at *
  generalize sizO R.ps = sz at *
  generalize chnD R = cd at *
  obtain ⟨sz1, sz2⟩ := sz
  clear HRR
  have HPL : Hid ((s.extract 0 300).size ≤ maxLen) := by show _ ≤ _; rw [ByteArray.size_extract]; unfold maxLen; omega
  go_wp2_with (first | refine wpList_load_g rfl 27 _ rfl w.heap.size 0 rfl R.cs _ K0.out.box.range Tryd.underlying27 rfl (by rw [Rec.cs_len HRL.out]; exact Tryd.size27) ?_ | fail)
  generalize s.extract 0 300 = P at *
  clear h300 hs HS
  refine (HBY.out X K0.out.rv).mono ?_
  rintro _ X1 ⟨v9, rfl, hc1, hp1⟩
  obtain ⟨a9, c9, rfl, hri1⟩ := HVB.out X _ _ _ hp1 K0.out.rv
  have K1 := hid (K0.out.later hc1)
  have HR1 := hid hri1
  clear hc1 hp1 hri1
  go_wp2_with (first | refine wpList_load_g rfl 27 _ rfl w.heap.size 0 rfl R.cs _ K1.out.box.range Tryd.underlying27 rfl (by rw [Rec.cs_len HRL.out]; exact Tryd.size27) ?_ | fail)
  refine (HDB.out X1 K1.out.rv).mono ?_
  rintro _ X2 ⟨v11, rfl, hc2, hp2⟩
  obtain ⟨a11, c11, rfl, hri2⟩ := HVB.out X1 _ _ _ hp2 K1.out.rv
  have K2 := hid (K1.out.later hc2)
  have HR1_2 := hid (HR1.out.later hc2)
  have HR2 := hid hri2
  clear hc2 hp2 hri2 HR1 HVB
  have hB8 := HR2.out.fits
  have HB8 := hid hB8
  clear hB8
  generalize bytL R = BL at *
  go_wp2_with (first | refine wpList_load_g rfl 27 _ rfl w.heap.size 0 rfl R.cs _ K2.out.box.range Tryd.underlying27 rfl (by rw [Rec.cs_len HRL.out]; exact Tryd.size27) ?_ | fail)
  refine (HCH.out X2 K2.out.rv (HLA.out.later K2.out.bel)).mono ?_
  rintro _ Y3 ⟨rfl, hc3⟩
  have hbb := bel_alc Y3 (.cells (u8A cd) 23)
  have K3 := hid (K2.out.later (Bn hc3 hbb))
  have HR1_3 := hid (HR1_2.out.later (Bn hc3 hbb))
  have HR2_3 := hid (HR2.out.later (Bn hc3 hbb))
  have E3 := hid (heap_alc Y3 (.cells (u8A cd) 23))
  obtain ⟨X3, hX3⟩ : ∃ X, X = Y3.alloc (.cells (u8A cd) 23) := ⟨_, rfl⟩
  have HX3 := hid hX3
  rw [← hX3] at K3 E3 HR1_3 HR2_3
  clear hc3 hbb hX3 HR1_2 HR2
  have HZD : Hid ((u8A z32).size = (u8A cd).size) := by show _ = _; rw [u8A_size, u8A_size, HCL.out]; rfl
  go_wp2_with (first | refine wpList_alloc_at rfl 23 rfl (some 13) rfl _ Tryd.zero23 Y3.heap.size rfl ?_ | refine wpList_store_as rfl 23 _ _ rfl rfl Y3 (u8A z32) (u8A cd) rfl rfl rfl (size_dig HCL.out) HZD.out (u8A_one _) X3 HX3.out ?_ | refine wpList_load_g rfl 27 _ rfl w.heap.size 0 rfl R.cs _ K3.out.box.range Tryd.underlying27 rfl (by rw [Rec.cs_len HRL.out]; exact Tryd.size27) ?_ | fail)
  refine (HDC.out X3 K3.out.rv).mono ?_
  rintro _ Y4 ⟨rfl, hc4⟩
  have hbb := bel_alc Y4 (.cells (u8A cd) 23)
  have K4 := hid (K3.out.later (Bn hc4 hbb))
  have HR1_4 := hid (HR1_3.out.later (Bn hc4 hbb))
  have HR2_4 := hid (HR2_3.out.later (Bn hc4 hbb))
  have E3_4 := hid (blk_later E3.out (Bn hc4 hbb))
  have E4 := hid (heap_alc Y4 (.cells (u8A cd) 23))
  obtain ⟨X4, hX4⟩ : ∃ X, X = Y4.alloc (.cells (u8A cd) 23) := ⟨_, rfl⟩
  have HX4 := hid hX4
  rw [← hX4] at K4 E4 HR1_4 HR2_4 E3_4
  clear hc4 hbb hX4 HR1_3 HR2_3 E3
  have c37 := K4.out.box.c37
  go_wp2_with (first | refine wpList_alloc_at rfl 23 rfl (some 15) rfl _ Tryd.zero23 Y4.heap.size rfl ?_ | refine wpList_store_as rfl 23 _ _ rfl rfl Y4 (u8A z32) (u8A cd) rfl rfl rfl (size_dig HCL.out) HZD.out (u8A_one _) X4 HX4.out ?_ | fail)
  refine (HSZ.out X4 K4.out.rv.row).mono ?_
  rintro _ X5 ⟨rfl, hc5⟩
  have K5 := hid (K4.out.later hc5)
  have HR1_5 := hid (HR1_4.out.later hc5)
  have HR2_5 := hid (HR2_4.out.later hc5)
  have E3_5 := hid (blk_later E3_4.out hc5)
  have E4_5 := hid (blk_later E4.out hc5)
  clear hc5 c37 HR1_4 HR2_4 E3_4 E4
  have c37 := K5.out.box.c37
  go_wp2_with fail
  refine (HDS.out X5 K5.out.rv.row).mono ?_
  rintro _ X6 ⟨rfl, hw6⟩
  obtain rfl := hw6.symm
  clear c37
  go_wp2_with fail
  refine wp_region_held_drew (S := fun V => Below X5.heap.size X5 V) (by kernel_rfl) (Below.refl _ _).drew (fun hS0 => ?_)
  generalize X5.drew = v0 at *
  simp only [List.size_toArray, List.length_cons, List.length_nil, Nat.reduceAdd]
  refine Ord.take (i := 0) (d := 64) (v := ?vA0) rfl rfl (by as_aux_lemma => kernel_rfl) (by as_aux_lemma => kernel_rfl) (by as_aux_lemma => kernel_rfl) (fun _ _ _ h => h) (by rfl) ?hA0 (by assumption) ?_
  case hA0 => intro V hSw; go_simp; try with_reducible rfl
  try simp only [List.setIfInBounds_toArray, List.set_cons_zero, List.set_cons_succ]
  refine Ord.take (i := 1) (d := 65) (v := .string (strOfNums BL)) rfl rfl (by as_aux_lemma => kernel_rfl) (by as_aux_lemma => kernel_rfl) (by as_aux_lemma => kernel_rfl) (fun _ _ _ h => h) (by rfl) ?hA1 (by assumption) ?_
  case hA1 => intro V hSw; have ht := HR1_5.out.text V hSw; go_simp; try with_reducible rfl
  try simp only [List.setIfInBounds_toArray, List.set_cons_zero, List.set_cons_succ]
  refine Ord.take (i := 2) (d := 66) (v := ?vA2) rfl rfl (by as_aux_lemma => kernel_rfl) (by as_aux_lemma => kernel_rfl) (by as_aux_lemma => kernel_rfl) (fun _ _ _ h => h) (by rfl) ?hA2 (by assumption) ?_
  case hA2 => intro V hSw; go_simp; try with_reducible rfl
  try simp only [List.setIfInBounds_toArray, List.set_cons_zero, List.set_cons_succ]
  refine Ord.take (i := 3) (d := 67) (v := .string (strOfNums BL)) rfl rfl (by as_aux_lemma => kernel_rfl) (by as_aux_lemma => kernel_rfl) (by as_aux_lemma => kernel_rfl) (fun _ _ _ h => h) (by rfl) ?hA3 (by assumption) ?_
  case hA3 => intro V hSw; have ht := HR2_5.out.text V hSw; go_simp; try with_reducible rfl
  try simp only [List.setIfInBounds_toArray, List.set_cons_zero, List.set_cons_succ]
  refine Ord.take (i := 4) (d := 68) (v := .bool false) rfl rfl (by as_aux_lemma => kernel_rfl) (by as_aux_lemma => kernel_rfl) (by as_aux_lemma => kernel_rfl) (fun _ _ _ h => h) (by rfl) ?hA4 (by assumption) ?_
  case hA4 => intro V hSw; go_simp; try with_reducible rfl
  try simp only [List.setIfInBounds_toArray, List.set_cons_zero, List.set_cons_succ]
  refine Ord.take (i := 5) (d := 69) (v := ?vA5) rfl rfl (by as_aux_lemma => kernel_rfl) (by as_aux_lemma => kernel_rfl) (by as_aux_lemma => kernel_rfl) (fun _ _ _ h => h) (by rfl) ?hA5 (by assumption) ?_
  case hA5 => intro V hSw; go_simp; try with_reducible rfl
  try simp only [List.setIfInBounds_toArray, List.set_cons_zero, List.set_cons_succ]
  refine Ord.take (i := 6) (d := 70) (v := ?vA6) rfl rfl (by as_aux_lemma => kernel_rfl) (by as_aux_lemma => kernel_rfl) (by as_aux_lemma => kernel_rfl) (fun _ _ _ h => h) (by rfl) ?hA6 (by assumption) ?_
  case hA6 => intro V hSw; go_simp; try with_reducible rfl
  try simp only [List.setIfInBounds_toArray, List.set_cons_zero, List.set_cons_succ]
  refine Ord.take (i := 7) (d := 71) (v := ?vA7) rfl rfl (by as_aux_lemma => kernel_rfl) (by as_aux_lemma => kernel_rfl) (by as_aux_lemma => kernel_rfl) (fun _ _ _ h => h) (by rfl) ?hA7 (by assumption) ?_
  case hA7 => intro V hSw; go_simp; try with_reducible rfl
  try simp only [List.setIfInBounds_toArray, List.set_cons_zero, List.set_cons_succ]
  refine Ord.take (i := 8) (d := 72) (v := ?vA8) rfl rfl (by as_aux_lemma => kernel_rfl) (by as_aux_lemma => kernel_rfl) (by as_aux_lemma => kernel_rfl) (fun _ _ _ h => h) (by rfl) ?hA8 (by assumption) ?_
  case hA8 => intro V hSw; go_simp; try with_reducible rfl
  try simp only [List.setIfInBounds_toArray, List.set_cons_zero, List.set_cons_succ]
  refine Ord.take (i := 9) (d := 73) (v := ?vA9) rfl rfl (by as_aux_lemma => kernel_rfl) (by as_aux_lemma => kernel_rfl) (by as_aux_lemma => kernel_rfl) (fun _ _ _ h => h) (by rfl) ?hA9 (by assumption) ?_
  case hA9 => intro V hSw; go_simp; try with_reducible rfl
  try simp only [List.setIfInBounds_toArray, List.set_cons_zero, List.set_cons_succ]
  refine Ord.take (i := 10) (d := 74) (v := ?vA10) rfl rfl (by as_aux_lemma => kernel_rfl) (by as_aux_lemma => kernel_rfl) (by as_aux_lemma => kernel_rfl) (fun _ _ _ h => h) (by rfl) ?hA10 (by assumption) ?_
  case hA10 => intro V hSw; go_simp; try with_reducible rfl
  try simp only [List.setIfInBounds_toArray, List.set_cons_zero, List.set_cons_succ]
  refine Ord.take (i := 11) (d := 75) (v := .agg (u8A cd)) rfl rfl (by as_aux_lemma => kernel_rfl) (by as_aux_lemma => kernel_rfl) (by as_aux_lemma => kernel_rfl) (fun _ _ _ h => h) (by rfl) ?hA11 (by assumption) ?_
  case hA11 => intro V hSw; exact exec_load 23 (.tmp 13) rfl Y3.heap.size 0 rfl (load_dig (blk_later E3_5.out hSw) HCL.out)
  try simp only [List.setIfInBounds_toArray, List.set_cons_zero, List.set_cons_succ]
  refine Ord.take (i := 12) (d := 76) (v := .agg (u8A cd)) rfl rfl (by as_aux_lemma => kernel_rfl) (by as_aux_lemma => kernel_rfl) (by as_aux_lemma => kernel_rfl) (fun _ _ _ h => h) (by rfl) ?hA12 (by assumption) ?_
  case hA12 => intro V hSw; exact exec_load 23 (.tmp 15) rfl Y4.heap.size 0 rfl (load_dig (blk_later E4_5.out hSw) HCL.out)
  try simp only [List.setIfInBounds_toArray, List.set_cons_zero, List.set_cons_succ]
  refine Ord.take (i := 13) (d := 77) (v := .bool false) rfl rfl (by as_aux_lemma => kernel_rfl) (by as_aux_lemma => kernel_rfl) (by as_aux_lemma => kernel_rfl) (fun _ _ _ h => h) (by rfl) ?hA13 (by assumption) ?_
  case hA13 => intro V hSw; exact dig_neq HCL.out rfl rfl rfl V
  try simp only [List.setIfInBounds_toArray, List.set_cons_zero, List.set_cons_succ]
  refine Ord.take (i := 14) (d := 78) (v := ?vA14) rfl rfl (by as_aux_lemma => kernel_rfl) (by as_aux_lemma => kernel_rfl) (by as_aux_lemma => kernel_rfl) (fun _ _ _ h => h) (by rfl) ?hA14 (by assumption) ?_
  case hA14 => intro V hSw; go_simp; try with_reducible rfl
  try simp only [List.setIfInBounds_toArray, List.set_cons_zero, List.set_cons_succ]
  refine Ord.take (i := 15) (d := 79) (v := ?vA15) rfl rfl (by as_aux_lemma => kernel_rfl) (by as_aux_lemma => kernel_rfl) (by as_aux_lemma => kernel_rfl) (fun _ _ _ h => h) (by rfl) ?hA15 (by assumption) ?_
  case hA15 => intro V hSw; go_simp; try with_reducible rfl
  try simp only [List.setIfInBounds_toArray, List.set_cons_zero, List.set_cons_succ]
  refine Ord.take (i := 16) (d := 80) (v := ?vA16) rfl rfl (by as_aux_lemma => kernel_rfl) (by as_aux_lemma => kernel_rfl) (by as_aux_lemma => kernel_rfl) (fun _ _ _ h => h) (by rfl) ?hA16 (by assumption) ?_
  case hA16 => intro V hSw; go_simp; try with_reducible rfl
  try simp only [List.setIfInBounds_toArray, List.set_cons_zero, List.set_cons_succ]
  refine Ord.take (i := 17) (d := 81) (v := ?vA17) rfl rfl (by as_aux_lemma => kernel_rfl) (by as_aux_lemma => kernel_rfl) (by as_aux_lemma => kernel_rfl) (fun _ _ _ h => h) (by rfl) ?hA17 (by assumption) ?_
  case hA17 => intro V hSw; go_simp; try with_reducible rfl
  try simp only [List.setIfInBounds_toArray, List.set_cons_zero, List.set_cons_succ]
  refine Ord.take (i := 18) (d := 82) (v := ?vA18) rfl rfl (by as_aux_lemma => kernel_rfl) (by as_aux_lemma => kernel_rfl) (by as_aux_lemma => kernel_rfl) (fun _ _ _ h => h) (by rfl) ?hA18 (by assumption) ?_
  case hA18 => intro V hSw; go_simp; try with_reducible rfl
  try simp only [List.setIfInBounds_toArray, List.set_cons_zero, List.set_cons_succ]
  refine Ord.take (i := 19) (d := 83) (v := ?vA19) rfl rfl (by as_aux_lemma => kernel_rfl) (by as_aux_lemma => kernel_rfl) (by as_aux_lemma => kernel_rfl) (fun _ _ _ h => h) (by rfl) ?hA19 (by assumption) ?_
  case hA19 => intro V hSw; go_simp; try with_reducible rfl
  try simp only [List.setIfInBounds_toArray, List.set_cons_zero, List.set_cons_succ]
  refine Ord.take (i := 20) (d := 84) (v := ?vA20) rfl rfl (by as_aux_lemma => kernel_rfl) (by as_aux_lemma => kernel_rfl) (by as_aux_lemma => kernel_rfl) (fun _ _ _ h => h) (by rfl) ?hA20 (by assumption) ?_
  case hA20 => intro V hSw; go_simp; try with_reducible rfl
  try simp only [List.setIfInBounds_toArray, List.set_cons_zero, List.set_cons_succ]
  refine Ord.take (i := 21) (d := 85) (v := ?vA21) rfl rfl (by as_aux_lemma => kernel_rfl) (by as_aux_lemma => kernel_rfl) (by as_aux_lemma => kernel_rfl) (fun _ _ _ h => h) (by rfl) ?hA21 (by assumption) ?_
  case hA21 => intro V hSw; go_simp; try with_reducible rfl
  try simp only [List.setIfInBounds_toArray, List.set_cons_zero, List.set_cons_succ]
  refine Ord.take (i := 22) (d := 86) (v := ?vA22) rfl rfl (by as_aux_lemma => kernel_rfl) (by as_aux_lemma => kernel_rfl) (by as_aux_lemma => kernel_rfl) (fun _ _ _ h => h) (by rfl) ?hA22 (by assumption) ?_
  case hA22 => intro V hSw; go_simp; try with_reducible rfl
  try simp only [List.setIfInBounds_toArray, List.set_cons_zero, List.set_cons_succ]
  refine Ord.take (i := 23) (d := 87) (v := ?vA23) rfl rfl (by as_aux_lemma => kernel_rfl) (by as_aux_lemma => kernel_rfl) (by as_aux_lemma => kernel_rfl) (fun _ _ _ h => h) (by rfl) ?hA23 (by assumption) ?_
  case hA23 => intro V hSw; go_simp; try with_reducible rfl
  try simp only [List.setIfInBounds_toArray, List.set_cons_zero, List.set_cons_succ]
  refine Ord.take (i := 24) (d := 88) (v := ?vA24) rfl rfl (by as_aux_lemma => kernel_rfl) (by as_aux_lemma => kernel_rfl) (by as_aux_lemma => kernel_rfl) (fun _ _ _ h => h) (by rfl) ?hA24 (by assumption) ?_
  case hA24 => intro V hSw; go_simp; try with_reducible rfl
  try simp only [List.setIfInBounds_toArray, List.set_cons_zero, List.set_cons_succ]
  refine Ord.take (i := 25) (d := 89) (v := ?vA25) rfl rfl (by as_aux_lemma => kernel_rfl) (by as_aux_lemma => kernel_rfl) (by as_aux_lemma => kernel_rfl) (fun _ _ _ h => h) (by rfl) ?hA25 (by assumption) ?_
  case hA25 => intro V hSw; go_simp; try with_reducible rfl
  try simp only [List.setIfInBounds_toArray, List.set_cons_zero, List.set_cons_succ]
  refine Ord.take (i := 26) (d := 90) (v := ?vA26) rfl rfl (by as_aux_lemma => kernel_rfl) (by as_aux_lemma => kernel_rfl) (by as_aux_lemma => kernel_rfl) (fun _ _ _ h => h) (by rfl) ?hA26 (by assumption) ?_
  case hA26 => intro V hSw; go_simp; try with_reducible rfl
  try simp only [List.setIfInBounds_toArray, List.set_cons_zero, List.set_cons_succ]
  refine Ord.take (i := 27) (d := 91) (v := ?vA27) rfl rfl (by as_aux_lemma => kernel_rfl) (by as_aux_lemma => kernel_rfl) (by as_aux_lemma => kernel_rfl) (fun _ _ _ h => h) (by rfl) ?hA27 (by assumption) ?_
  case hA27 => intro V hSw; go_simp; try with_reducible rfl
  try simp only [List.setIfInBounds_toArray, List.set_cons_zero, List.set_cons_succ]
  refine Ord.take (i := 28) (d := 92) (v := ?vA28) rfl rfl (by as_aux_lemma => kernel_rfl) (by as_aux_lemma => kernel_rfl) (by as_aux_lemma => kernel_rfl) (fun _ _ _ h => h) (by rfl) ?hA28 (by assumption) ?_
  case hA28 => intro V hSw; go_simp; try with_reducible rfl
  try simp only [List.setIfInBounds_toArray, List.set_cons_zero, List.set_cons_succ]
  refine Ord.take (i := 29) (d := 93) (v := ?vA29) rfl rfl (by as_aux_lemma => kernel_rfl) (by as_aux_lemma => kernel_rfl) (by as_aux_lemma => kernel_rfl) (fun _ _ _ h => h) (by rfl) ?hA29 (by assumption) ?_
  case hA29 => intro V hSw; go_simp; try with_reducible rfl
  try simp only [List.setIfInBounds_toArray, List.set_cons_zero, List.set_cons_succ]
  refine Ord.take (i := 30) (d := 94) (v := ?vA30) rfl rfl (by as_aux_lemma => kernel_rfl) (by as_aux_lemma => kernel_rfl) (by as_aux_lemma => kernel_rfl) (fun _ _ _ h => h) (by rfl) ?hA30 (by assumption) ?_
  case hA30 => intro V hSw; go_simp; try with_reducible rfl
  try simp only [List.setIfInBounds_toArray, List.set_cons_zero, List.set_cons_succ]
  refine Ord.take (i := 31) (d := 95) (v := .agg R.cs.toArray) rfl rfl (by as_aux_lemma => kernel_rfl) (by as_aux_lemma => kernel_rfl) (by as_aux_lemma => kernel_rfl) (fun _ _ _ h => h) (by rfl) ?hA31 (by assumption) ?_
  case hA31 => intro V hSw; exact exec_load 27 (.tmp 4) rfl w.heap.size 0 rfl (K5.out.box.later hSw).load
  try simp only [List.setIfInBounds_toArray, List.set_cons_zero, List.set_cons_succ]
  refine Ord.take (i := 33) (d := 97) (v := .agg R.cs.toArray) rfl rfl (by as_aux_lemma => kernel_rfl) (by as_aux_lemma => kernel_rfl) (by as_aux_lemma => kernel_rfl) (fun _ _ _ h => h) (by rfl) ?hA33 (by assumption) ?_
  case hA33 => intro V hSw; exact exec_load 27 (.tmp 4) rfl w.heap.size 0 rfl (K5.out.box.later hSw).load
  try simp only [List.setIfInBounds_toArray, List.set_cons_zero, List.set_cons_succ]
  refine wpAnyH_ready (rs := [32]) (by as_aux_lemma => kernel_rfl) (by simp) (AllReadyH.cons rfl (fun K hK => ?_) AllReadyH.nil)
  go_simp
  refine (HCK.out v0 (K5.out.rv.later hS0)).mono ?_
  rintro _ v1 ⟨rfl, hb1⟩
  have hS1 := Bn hS0 hb1
  refine hK.out _ _ hS1 (fun _ => ?_)
  clear hK K hb1
  try simp only [List.setIfInBounds_toArray, List.set_cons_zero, List.set_cons_succ]
  refine wpAnyH_ready (rs := [34]) (by as_aux_lemma => kernel_rfl) (by simp) (AllReadyH.cons rfl (fun K hK => ?_) AllReadyH.nil)
  go_simp
  refine (HDK.out v1 (K5.out.rv.later hS1)).mono ?_
  rintro _ v2 ⟨rfl, hb2⟩
  have hS2 := Bn hS1 hb2
  refine hK.out _ _ hS2 (fun _ => ?_)
  clear hK K hb2
  try simp only [List.setIfInBounds_toArray, List.set_cons_zero, List.set_cons_succ]
  refine Ord.take (i := 35) (d := 99) (v := ?vA35) rfl rfl (by as_aux_lemma => kernel_rfl) (by as_aux_lemma => kernel_rfl) (by as_aux_lemma => kernel_rfl) (fun _ _ _ h => h) (by rfl) ?hA35 (by assumption) ?_
  case hA35 => intro V hSw; go_simp; try with_reducible rfl
  try simp only [List.setIfInBounds_toArray, List.set_cons_zero, List.set_cons_succ]
  refine Ord.take (i := 36) (d := 100) (v := ?vA36) rfl rfl (by as_aux_lemma => kernel_rfl) (by as_aux_lemma => kernel_rfl) (by as_aux_lemma => kernel_rfl) (fun _ _ _ h => h) (by rfl) ?hA36 (by assumption) ?_
  case hA36 => intro V hSw; go_simp; try with_reducible rfl
  try simp only [List.setIfInBounds_toArray, List.set_cons_zero, List.set_cons_succ]
  refine wpAnyH_done (by as_aux_lemma => kernel_rfl) ?_ _
  have K6 := hid (K5.out.later hS2)
  clear hS0 hS1 hS2 HR1_5 HR2_5 E3_5 E4_5
  have HIP := hid (fun V => path_word P V HPL.out)
  have HDP := hid (fun V => dpath_word P V HPL.out)
  generalize pathB P = pb at *
  clear HCK HDK HSZ HDS HCH HDC HBY HDB HLA
  by_cases hv1 : ov = 1
  · subst hv1
    clear hov
    obtain ⟨ob, hmk⟩ := mk_pcs v2
    have hbo := bel_alc v2 ob
    have K7 := hid (K6.out.later hbo)
    have HLG := hid (size_long (some ⟨v2.heap.size, 0, none⟩) 4097 4097 (v2.alloc ob) (by omega) (by unfold maxLen; omega))
    clear hbo
    go_wp2_with fail
    refine HLG.out.mono ?_
    rintro _ X7 ⟨rfl, hw7⟩
    obtain rfl := hw7.symm
    clear hmk HLG
    generalize v2.alloc ob = X7 at *
    go_wp2_with fail
    refine wp_region_held_drew (S := fun V => Below X7.heap.size X7 V) (by kernel_rfl) (Below.refl _ _).drew (fun hS0 => ?_)
    generalize X7.drew = v0 at *
    simp only [List.size_toArray, List.length_cons, List.length_nil, Nat.reduceAdd]
    refine Ord.take (i := 0) (d := 110) (v := ?vB0) rfl rfl (by as_aux_lemma => kernel_rfl) (by as_aux_lemma => kernel_rfl) (by as_aux_lemma => kernel_rfl) (fun _ _ _ h => h) (by rfl) ?hB0 (by assumption) ?_
    case hB0 => intro V hSw; go_simp; try with_reducible rfl
    try simp only [List.setIfInBounds_toArray, List.set_cons_zero, List.set_cons_succ]
    refine Ord.take (i := 2) (d := 112) (v := ?vB2) rfl rfl (by as_aux_lemma => kernel_rfl) (by as_aux_lemma => kernel_rfl) (by as_aux_lemma => kernel_rfl) (fun _ _ _ h => h) (by rfl) ?hB2 (by assumption) ?_
    case hB2 => intro V hSw; go_simp; try with_reducible rfl
    try simp only [List.setIfInBounds_toArray, List.set_cons_zero, List.set_cons_succ]
    refine wpAnyH_ready (rs := [1]) (by as_aux_lemma => kernel_rfl) (by simp) (AllReadyH.cons rfl (fun K hK => ?_) AllReadyH.nil)
    go_simp
    refine (HIP.out v0).mono ?_
    rintro _ u1 ⟨rfl, hw1⟩
    obtain rfl := hw1.symm
    refine hK.out _ _ hS0 (fun _ => ?_)
    clear hK K
    try simp only [List.setIfInBounds_toArray, List.set_cons_zero, List.set_cons_succ]
    refine wpAnyH_ready (rs := [3]) (by as_aux_lemma => kernel_rfl) (by simp) (AllReadyH.cons rfl (fun K hK => ?_) AllReadyH.nil)
    go_simp
    refine (HDP.out v0).mono ?_
    rintro _ u2 ⟨rfl, hw2⟩
    obtain rfl := hw2.symm
    refine hK.out _ _ hS0 (fun _ => ?_)
    clear hK K
    try simp only [List.setIfInBounds_toArray, List.set_cons_zero, List.set_cons_succ]
    refine Ord.take (i := 4) (d := 114) (v := .bool true) rfl rfl (by as_aux_lemma => kernel_rfl) (by as_aux_lemma => kernel_rfl) (by as_aux_lemma => kernel_rfl) (fun _ _ _ h => h) (by rfl) ?hB4 (by assumption) ?_
    case hB4 => intro V hSw; cases pb <;> go_simp; try with_reducible rfl
    try simp only [List.setIfInBounds_toArray, List.set_cons_zero, List.set_cons_succ]
    refine Ord.take (i := 5) (d := 115) (v := ?vB5) rfl rfl (by as_aux_lemma => kernel_rfl) (by as_aux_lemma => kernel_rfl) (by as_aux_lemma => kernel_rfl) (fun _ _ _ h => h) (by rfl) ?hB5 (by assumption) ?_
    case hB5 => intro V hSw; go_simp; try with_reducible rfl
    try simp only [List.setIfInBounds_toArray, List.set_cons_zero, List.set_cons_succ]
    refine Ord.take (i := 6) (d := 116) (v := .agg R.cs.toArray) rfl rfl (by as_aux_lemma => kernel_rfl) (by as_aux_lemma => kernel_rfl) (by as_aux_lemma => kernel_rfl) (fun _ _ _ h => h) (by rfl) ?hB6 (by assumption) ?_
    case hB6 => intro V hSw; exact exec_load 27 (.tmp 4) rfl w.heap.size 0 rfl (K7.out.box.later hSw).load
    try simp only [List.setIfInBounds_toArray, List.set_cons_zero, List.set_cons_succ]
    refine Ord.take (i := 7) (d := 117) (v := .agg Q.cs.toArray) rfl rfl (by as_aux_lemma => kernel_rfl) (by as_aux_lemma => kernel_rfl) (by as_aux_lemma => kernel_rfl) (fun _ _ _ h => h) (by rfl) ?hB7 (by assumption) ?_
    case hB7 => intro V hSw; exact exec_load 27 (.tmp 5) rfl (w.heap.size + 1) 0 rfl (K7.out.box2.later hSw).load
    try simp only [List.setIfInBounds_toArray, List.set_cons_zero, List.set_cons_succ]
    refine Ord.take (i := 9) (d := 119) (v := .agg R.cs.toArray) rfl rfl (by as_aux_lemma => kernel_rfl) (by as_aux_lemma => kernel_rfl) (by as_aux_lemma => kernel_rfl) (fun _ _ _ h => h) (by rfl) ?hB9 (by assumption) ?_
    case hB9 => intro V hSw; exact exec_load 27 (.tmp 4) rfl w.heap.size 0 rfl (K7.out.box.later hSw).load
    try simp only [List.setIfInBounds_toArray, List.set_cons_zero, List.set_cons_succ]
    refine Ord.take (i := 10) (d := 120) (v := .agg Q.cs.toArray) rfl rfl (by as_aux_lemma => kernel_rfl) (by as_aux_lemma => kernel_rfl) (by as_aux_lemma => kernel_rfl) (fun _ _ _ h => h) (by rfl) ?hB10 (by assumption) ?_
    case hB10 => intro V hSw; exact exec_load 27 (.tmp 5) rfl (w.heap.size + 1) 0 rfl (K7.out.box2.later hSw).load
    try simp only [List.setIfInBounds_toArray, List.set_cons_zero, List.set_cons_succ]
    refine wpAnyH_ready (rs := [8]) (by as_aux_lemma => kernel_rfl) (by simp) (AllReadyH.cons rfl (fun K hK => ?_) AllReadyH.nil)
    go_simp
    refine (HSM.out v0 (K7.out.rv.later hS0) (K7.out.rq.later hS0)).mono ?_
    rintro _ v1 ⟨rfl, hb1⟩
    have hS1 := Bn hS0 hb1
    refine hK.out _ _ hS1 (fun _ => ?_)
    clear hK K hb1
    try simp only [List.setIfInBounds_toArray, List.set_cons_zero, List.set_cons_succ]
    refine wpAnyH_ready (rs := [11]) (by as_aux_lemma => kernel_rfl) (by simp) (AllReadyH.cons rfl (fun K hK => ?_) AllReadyH.nil)
    go_simp
    refine (HDM.out v1 (K7.out.rv.later hS1) (K7.out.rq.later hS1)).mono ?_
    rintro _ v2 ⟨rfl, hb2⟩
    have hS2 := Bn hS1 hb2
    refine hK.out _ _ hS2 (fun _ => ?_)
    clear hK K hb2
    try simp only [List.setIfInBounds_toArray, List.set_cons_zero, List.set_cons_succ]
    refine Ord.take (i := 12) (d := 122) (v := .bool true) rfl rfl (by as_aux_lemma => kernel_rfl) (by as_aux_lemma => kernel_rfl) (by as_aux_lemma => kernel_rfl) (fun _ _ _ h => h) (by rfl) ?hB12 (by assumption) ?_
    case hB12 => intro V hSw; cases sb <;> go_simp; try with_reducible rfl
    try simp only [List.setIfInBounds_toArray, List.set_cons_zero, List.set_cons_succ]
    refine Ord.take (i := 13) (d := 123) (v := ?vB13) rfl rfl (by as_aux_lemma => kernel_rfl) (by as_aux_lemma => kernel_rfl) (by as_aux_lemma => kernel_rfl) (fun _ _ _ h => h) (by rfl) ?hB13 (by assumption) ?_
    case hB13 => intro V hSw; go_simp; try with_reducible rfl
    try simp only [List.setIfInBounds_toArray, List.set_cons_zero, List.set_cons_succ]
    refine Ord.take (i := 14) (d := 124) (v := ?vB14) rfl rfl (by as_aux_lemma => kernel_rfl) (by as_aux_lemma => kernel_rfl) (by as_aux_lemma => kernel_rfl) (fun _ _ _ h => h) (by rfl) ?hB14 (by assumption) ?_
    case hB14 => intro V hSw; go_simp; try with_reducible rfl
    try simp only [List.setIfInBounds_toArray, List.set_cons_zero, List.set_cons_succ]
    refine Ord.take (i := 15) (d := 125) (v := .agg R.cs.toArray) rfl rfl (by as_aux_lemma => kernel_rfl) (by as_aux_lemma => kernel_rfl) (by as_aux_lemma => kernel_rfl) (fun _ _ _ h => h) (by rfl) ?hB15 (by assumption) ?_
    case hB15 => intro V hSw; exact exec_load 27 (.tmp 4) rfl w.heap.size 0 rfl (K7.out.box.later hSw).load
    try simp only [List.setIfInBounds_toArray, List.set_cons_zero, List.set_cons_succ]
    refine Ord.take (i := 16) (d := 126) (v := .agg R.cs.toArray) rfl rfl (by as_aux_lemma => kernel_rfl) (by as_aux_lemma => kernel_rfl) (by as_aux_lemma => kernel_rfl) (fun _ _ _ h => h) (by rfl) ?hB16 (by assumption) ?_
    case hB16 => intro V hSw; exact exec_load 27 (.tmp 4) rfl w.heap.size 0 rfl (K7.out.box.later hSw).load
    try simp only [List.setIfInBounds_toArray, List.set_cons_zero, List.set_cons_succ]
    refine wpAnyH_ready (rs := [17]) (by as_aux_lemma => kernel_rfl) (by simp) (AllReadyH.cons rfl (fun K hK => ?_) AllReadyH.nil)
    go_simp
    refine (HSS.out v2 (K7.out.rv.later hS2) (K7.out.rv.later hS2)).mono ?_
    rintro _ v3 ⟨rfl, hb3⟩
    have hS3 := Bn hS2 hb3
    refine hK.out _ _ hS3 (fun _ => ?_)
    clear hK K hb3
    try simp only [List.setIfInBounds_toArray, List.set_cons_zero, List.set_cons_succ]
    refine Ord.take (i := 18) (d := 128) (v := ?vB18) rfl rfl (by as_aux_lemma => kernel_rfl) (by as_aux_lemma => kernel_rfl) (by as_aux_lemma => kernel_rfl) (fun _ _ _ h => h) (by rfl) ?hB18 (by assumption) ?_
    case hB18 => intro V hSw; go_simp; try with_reducible rfl
    try simp only [List.setIfInBounds_toArray, List.set_cons_zero, List.set_cons_succ]
    refine Ord.take (i := 19) (d := 129) (v := ?vB19) rfl rfl (by as_aux_lemma => kernel_rfl) (by as_aux_lemma => kernel_rfl) (by as_aux_lemma => kernel_rfl) (fun _ _ _ h => h) (by rfl) ?hB19 (by assumption) ?_
    case hB19 => intro V hSw; go_simp; try with_reducible rfl
    try simp only [List.setIfInBounds_toArray, List.set_cons_zero, List.set_cons_succ]
    refine wpAnyH_ready (rs := [20]) (by as_aux_lemma => kernel_rfl) (by simp) (AllReadyH.cons rfl (fun K hK => ?_) AllReadyH.nil)
    go_simp
    refine (alive_word v3).mono ?_
    rintro _ v4 ⟨rfl, hb4⟩
    have hS4 := Bn hS3 hb4
    refine hK.out _ _ hS4 (fun _ => ?_)
    clear hK K hb4
    try simp only [List.setIfInBounds_toArray, List.set_cons_zero, List.set_cons_succ]
    refine Ord.take (i := 21) (d := 131) (v := ?vB21) rfl rfl (by as_aux_lemma => kernel_rfl) (by as_aux_lemma => kernel_rfl) (by as_aux_lemma => kernel_rfl) (fun _ _ _ h => h) (by rfl) ?hB21 (by assumption) ?_
    case hB21 => intro V hSw; go_simp; try with_reducible rfl
    try simp only [List.setIfInBounds_toArray, List.set_cons_zero, List.set_cons_succ]
    refine Ord.take (i := 22) (d := 8) (v := ?vB22) rfl rfl (by as_aux_lemma => kernel_rfl) (by as_aux_lemma => kernel_rfl) (by as_aux_lemma => kernel_rfl) (fun _ _ _ h => h) (by rfl) ?hB22 (by assumption) ?_
    case hB22 => intro V hSw; go_simp; try with_reducible rfl
    try simp only [List.setIfInBounds_toArray, List.set_cons_zero, List.set_cons_succ]
    refine wpAnyH_done (by as_aux_lemma => kernel_rfl) ?_ _
    have HBE := hid (Bn K7.out.bel hS4)
    clear hS0 hS1 hS2 hS3 hS4
    go_wp2
    go_ret
    exact ⟨rfl, HBE.out⟩
  · have hv2 : (ov == 1) = false := by rw [beq_eq_false_iff_ne]; exact hv1
    have hv3 : decide (ov = 1) = false := decide_eq_false hv1
    go_wp2_with fail
    refine wp_region_held_drew (S := fun V => Below v2.heap.size v2 V) (by kernel_rfl) (Below.refl _ _).drew (fun hS0 => ?_)
    generalize v2.drew = v0 at *
    simp only [List.size_toArray, List.length_cons, List.length_nil, Nat.reduceAdd]
    refine Ord.take (i := 0) (d := 110) (v := ?vC0) rfl rfl (by as_aux_lemma => kernel_rfl) (by as_aux_lemma => kernel_rfl) (by as_aux_lemma => kernel_rfl) (fun _ _ _ h => h) (by rfl) ?hC0 (by assumption) ?_
    case hC0 => intro V hSw; go_simp; try with_reducible rfl
    try simp only [List.setIfInBounds_toArray, List.set_cons_zero, List.set_cons_succ]
    refine Ord.take (i := 2) (d := 112) (v := ?vC2) rfl rfl (by as_aux_lemma => kernel_rfl) (by as_aux_lemma => kernel_rfl) (by as_aux_lemma => kernel_rfl) (fun _ _ _ h => h) (by rfl) ?hC2 (by assumption) ?_
    case hC2 => intro V hSw; go_simp; try with_reducible rfl
    try simp only [List.setIfInBounds_toArray, List.set_cons_zero, List.set_cons_succ]
    refine wpAnyH_ready (rs := [1]) (by as_aux_lemma => kernel_rfl) (by simp) (AllReadyH.cons rfl (fun K hK => ?_) AllReadyH.nil)
    go_simp
    refine (HIP.out v0).mono ?_
    rintro _ u1 ⟨rfl, hw1⟩
    obtain rfl := hw1.symm
    refine hK.out _ _ hS0 (fun _ => ?_)
    clear hK K
    try simp only [List.setIfInBounds_toArray, List.set_cons_zero, List.set_cons_succ]
    refine wpAnyH_ready (rs := [3]) (by as_aux_lemma => kernel_rfl) (by simp) (AllReadyH.cons rfl (fun K hK => ?_) AllReadyH.nil)
    go_simp
    refine (HDP.out v0).mono ?_
    rintro _ u2 ⟨rfl, hw2⟩
    obtain rfl := hw2.symm
    refine hK.out _ _ hS0 (fun _ => ?_)
    clear hK K
    try simp only [List.setIfInBounds_toArray, List.set_cons_zero, List.set_cons_succ]
    refine Ord.take (i := 4) (d := 114) (v := .bool true) rfl rfl (by as_aux_lemma => kernel_rfl) (by as_aux_lemma => kernel_rfl) (by as_aux_lemma => kernel_rfl) (fun _ _ _ h => h) (by rfl) ?hC4 (by assumption) ?_
    case hC4 => intro V hSw; cases pb <;> go_simp; try with_reducible rfl
    try simp only [List.setIfInBounds_toArray, List.set_cons_zero, List.set_cons_succ]
    refine Ord.take (i := 5) (d := 115) (v := ?vC5) rfl rfl (by as_aux_lemma => kernel_rfl) (by as_aux_lemma => kernel_rfl) (by as_aux_lemma => kernel_rfl) (fun _ _ _ h => h) (by rfl) ?hC5 (by assumption) ?_
    case hC5 => intro V hSw; go_simp; try with_reducible rfl
    try simp only [List.setIfInBounds_toArray, List.set_cons_zero, List.set_cons_succ]
    refine Ord.take (i := 6) (d := 116) (v := .agg R.cs.toArray) rfl rfl (by as_aux_lemma => kernel_rfl) (by as_aux_lemma => kernel_rfl) (by as_aux_lemma => kernel_rfl) (fun _ _ _ h => h) (by rfl) ?hC6 (by assumption) ?_
    case hC6 => intro V hSw; exact exec_load 27 (.tmp 4) rfl w.heap.size 0 rfl (K6.out.box.later hSw).load
    try simp only [List.setIfInBounds_toArray, List.set_cons_zero, List.set_cons_succ]
    refine Ord.take (i := 7) (d := 117) (v := .agg Q.cs.toArray) rfl rfl (by as_aux_lemma => kernel_rfl) (by as_aux_lemma => kernel_rfl) (by as_aux_lemma => kernel_rfl) (fun _ _ _ h => h) (by rfl) ?hC7 (by assumption) ?_
    case hC7 => intro V hSw; exact exec_load 27 (.tmp 5) rfl (w.heap.size + 1) 0 rfl (K6.out.box2.later hSw).load
    try simp only [List.setIfInBounds_toArray, List.set_cons_zero, List.set_cons_succ]
    refine Ord.take (i := 9) (d := 119) (v := .agg R.cs.toArray) rfl rfl (by as_aux_lemma => kernel_rfl) (by as_aux_lemma => kernel_rfl) (by as_aux_lemma => kernel_rfl) (fun _ _ _ h => h) (by rfl) ?hC9 (by assumption) ?_
    case hC9 => intro V hSw; exact exec_load 27 (.tmp 4) rfl w.heap.size 0 rfl (K6.out.box.later hSw).load
    try simp only [List.setIfInBounds_toArray, List.set_cons_zero, List.set_cons_succ]
    refine Ord.take (i := 10) (d := 120) (v := .agg Q.cs.toArray) rfl rfl (by as_aux_lemma => kernel_rfl) (by as_aux_lemma => kernel_rfl) (by as_aux_lemma => kernel_rfl) (fun _ _ _ h => h) (by rfl) ?hC10 (by assumption) ?_
    case hC10 => intro V hSw; exact exec_load 27 (.tmp 5) rfl (w.heap.size + 1) 0 rfl (K6.out.box2.later hSw).load
    try simp only [List.setIfInBounds_toArray, List.set_cons_zero, List.set_cons_succ]
    refine wpAnyH_ready (rs := [8]) (by as_aux_lemma => kernel_rfl) (by simp) (AllReadyH.cons rfl (fun K hK => ?_) AllReadyH.nil)
    go_simp
    refine (HSM.out v0 (K6.out.rv.later hS0) (K6.out.rq.later hS0)).mono ?_
    rintro _ v1 ⟨rfl, hb1⟩
    have hS1 := Bn hS0 hb1
    refine hK.out _ _ hS1 (fun _ => ?_)
    clear hK K hb1
    try simp only [List.setIfInBounds_toArray, List.set_cons_zero, List.set_cons_succ]
    refine wpAnyH_ready (rs := [11]) (by as_aux_lemma => kernel_rfl) (by simp) (AllReadyH.cons rfl (fun K hK => ?_) AllReadyH.nil)
    go_simp
    refine (HDM.out v1 (K6.out.rv.later hS1) (K6.out.rq.later hS1)).mono ?_
    rintro _ v2 ⟨rfl, hb2⟩
    have hS2 := Bn hS1 hb2
    refine hK.out _ _ hS2 (fun _ => ?_)
    clear hK K hb2
    try simp only [List.setIfInBounds_toArray, List.set_cons_zero, List.set_cons_succ]
    refine Ord.take (i := 12) (d := 122) (v := .bool true) rfl rfl (by as_aux_lemma => kernel_rfl) (by as_aux_lemma => kernel_rfl) (by as_aux_lemma => kernel_rfl) (fun _ _ _ h => h) (by rfl) ?hC12 (by assumption) ?_
    case hC12 => intro V hSw; cases sb <;> go_simp; try with_reducible rfl
    try simp only [List.setIfInBounds_toArray, List.set_cons_zero, List.set_cons_succ]
    refine Ord.take (i := 13) (d := 123) (v := ?vC13) rfl rfl (by as_aux_lemma => kernel_rfl) (by as_aux_lemma => kernel_rfl) (by as_aux_lemma => kernel_rfl) (fun _ _ _ h => h) (by rfl) ?hC13 (by assumption) ?_
    case hC13 => intro V hSw; go_simp; try with_reducible rfl
    try simp only [List.setIfInBounds_toArray, List.set_cons_zero, List.set_cons_succ]
    refine Ord.take (i := 14) (d := 124) (v := ?vC14) rfl rfl (by as_aux_lemma => kernel_rfl) (by as_aux_lemma => kernel_rfl) (by as_aux_lemma => kernel_rfl) (fun _ _ _ h => h) (by rfl) ?hC14 (by assumption) ?_
    case hC14 => intro V hSw; go_simp; try with_reducible rfl
    try simp only [List.setIfInBounds_toArray, List.set_cons_zero, List.set_cons_succ]
    refine Ord.take (i := 15) (d := 125) (v := .agg R.cs.toArray) rfl rfl (by as_aux_lemma => kernel_rfl) (by as_aux_lemma => kernel_rfl) (by as_aux_lemma => kernel_rfl) (fun _ _ _ h => h) (by rfl) ?hC15 (by assumption) ?_
    case hC15 => intro V hSw; exact exec_load 27 (.tmp 4) rfl w.heap.size 0 rfl (K6.out.box.later hSw).load
    try simp only [List.setIfInBounds_toArray, List.set_cons_zero, List.set_cons_succ]
    refine Ord.take (i := 16) (d := 126) (v := .agg R.cs.toArray) rfl rfl (by as_aux_lemma => kernel_rfl) (by as_aux_lemma => kernel_rfl) (by as_aux_lemma => kernel_rfl) (fun _ _ _ h => h) (by rfl) ?hC16 (by assumption) ?_
    case hC16 => intro V hSw; exact exec_load 27 (.tmp 4) rfl w.heap.size 0 rfl (K6.out.box.later hSw).load
    try simp only [List.setIfInBounds_toArray, List.set_cons_zero, List.set_cons_succ]
    refine wpAnyH_ready (rs := [17]) (by as_aux_lemma => kernel_rfl) (by simp) (AllReadyH.cons rfl (fun K hK => ?_) AllReadyH.nil)
    go_simp
    refine (HSS.out v2 (K6.out.rv.later hS2) (K6.out.rv.later hS2)).mono ?_
    rintro _ v3 ⟨rfl, hb3⟩
    have hS3 := Bn hS2 hb3
    refine hK.out _ _ hS3 (fun _ => ?_)
    clear hK K hb3
    try simp only [List.setIfInBounds_toArray, List.set_cons_zero, List.set_cons_succ]
    refine Ord.take (i := 18) (d := 128) (v := ?vC18) rfl rfl (by as_aux_lemma => kernel_rfl) (by as_aux_lemma => kernel_rfl) (by as_aux_lemma => kernel_rfl) (fun _ _ _ h => h) (by rfl) ?hC18 (by assumption) ?_
    case hC18 => intro V hSw; go_simp; try with_reducible rfl
    try simp only [List.setIfInBounds_toArray, List.set_cons_zero, List.set_cons_succ]
    refine Ord.take (i := 19) (d := 129) (v := ?vC19) rfl rfl (by as_aux_lemma => kernel_rfl) (by as_aux_lemma => kernel_rfl) (by as_aux_lemma => kernel_rfl) (fun _ _ _ h => h) (by rfl) ?hC19 (by assumption) ?_
    case hC19 => intro V hSw; go_simp; try with_reducible rfl
    try simp only [List.setIfInBounds_toArray, List.set_cons_zero, List.set_cons_succ]
    refine wpAnyH_ready (rs := [20]) (by as_aux_lemma => kernel_rfl) (by simp) (AllReadyH.cons rfl (fun K hK => ?_) AllReadyH.nil)
    go_simp
    refine (alive_word v3).mono ?_
    rintro _ v4 ⟨rfl, hb4⟩
    have hS4 := Bn hS3 hb4
    refine hK.out _ _ hS4 (fun _ => ?_)
    clear hK K hb4
    try simp only [List.setIfInBounds_toArray, List.set_cons_zero, List.set_cons_succ]
    refine Ord.take (i := 21) (d := 131) (v := ?vC21) rfl rfl (by as_aux_lemma => kernel_rfl) (by as_aux_lemma => kernel_rfl) (by as_aux_lemma => kernel_rfl) (fun _ _ _ h => h) (by rfl) ?hC21 (by assumption) ?_
    case hC21 => intro V hSw; go_simp; try with_reducible rfl
    try simp only [List.setIfInBounds_toArray, List.set_cons_zero, List.set_cons_succ]
    refine Ord.take (i := 22) (d := 8) (v := ?vC22) rfl rfl (by as_aux_lemma => kernel_rfl) (by as_aux_lemma => kernel_rfl) (by as_aux_lemma => kernel_rfl) (fun _ _ _ h => h) (by rfl) ?hC22 (by assumption) ?_
    case hC22 => intro V hSw; go_simp; try with_reducible rfl
    try simp only [List.setIfInBounds_toArray, List.set_cons_zero, List.set_cons_succ]
    refine wpAnyH_done (by as_aux_lemma => kernel_rfl) ?_ _
    have HBE := hid (Bn K6.out.bel hS4)
    clear hS0 hS1 hS2 hS3 hS4
    go_wp2
    go_ret
    exact ⟨rfl, HBE.out⟩

theorem walk (r q : Rec) (s : ByteArray) (ov : Int) (hov : (Lit.int .i64 ov).wf = true) (w : World) (hL : Sh.Laid w) (hr : Rv w r) (hq : Rv w q) (hs : s.size ≤ maxLen) :
    Calls Tryd.prog 3 #[.agg r.cs.toArray, .agg q.cs.toArray, .string s, .int .i64 ov] w fun e w' => e = .returned (.bool true) ∧ Below w.heap.size w w' := by
  by_cases h : 300 < s.size
  · exact walk_long r q s ov hov w hL hr hq hs h
  · exact walk_short r q s ov hov w hL hr hq hs h
set_option maxRecDepth 100000 in
theorem lifted (os : Os) (started : os.Started) (H : Type) (enc : TypeId × Value → H) :
    ReturnsInHanded {} Tryd.checked os 3 .any (fun w args => (Rows.recordFormsSpec.pre enc Tryd.prog Tryd.f3 [] false w args ∧ laidMetH Tryd.prog laidL w) ∧ sizedMet enc Tryd.prog Tryd.f3 (OpenSpec.ofChange Rows.recordFormsSpec) false w args)
      (Rows.recordFormsSpec.post enc Tryd.prog Tryd.f3 false true false false) := by
  refine returnsInHanded_of_change_and (C := Tryd.checked) (X := fun w _ => laidMetH Tryd.prog laidL w) (fun _ _ _ hh h => h.of_heap hh) own started (by kernel_rfl) Tryd.func3
    (ChangeSpec.witness_shaped (enc := enc) (C := Tryd.checked) (os := os) (X := fun w _ => laidMetH Tryd.prog laidL w) false (World.doorLaid Tryd.prog 400 os) #[.agg #[.int .i64 0, .int .i64 0, .int .u8 0, .int .u8 0, .int .u8 0, .int .u8 0, .int .u8 0, .int .u8 0, .int .u8 0, .int .u8 0, .int .u8 0, .int .u8 0, .int .u8 0, .int .u8 0, .int .u8 0, .int .u8 0, .int .u8 0, .int .u8 0, .int .u8 0, .int .u8 0, .int .u8 0, .int .u8 0, .int .u8 0, .int .u8 0, .int .u8 0, .int .u8 0, .int .u8 0, .int .u8 0, .int .u8 0, .int .u8 0, .int .u8 0, .int .u8 0, .int .u8 0, .int .u8 0, .int .i64 0, .int .i64 0, .string ⟨#[]⟩, .slice none 0 0], .agg #[.int .i64 0, .int .i64 0, .int .u8 0, .int .u8 0, .int .u8 0, .int .u8 0, .int .u8 0, .int .u8 0, .int .u8 0, .int .u8 0, .int .u8 0, .int .u8 0, .int .u8 0, .int .u8 0, .int .u8 0, .int .u8 0, .int .u8 0, .int .u8 0, .int .u8 0, .int .u8 0, .int .u8 0, .int .u8 0, .int .u8 0, .int .u8 0, .int .u8 0, .int .u8 0, .int .u8 0, .int .u8 0, .int .u8 0, .int .u8 0, .int .u8 0, .int .u8 0, .int .u8 0, .int .u8 0, .int .i64 0, .int .i64 0, .string ⟨#[]⟩, .slice none 0 0], .string ⟨#[]⟩, .int .i64 0] 8 rfl (World.shaped_of_RefB (by kernel_rfl) (by kernel_rfl)) (by kernel_rfl) (by kernel_rfl) (by kernel_rfl) (door_met os _)) ?_
  intro W base args ds gs before hval0 hW _ _ hL _
  have hval : ∀ (j : Nat) t v, Tryd.f3.params[j]? = some t → args[j]? = some v → Value.okWide Tryd.prog W .any base t v := hval0
  have hW' := hW
  obtain ⟨p, q, hA0, hV, rfl, _, _⟩ := hW
  have hA : DataW.TrodAll enc Tryd.prog W 0 (fun _ => true) true Tryd.f3.params.toList args.toList ds p := hA0
  rw [Tryd.params3] at hA hval
  obtain ⟨v0, vs0, d0, ds0, p0, q0, hargs, rfl, rfl, h0, r0⟩ := trodAll_cons hA
  obtain ⟨v1, vs1, d1, ds1, p1, q1, rfl, rfl, rfl, h1, r1⟩ := trodAll_cons r0
  obtain ⟨v2, vs2, d2, ds2, p2, q2, rfl, rfl, rfl, h2, r2⟩ := trodAll_cons r1
  obtain ⟨v3, vs3, d3, ds3, p3, q3, rfl, rfl, rfl, h3, r3⟩ := trodAll_cons r2
  obtain ⟨rfl, rfl, rfl⟩ := trodAll_nil r3
  obtain rfl : args = #[v0, v1, v2, v3] := by cases args; simp_all
  obtain ⟨rfl, rfl⟩ := trodVars_none hV
  have hlaid := of_laid hL
  obtain ⟨a3, rfl, rfl, rfl, w3⟩ := open_int Tryd.underlying3 (hval 3 3 v3 rfl rfl) h3
  clear hA0
  simp only [List.append_nil] at hW'
  have hlt0 : ∀ x ∈ p0, x.block < W.heap.size := fun x hx => hW'.lt x (by simp [hx])
  have hk0 := h0
  obtain ⟨x0, rfl, hr0⟩ := open_rec (hval 0 27 v0 rfl rfl) h0 hlt0
  have hlt1 : ∀ x ∈ p1, x.block < W.heap.size := fun x hx => hW'.lt x (by simp [hx])
  have hk1 := h1
  obtain ⟨x1, rfl, hr1⟩ := open_rec (hval 1 27 v1 rfl rfl) h1 hlt1
  have hlt2 : ∀ x ∈ p2, x.block < W.heap.size := fun x hx => hW'.lt x (by simp [hx])
  have hk2 := h2
  obtain ⟨x2, rfl, hr2⟩ := open_str (hval 2 9 v2 rfl rfl) h2
  clear hval0
  refine (walk x0 x1 x2 a3 w3 W hlaid hr0 hr1 hr2).mono fun e W' ⟨he, hb⟩ => ?_
  subst he
  exact ⟨_, rfl, _, _, _, [] ++ [], _, [], hW', trodAll_cons_mk (shut_bool Tryd.underlying4 _) trodAll_mk0, (trodAll_cons_mk (Below.trod Tryd.laidOut (by kernel_rfl) (of_decide_eq_true (by kernel_rfl)) hk0 hb hlt0) (trodAll_cons_mk (Below.trod Tryd.laidOut (by kernel_rfl) (of_decide_eq_true (by kernel_rfl)) hk1 hb hlt1) (trodAll_cons_mk (Below.trod Tryd.laidOut (by kernel_rfl) (of_decide_eq_true (by kernel_rfl)) hk2 hb hlt2) (trodAll_cons_mk (shut_int Tryd.underlying3 w3) trodAll_mk0)))), rfl, hb.frame _, fun h => by cases h⟩

theorem over : Rows.recordFormsRow.holds Tryd.pinned (OpenSpec.ofChange Rows.recordFormsSpec) :=
  OpenClaim.holds_of_wide 3 Tryd.f3 rfl rfl rfl rfl rfl rfl rfl ⟨rfl, rfl, rfl, rfl, rfl⟩ rfl rfl rfl rfl rfl (by kernel_rfl) Tryd.func3 (by kernel_rfl)
    (of_decide_eq_true (by kernel_rfl)) (by unfold Func.isWrapper; first | (rw [if_pos (by decide +kernel)]; kernel_rfl) | (rw [if_neg (by decide +kernel)]; exact ⟨rfl, rfl⟩))
    (fun os started H enc _ => lifted os started H enc)

theorem card : Rows.RecordFormsCardSaid :=
  Claim7.holds_tied_plain_at .later [] [.data, .data] true (true, "875b16e5fcb2ccc823f28e185639766048f68080d49968449cd66f96e9b9ab4d") true
    over (fun _ h => by cases h) (by kernel_rfl) (fun _ h => by cases h) recordForms_row_tie rfl ⟨rfl, rfl⟩ (by kernel_rfl) rfl
    (fun f fn hf hfn => by
      obtain rfl : f = 3 := Option.some.inj ((show Tryd.prog.funcNamed "saltern/salternlaw13.RecordForms" = some 3 by kernel_rfl).symm.trans hf) |>.symm
      obtain rfl : fn = Tryd.f3 := (Option.some.inj (Tryd.func3.symm.trans hfn)).symm
      exact ⟨by kernel_rfl, fun j t ht => by
        rw [Tryd.params3] at ht
        have hm : t ∈ [27, 27, 9, 3] := by simpa using Array.mem_of_getElem? ht
        have hall : ([27, 27, 9, 3].all fun u => !Tryd.prog.wantsStandIn u) = true := by kernel_rfl
        exact (show Tryd.prog.wantsStandIn t = false by simpa using List.all_eq_true.1 hall t hm)⟩)
    (by kernel_rfl)

end Go.Proofs.YtpbaacplgohniaaDoor.recordForms
namespace Go.Proofs.YtpbaacplgohniaaDoor
theorem recordForms_holds : Rows.RecordFormsCardSaid := recordForms.card
#print axioms recordForms_holds
end Go.Proofs.YtpbaacplgohniaaDoor
