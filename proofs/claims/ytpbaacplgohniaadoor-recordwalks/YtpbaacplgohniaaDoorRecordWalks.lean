/-
  RecordWalks is proved for every input, as a tied card: which records follow a head, one behind the other, the head behind them, and the record that is made to follow; no condition but that the tables of package sha start as the text lays them.
-/
import Derived.Test.YtpbaacplgohniaaDoorRcQ
import Derived.Test.YtpbaacplgohniaaDoorRcOa
import Derived.Test.YtpbaacplgohniaaDoorRcRa
import Derived.Test.YtpbaacplgohniaaDoorRcRb
import Derived.Test.YtpbaacplgohniaaDoorRcZ
namespace Go.Proofs.YtpbaacplgohniaaDoor.recordWalks
open Go.ChangeShapes Go.WideShapes Go.ChangeAt Go.RowKit Go.Deep

theorem few_ps (l : List Rec) : ∀ r ∈ fewL l, r.ps.length ≤ 1000 := fun r hr => by
  obtain ⟨y, _, rfl⟩ := List.mem_map.1 hr
  show (y.ps.take 60).length ≤ 1000
  simp
  omega
theorem cut_ps (r : Rec) : (cutR r).ps.length ≤ 1000 := by
  show (r.ps.take 60).length ≤ 1000
  simp
  omega
theorem same_self (r : Rec) (a : Option Addr) (c : Nat) : sameB { r with a := a, cap := c } r = true := decide_eq_true ⟨rfl, rfl, rfl, rfl, rfl, rfl, rfl⟩
theorem dmake_word (hs he : Int) (hc : List Int) (r : Rec) (w : World) (hcl : hc.length = 32) (hc8 : ∀ j, (Lit.int .u8 (hc.getD j 0)).wf = true) (hw : (Lit.int .i64 hs).wf = true) (hhe : (Lit.int .i64 he).wf = true) (h : Rv w r) (hn : r.ps.length ≤ 1000) :
    Calls Tryd.prog 31 #[.agg (hdL hs he hc).toArray, .agg r.cs.toArray] w fun e w' => ∃ v e', e = .returned (.tuple #[v, .int .i64 e']) ∧ Below w.heap.size w w' ∧ MkQ hs he hc r v e' := by
  by_cases q : hs < 0 ∨ 1073741824 ≤ hs
  · exact dmake_out hs he hc r w hcl h hw q
  · by_cases hk : r.kind = 1
    · exact dmake_lead hs he hc r w hcl hc8 h hn (by omega) (by omega) hk
    · exact dmake_other hs he hc r w hcl hc8 hhe h hn (by omega) (by omega) hk
/-- What stays while RecordWalks goes on. -/
structure Wk (w X : World) (h0 : Hd) (R : Rec) (a : Option Addr) (c : Nat) (ll : List Rec) : Prop where
  hd : X.heap[w.heap.size]? = some (.cells (hdV h0).toArray 55)
  box : Bx X (w.heap.size + 1) R
  row : Rr X a c ll
  rv : Rv X R
  bel : Below w.heap.size w X
theorem blk_later {X Y : World} {g : Nat} {o : Obj} (h : X.heap[g]? = some o) (hb : Below X.heap.size X Y) : Y.heap[g]? = some o := (hb.block _ (Array.getElem?_eq_some_iff.1 h).1).trans h
theorem Wk.later {w X Y : World} {h0 : Hd} {R : Rec} {a : Option Addr} {c : Nat} {ll : List Rec} (h : Wk w X h0 R a c ll) (hb : Below X.heap.size X Y) : Wk w Y h0 R a c ll :=
  ⟨blk_later h.hd hb, h.box.later hb, h.row.later hb, h.rv.later hb, Bn h.bel hb⟩
theorem range_hd {X : World} {g : Nat} {A : Hd} (h : X.heap[g]? = some (.cells (hdV A).toArray 55)) : X.rangeAt g 0 (hdV A) := fun j v hv => by
  rw [Nat.zero_add, Joins.cell_of_block h j, List.getElem?_toArray]
  exact hv
theorem range_rc {X : World} {g : Nat} {A : Rec} (h : X.heap[g]? = some (.cells A.cs.toArray 27)) : X.rangeAt g 0 A.cs := fun j v hv => by
  rw [Nat.zero_add, Joins.cell_of_block h j, List.getElem?_toArray]
  exact hv
/-- The two records that are made are alike. -/
theorem both_made {w' : World} {hs he : Int} {hc : List Int} {r : Rec} {v v2 : Value} {e e2 : Int} (h1 : MkP w' hs he hc r v e) (h2 : MkQ hs he hc r v2 e2) (hrv : Rv w' (mkR hs he hc r)) : e = e2 ∧ ∃ x y : Rec, v = .agg x.cs.toArray ∧ v2 = .agg y.cs.toArray ∧ Rv w' x ∧ Rv w' y ∧ sameB x y = true := by
  obtain ⟨p1, p2⟩ := h1
  obtain ⟨q1, q2⟩ := h2
  have he' : e = e2 := p1.trans q1.symm
  refine ⟨he', ?_⟩
  rcases p2 with ⟨n1, rfl⟩ | ⟨z1, a', c', rfl, hp⟩
  · rcases q2 with ⟨n2, rfl⟩ | ⟨z2, rfl⟩
    · exact ⟨recZ, recZ, rfl, rfl, recZ_rv _, recZ_rv _, by decide +kernel⟩
    · exact absurd (he'.trans z2) n1
  · rcases q2 with ⟨n2, rfl⟩ | ⟨z2, rfl⟩
    · exact absurd (he'.symm.trans z1) n2
    · exact ⟨_, _, rfl, rfl, ⟨hrv.len, hrv.u8, hrv.seq, hrv.epoch, hrv.kind, hrv.site, hrv.path, hp⟩, hrv, same_self _ _ _⟩
set_option maxHeartbeats 16000000 in
set_option maxRecDepth 100000 in
theorem walk (h0 : Hd) (a1 : Option Addr) (c1 : Nat) (l : List Rec) (r : Rec) (w : World) (hL : Sh.Laid w) (hy : h0.2.2.length = 32 ∧ (∀ j, (Lit.int .u8 (h0.2.2.getD j 0)).wf = true) ∧ (Lit.int .i64 h0.1).wf = true ∧ (Lit.int .i64 h0.2.1).wf = true) (hr : Rr w a1 c1 l) (hv : Rv w r) :
    Calls Tryd.prog 5 #[.agg (hdV h0).toArray, .slice a1 l.length c1, .agg r.cs.toArray] w fun e w' => e = .returned (.bool true) ∧ Below w.heap.size w w' := by
  have b1 := bel_alc w (.cells (hdV h0).toArray 55)
  have b2 := bel_alc (w.alloc (.cells (hdV h0).toArray 55)) (.cells r.cs.toArray 27)
  have s1 : (w.alloc (.cells (hdV h0).toArray 55)).heap.size = w.heap.size + 1 := by simp
  obtain ⟨W0, hW0⟩ : ∃ W0, W0 = (w.alloc (.cells (hdV h0).toArray 55)).alloc (.cells r.cs.toArray 27) := ⟨_, rfl⟩
  have HE0 : Hid (W0.heap[w.heap.size]? = some (.cells (hdV h0).toArray 55)) := by show _ = _; rw [hW0]; exact (b2.block _ (by rw [s1]; omega)).trans (heap_alc w _)
  have HX0 : Hid (Bx W0 (w.heap.size + 1) r) := by
    have := Bx.mk' (w.alloc (.cells (hdV h0).toArray 55)) r hv.len
    rw [s1, ← hW0] at this
    exact this
  have HB0 : Hid (Below w.heap.size w W0) := by rw [hW0]; exact Bn b1 b2
  have HR := hid hr
  have HV := hid hv
  have HY := hid hy
  have HLA := hid hL
  clear b1 b2 hr hv hy hL
  go_enter Tryd.func5, Tryd.ntmps5
  go_wp2_with fail
  rw [← hW0]
  clear hW0 s1
  refine OrdE.region (fun V => Below W0.heap.size W0 V) 5 (by kernel_rfl) (Below.refl _ _).drew (fun hS0 => ?_)
  generalize W0.drew = v0 at *
  simp only [List.size_toArray, List.length_cons, List.length_nil, Nat.reduceAdd]
  refine OrdE.take (i := 0) (d := 21) (v := ?v0) rfl rfl rfl (by as_aux_lemma => kernel_rfl) (by as_aux_lemma => kernel_rfl) (by as_aux_lemma => kernel_rfl) (by as_aux_lemma => kernel_rfl) (fun _ _ _ h => h) (by rfl) ?hA0 (by assumption) ?_
  case hA0 => intro V hSw; go_simp; try with_reducible rfl
  try simp only [List.setIfInBounds_toArray, List.set_cons_zero, List.set_cons_succ]
  refine OrdE.take (i := 2) (d := 23) (v := .agg r.cs.toArray) rfl rfl rfl (by as_aux_lemma => kernel_rfl) (by as_aux_lemma => kernel_rfl) (by as_aux_lemma => kernel_rfl) (by as_aux_lemma => kernel_rfl) (fun _ _ _ h => h) (by rfl) ?hA2 (by assumption) ?_
  case hA2 => intro V hSw; exact exec_load 27 (.tmp 5) rfl (w.heap.size + 1) 0 rfl (HX0.out.later hSw).load
  try simp only [List.setIfInBounds_toArray, List.set_cons_zero, List.set_cons_succ]
  refine OrdE.one (i := 1) (by as_aux_lemma => kernel_rfl) rfl (fun K hK => ?_)
  go_simp
  refine (few_own a1 c1 l v0 (HR.out.later (Bn HB0.out hS0))).mono ?_
  rintro _ v1 ⟨b1, d1, rfl, hr1, hg1, hb1⟩
  have hS1 := Bn hS0 hb1
  refine hK.out _ _ (fun _ => hS1) ?_
  clear hK K
  try refine OrdE.put (d := 22) rfl ?_
  try simp only [List.setIfInBounds_toArray, List.set_cons_zero, List.set_cons_succ]
  refine OrdE.one (i := 3) (by as_aux_lemma => kernel_rfl) rfl (fun K hK => ?_)
  go_simp
  refine (cut_word r v1 (HV.out.later (Bn HB0.out hS1))).mono ?_
  rintro _ v2 ⟨rfl, hb2⟩
  have hS2 := Bn hS1 hb2
  refine hK.out _ _ (fun _ => hS2) ?_
  clear hK K
  try refine OrdE.put (d := 24) rfl ?_
  try simp only [List.setIfInBounds_toArray, List.set_cons_zero, List.set_cons_succ]
  refine OrdE.take (i := 4) (d := 1) (v := .slice b1 (fewL l).length d1) rfl rfl rfl (by as_aux_lemma => kernel_rfl) (by as_aux_lemma => kernel_rfl) (by as_aux_lemma => kernel_rfl) (by as_aux_lemma => kernel_rfl) (fun _ _ _ h => h) (by rfl) ?hA4 (by assumption) ?_
  case hA4 => intro V hSw; go_simp; try with_reducible rfl
  try simp only [List.setIfInBounds_toArray, List.set_cons_zero, List.set_cons_succ]
  refine OrdE.one (i := 5) (by as_aux_lemma => kernel_rfl) rfl (fun K hK => ?_)
  rw [if_pos (by rfl)]
  refine wp_store_row 27 _ _ rfl (w.heap.size + 1) (cutR r).cs.toArray rfl rfl 27 r.cs.toArray (HX0.out.later hS2).blk (size_recs HV.out.len) (by rw [Rec.cs_size HV.out.len, Rec.cs_size (show (cutR r).prev.length = 32 from HV.out.len)]) (all_oneCell_toArray (Rec.cs_one _)) ?_
  refine hK.out _ _ (fun h => absurd rfl h) ?_
  clear hK K
  try simp only [List.setIfInBounds_toArray, List.set_cons_zero, List.set_cons_succ]
  refine OrdE.done (by as_aux_lemma => kernel_rfl) ?_ _
  have HBF := hid (below_setRow (Bn HB0.out hS2) (show w.heap.size ≤ w.heap.size + 1 by omega) (cutR r).cs.toArray)
  have HXc : Hid (Bx (v2.setRow (w.heap.size + 1) (cutR r).cs.toArray) (w.heap.size + 1) (cutR r)) := ⟨setRow_heap _ _ _ _ _ _ (HX0.out.later hS2).blk, HV.out.len⟩
  have HEc : Hid ((v2.setRow (w.heap.size + 1) (cutR r).cs.toArray).heap[w.heap.size]? = some (.cells (hdV h0).toArray 55)) := (other_setRow _ _ _ _ (by omega)).trans ((hS2.block _ (Array.getElem?_eq_some_iff.1 HE0.out).1).trans HE0.out)
  have HRc : Hid (Rr (v2.setRow (w.heap.size + 1) (cutR r).cs.toArray) b1 d1 (fewL l)) := (hr1.later hb2).kept (fun b off e => other_setRow _ _ _ _ (by
      have q1 := hg1 b off e
      have q2 := hS0.size
      have q3 := HX0.out.lt
      omega)) (fun y q => by
      obtain ⟨z, hz, rfl⟩ := List.mem_map.1 q
      exact cut_rv ((HR.out.fits z (List.mem_of_mem_take hz)).later HBF.out))
  have HVc := hid (cut_rv (HV.out.later HBF.out))
  have HPc := hid (cut_ps r)
  have HPl := hid (few_ps l)
  generalize cutR r = R at *
  generalize fewL l = ll at *
  generalize hX : v2.setRow (w.heap.size + 1) R.cs.toArray = X at *
  clear hX hr1 hg1 hb1 hb2 hS0 hS1 hS2 HX0 HE0 HB0 HR HV
  have K0 : Hid (Wk w X h0 R b1 d1 ll) := ⟨HEc.out, HXc.out, HRc.out, HVc.out, HBF.out⟩
  have HHV : Hid ((hdV h0).length = 34) := hdL_len _ _ _ HY.out.1
  have HRL := hid HVc.out.len
  have HWK := hid (walk_word h0 b1 d1 ll X HY.out.1 HRc.out (HLA.out.later HBF.out) HPl.out)
  have HDW := hid (fun V hV => dwalk_word h0 b1 d1 ll V HY.out.1 hV HPl.out)
  have HNX := hid (fun V hV hL => next_word h0.1 h0.2.1 h0.2.2 R V HY.out.1 hV hL HPc.out)
  have HDN := hid (fun V hV => dnext_word h0.1 h0.2.1 h0.2.2 R V HY.out.1 hV HPc.out)
  have HMK := hid (fun V hV => make_word h0.1 h0.2.1 h0.2.2 R V HY.out.1 HY.out.2.1 HY.out.2.2.2 hV)
  have HDM := hid (fun V hV => dmake_word h0.1 h0.2.1 h0.2.2 R V HY.out.1 HY.out.2.1 HY.out.2.2.1 HY.out.2.2.2 hV HPc.out)
  have hAl := wlk_len ll h0 0 HY.out.1
  have hNl := nxO_len h0.1 h0.2.1 h0.2.2 R
  have HMV : Hid (∀ V, Rv V R → Rv V (mkR h0.1 h0.2.1 h0.2.2 R)) := fun V q => ⟨HY.out.1, HY.out.2.1, wrap_wf _, by
    show (Lit.int .i64 (if R.kind = 1 then R.epoch else h0.2.1)).wf = true
    split
    · exact q.epoch
    · exact HY.out.2.2.2, q.kind, q.site, q.path, q.row⟩
  generalize wlk h0 ll 0 = RL at *
  generalize nxO h0.1 h0.2.1 h0.2.2 R = N at *
  generalize fltO h0.1 h0.2.1 h0.2.2 R = F at *
  obtain ⟨A, n1, e1⟩ := RL
  have HAL : Hid (A.2.2.length = 32) := hAl
  have HNL : Hid (N.2.2.length = 32) := hNl
  have hgd := guard55
  have HSA : Hid ((Tryd.prog.info? 55).map (·.size) = some (hdV A).toArray.size) := size_hd HAL.out
  have HAV : Hid ((hdV A).length = 34) := hdL_len _ _ _ HAL.out
  have HZA : Hid ((hdL 0 0 z32).toArray.size = (hdV A).toArray.size) := by show _ = _; rw [List.size_toArray, List.size_toArray, HAV.out]; rfl
  have HOA := hid (all_oneCell_toArray (show ∀ u ∈ hdV A, u.oneCell' = true from hdL_one _ _ _))
  have heqA : ∀ V, (Op.equalIn 10000 55 (.agg (hdV A).toArray) (.agg (hdV A).toArray)).run Tryd.prog V = .ok true V := fun V => by rw [eq55 A A HAL.out HAL.out V]; simp
  have HSN : Hid ((Tryd.prog.info? 55).map (·.size) = some (hdV N).toArray.size) := size_hd HNL.out
  have HNV : Hid ((hdV N).length = 34) := hdL_len _ _ _ HNL.out
  have HZN : Hid ((hdL 0 0 z32).toArray.size = (hdV N).toArray.size) := by show _ = _; rw [List.size_toArray, List.size_toArray, HNV.out]; rfl
  have HON := hid (all_oneCell_toArray (show ∀ u ∈ hdV N, u.oneCell' = true from hdL_one _ _ _))
  have heqN : ∀ V, (Op.equalIn 10000 55 (.agg (hdV N).toArray) (.agg (hdV N).toArray)).run Tryd.prog V = .ok true V := fun V => by rw [eq55 N N HNL.out HNL.out V]; simp
  clear HEc HXc HRc HVc HBF hAl hNl
  go_wp2_with (first | refine wpList_load_g rfl 55 _ rfl w.heap.size 0 rfl (hdV h0) _ (range_hd K0.out.hd) Tryd.underlying55 rfl (by rw [HHV.out]; exact Tryd.size55) ?_ | fail)
  refine HWK.out.mono ?_
  rintro _ Y1 ⟨rfl, hc1⟩
  have hbb := bel_alc Y1 (.cells (hdV A).toArray 55)
  have K1 := hid (K0.out.later (Bn hc1 hbb))
  have E1 := hid (heap_alc Y1 (.cells (hdV A).toArray 55))
  obtain ⟨X1, hX1⟩ : ∃ X, X = Y1.alloc (.cells (hdV A).toArray 55) := ⟨_, rfl⟩
  have HX1 := hid hX1
  rw [← hX1] at K1 E1
  clear hc1 hbb hX1
  go_wp2_with (first | refine wpList_alloc_at rfl 55 rfl (some 7) rfl _ Tryd.zero55 Y1.heap.size rfl ?_ | refine wpList_store_as rfl 55 _ _ rfl rfl Y1 (hdL 0 0 z32).toArray (hdV A).toArray rfl rfl rfl HSA.out HZA.out HOA.out X1 HX1.out ?_ | refine wpList_load_g rfl 55 _ rfl w.heap.size 0 rfl (hdV h0) _ (range_hd K1.out.hd) Tryd.underlying55 rfl (by rw [HHV.out]; exact Tryd.size55) ?_ | fail)
  refine (HDW.out X1 K1.out.row).mono ?_
  rintro _ Y2 ⟨rfl, hc2⟩
  have hbb := bel_alc Y2 (.cells (hdV A).toArray 55)
  have K2 := hid (K1.out.later (Bn hc2 hbb))
  have E2 := hid (heap_alc Y2 (.cells (hdV A).toArray 55))
  have E1_2 := hid (blk_later E1.out (Bn hc2 hbb))
  obtain ⟨X2, hX2⟩ : ∃ X, X = Y2.alloc (.cells (hdV A).toArray 55) := ⟨_, rfl⟩
  have HX2 := hid hX2
  rw [← hX2] at K2 E2 E1_2
  clear hc2 hbb hX2
  go_wp2_with (first | refine wpList_alloc_at rfl 55 rfl (some 10) rfl _ Tryd.zero55 Y2.heap.size rfl ?_ | refine wpList_store_as rfl 55 _ _ rfl rfl Y2 (hdL 0 0 z32).toArray (hdV A).toArray rfl rfl rfl HSA.out HZA.out HOA.out X2 HX2.out ?_ | refine wpList_load_g rfl 55 _ rfl Y1.heap.size 0 rfl (hdV A) _ (range_hd E1_2.out) Tryd.underlying55 rfl (by rw [HAV.out]; exact Tryd.size55) ?_ | refine wpList_load_g rfl 55 _ rfl Y2.heap.size 0 rfl (hdV A) _ (range_hd E2.out) Tryd.underlying55 rfl (by rw [HAV.out]; exact Tryd.size55) ?_ | refine wpList_load_g rfl 55 _ rfl w.heap.size 0 rfl (hdV h0) _ (range_hd K2.out.hd) Tryd.underlying55 rfl (by rw [HHV.out]; exact Tryd.size55) ?_ | refine wpList_load_g rfl 27 _ rfl (w.heap.size + 1) 0 rfl R.cs _ K2.out.box.range Tryd.underlying27 rfl (by rw [Rec.cs_len HRL.out]; exact Tryd.size27) ?_ | fail)
  refine (HNX.out X2 K2.out.rv (HLA.out.later K2.out.bel)).mono ?_
  rintro _ Y3 ⟨rfl, hc3⟩
  rw [show hdL N.1 N.2.1 N.2.2 = hdV N from rfl]
  have hbb := bel_alc Y3 (.cells (hdV N).toArray 55)
  have K3 := hid (K2.out.later (Bn hc3 hbb))
  have E3 := hid (heap_alc Y3 (.cells (hdV N).toArray 55))
  obtain ⟨X3, hX3⟩ : ∃ X, X = Y3.alloc (.cells (hdV N).toArray 55) := ⟨_, rfl⟩
  have HX3 := hid hX3
  rw [← hX3] at K3 E3
  clear hc3 hbb hX3
  go_wp2_with (first | refine wpList_alloc_at rfl 55 rfl (some 13) rfl _ Tryd.zero55 Y3.heap.size rfl ?_ | refine wpList_store_as rfl 55 _ _ rfl rfl Y3 (hdL 0 0 z32).toArray (hdV N).toArray rfl rfl rfl HSN.out HZN.out HON.out X3 HX3.out ?_ | refine wpList_load_g rfl 55 _ rfl w.heap.size 0 rfl (hdV h0) _ (range_hd K3.out.hd) Tryd.underlying55 rfl (by rw [HHV.out]; exact Tryd.size55) ?_ | refine wpList_load_g rfl 27 _ rfl (w.heap.size + 1) 0 rfl R.cs _ K3.out.box.range Tryd.underlying27 rfl (by rw [Rec.cs_len HRL.out]; exact Tryd.size27) ?_ | fail)
  refine (HDN.out X3 K3.out.rv).mono ?_
  rintro _ Y4 ⟨rfl, hc4⟩
  rw [show hdL N.1 N.2.1 N.2.2 = hdV N from rfl]
  have hbb := bel_alc Y4 (.cells (hdV N).toArray 55)
  have K4 := hid (K3.out.later (Bn hc4 hbb))
  have E4 := hid (heap_alc Y4 (.cells (hdV N).toArray 55))
  have E3_4 := hid (blk_later E3.out (Bn hc4 hbb))
  obtain ⟨X4, hX4⟩ : ∃ X, X = Y4.alloc (.cells (hdV N).toArray 55) := ⟨_, rfl⟩
  have HX4 := hid hX4
  rw [← hX4] at K4 E4 E3_4
  clear hc4 hbb hX4
  go_wp2_with (first | refine wpList_alloc_at rfl 55 rfl (some 15) rfl _ Tryd.zero55 Y4.heap.size rfl ?_ | refine wpList_store_as rfl 55 _ _ rfl rfl Y4 (hdL 0 0 z32).toArray (hdV N).toArray rfl rfl rfl HSN.out HZN.out HON.out X4 HX4.out ?_ | refine wpList_load_g rfl 55 _ rfl w.heap.size 0 rfl (hdV h0) _ (range_hd K4.out.hd) Tryd.underlying55 rfl (by rw [HHV.out]; exact Tryd.size55) ?_ | refine wpList_load_g rfl 27 _ rfl (w.heap.size + 1) 0 rfl R.cs _ K4.out.box.range Tryd.underlying27 rfl (by rw [Rec.cs_len HRL.out]; exact Tryd.size27) ?_ | fail)
  refine (HMK.out X4 K4.out.rv).mono ?_
  rintro _ Y5 ⟨vm, em, rfl, hc5, hp5⟩
  have hvx : ∃ x : Rec, vm = .agg x.cs.toArray ∧ x.prev.length = 32 := by
    rcases hp5.2 with ⟨_, q⟩ | ⟨_, a', c', q, _⟩
    · exact ⟨recZ, q, rfl⟩
    · exact ⟨_, q, HY.out.1⟩
  obtain ⟨x, rfl, hxl⟩ := hvx
  have HLx := hid hxl
  have HP5 := hid hp5
  have HC5 := hid hc5
  have hbb := bel_alc Y5 (.cells x.cs.toArray 27)
  have K5 := hid (K4.out.later (Bn hc5 hbb))
  have E5 := hid (heap_alc Y5 (.cells x.cs.toArray 27))
  have E3_5 := hid (blk_later E3_4.out (Bn hc5 hbb))
  have E4_5 := hid (blk_later E4.out (Bn hc5 hbb))
  obtain ⟨X5, hX5⟩ : ∃ X, X = Y5.alloc (.cells x.cs.toArray 27) := ⟨_, rfl⟩
  have HX5 := hid hX5
  rw [← hX5] at K5 E5 E3_5 E4_5
  clear hc5 hbb hX5
  clear hxl hp5
  go_wp2_with (first | refine wpList_alloc_at rfl 27 rfl (some 17) rfl _ Tryd.zero27 Y5.heap.size rfl ?_ | refine wpList_store_as rfl 27 _ _ rfl rfl Y5 recZ.cs.toArray x.cs.toArray rfl rfl rfl (size_recs HLx.out) (by rw [Rec.cs_size HLx.out]; rfl) (all_oneCell_toArray (Rec.cs_one _)) X5 HX5.out ?_ | refine wpList_load_g rfl 55 _ rfl w.heap.size 0 rfl (hdV h0) _ (range_hd K5.out.hd) Tryd.underlying55 rfl (by rw [HHV.out]; exact Tryd.size55) ?_ | refine wpList_load_g rfl 27 _ rfl (w.heap.size + 1) 0 rfl R.cs _ K5.out.box.range Tryd.underlying27 rfl (by rw [Rec.cs_len HRL.out]; exact Tryd.size27) ?_ | fail)
  refine (HDM.out X5 K5.out.rv).mono ?_
  rintro _ Y6 ⟨vd, ed, rfl, hc6, hp6⟩
  have hb56 : Below Y5.heap.size Y5 Y6 := Bn (by rw [HX5.out]; exact bel_alc _ _) hc6
  have hbm := both_made (w' := Y6) ⟨HP5.out.1, by
    rcases HP5.out.2 with q | ⟨q1, a', c', q2, q3⟩
    · exact .inl q
    · exact .inr ⟨q1, a', c', q2, q3.later hb56⟩⟩ hp6 (HMV.out Y6 (K5.out.rv.later hc6))
  obtain ⟨rfl, x', y, hx', rfl, hvx, hvy, hsm⟩ := hbm
  have HVX := hid hvx
  have HVY := hid hvy
  have HSM := hid hsm
  have HXE := hid hx'
  have HLy := hid hvy.len
  have hcc := hid hc6
  have hbb := bel_alc Y6 (.cells y.cs.toArray 27)
  have K6 := hid (K5.out.later (Bn hc6 hbb))
  have E6 := hid (heap_alc Y6 (.cells y.cs.toArray 27))
  have E3_6 := hid (blk_later E3_5.out (Bn hc6 hbb))
  have E4_6 := hid (blk_later E4_5.out (Bn hc6 hbb))
  have E5_6 := hid (blk_later E5.out (Bn hc6 hbb))
  obtain ⟨X6, hX6⟩ : ∃ X, X = Y6.alloc (.cells y.cs.toArray 27) := ⟨_, rfl⟩
  have HX6 := hid hX6
  rw [← hX6] at K6 E6 E3_6 E4_6 E5_6
  clear hc6 hbb hX6
  have HB6 : Hid (Below Y6.heap.size Y6 X6) := by rw [HX6.out]; exact bel_alc _ _
  have HSW := hid (dsame_word x' y X6 (HVX.out.later HB6.out) (HVY.out.later HB6.out))
  rw [HSM.out] at HSW
  have hxx : x'.cs.toArray = x.cs.toArray := by have := HXE.out; injection this with this; exact this.symm
  rw [hxx] at HSW
  clear hvx hvy hsm hx' hp6 hb56 hxx
  go_wp2_with (first | refine wpList_alloc_at rfl 27 rfl (some 19) rfl _ Tryd.zero27 Y6.heap.size rfl ?_ | refine wpList_store_as rfl 27 _ _ rfl rfl Y6 recZ.cs.toArray y.cs.toArray rfl rfl rfl (size_recs HLy.out) (by rw [Rec.cs_size HLy.out]; rfl) (all_oneCell_toArray (Rec.cs_one _)) X6 HX6.out ?_ | refine wpList_load_g rfl 55 _ rfl Y3.heap.size 0 rfl (hdV N) _ (range_hd E3_6.out) Tryd.underlying55 rfl (by rw [HNV.out]; exact Tryd.size55) ?_ | refine wpList_load_g rfl 55 _ rfl Y4.heap.size 0 rfl (hdV N) _ (range_hd E4_6.out) Tryd.underlying55 rfl (by rw [HNV.out]; exact Tryd.size55) ?_ | refine wpList_load_g rfl 27 _ rfl Y5.heap.size 0 rfl x.cs _ (range_rc E5_6.out) Tryd.underlying27 rfl (by rw [Rec.cs_len HLx.out]; exact Tryd.size27) ?_ | refine wpList_load_g rfl 27 _ rfl Y6.heap.size 0 rfl y.cs _ (range_rc E6.out) Tryd.underlying27 rfl (by rw [Rec.cs_len HLy.out]; exact Tryd.size27) ?_ | fail)
  refine HSW.out.mono ?_
  rintro _ Z7 ⟨rfl, hc7⟩
  have HZ7 := hid (Bn K6.out.bel hc7)
  have HAV7 := hid (alive_word Z7)
  clear hc7 HSW
  go_wp2_with fail
  refine HAV7.out.mono ?_
  rintro _ Z8 ⟨rfl, hc8⟩
  have HZ8 := hid (Bn HZ7.out hc8)
  clear hc8 HAV7
  go_wp2
  go_ret
  exact ⟨rfl, HZ8.out⟩

set_option maxRecDepth 100000 in
theorem lifted (os : Os) (started : os.Started) (H : Type) (enc : TypeId × Value → H) :
    ReturnsInHanded {} Tryd.checked os 5 .any (fun w args => (Rows.recordWalksSpec.pre enc Tryd.prog Tryd.f5 [] false w args ∧ laidMetH Tryd.prog laidL w) ∧ sizedMet enc Tryd.prog Tryd.f5 (OpenSpec.ofChange Rows.recordWalksSpec) false w args)
      (Rows.recordWalksSpec.post enc Tryd.prog Tryd.f5 false true false false) := by
  refine returnsInHanded_of_change_and (C := Tryd.checked) (X := fun w _ => laidMetH Tryd.prog laidL w) (fun _ _ _ hh h => h.of_heap hh) own started (by kernel_rfl) Tryd.func5
    (ChangeSpec.witness_shaped (enc := enc) (C := Tryd.checked) (os := os) (X := fun w _ => laidMetH Tryd.prog laidL w) false (World.doorLaid Tryd.prog 400 os) #[.agg #[.int .i64 0, .int .i64 0, .int .u8 0, .int .u8 0, .int .u8 0, .int .u8 0, .int .u8 0, .int .u8 0, .int .u8 0, .int .u8 0, .int .u8 0, .int .u8 0, .int .u8 0, .int .u8 0, .int .u8 0, .int .u8 0, .int .u8 0, .int .u8 0, .int .u8 0, .int .u8 0, .int .u8 0, .int .u8 0, .int .u8 0, .int .u8 0, .int .u8 0, .int .u8 0, .int .u8 0, .int .u8 0, .int .u8 0, .int .u8 0, .int .u8 0, .int .u8 0, .int .u8 0, .int .u8 0], .slice none 0 0, .agg #[.int .i64 0, .int .i64 0, .int .u8 0, .int .u8 0, .int .u8 0, .int .u8 0, .int .u8 0, .int .u8 0, .int .u8 0, .int .u8 0, .int .u8 0, .int .u8 0, .int .u8 0, .int .u8 0, .int .u8 0, .int .u8 0, .int .u8 0, .int .u8 0, .int .u8 0, .int .u8 0, .int .u8 0, .int .u8 0, .int .u8 0, .int .u8 0, .int .u8 0, .int .u8 0, .int .u8 0, .int .u8 0, .int .u8 0, .int .u8 0, .int .u8 0, .int .u8 0, .int .u8 0, .int .u8 0, .int .i64 0, .int .i64 0, .string ⟨#[]⟩, .slice none 0 0]] 8 rfl (World.shaped_of_RefB (by kernel_rfl) (by kernel_rfl)) (by kernel_rfl) (by kernel_rfl) (by kernel_rfl) (door_met os _)) ?_
  intro W base args ds gs before hval0 hW _ _ hL _
  have hval : ∀ (j : Nat) t v, Tryd.f5.params[j]? = some t → args[j]? = some v → Value.okWide Tryd.prog W .any base t v := hval0
  have hW' := hW
  obtain ⟨p, q, hA0, hV, rfl, _, _⟩ := hW
  have hA : DataW.TrodAll enc Tryd.prog W 0 (fun _ => true) true Tryd.f5.params.toList args.toList ds p := hA0
  rw [Tryd.params5] at hA hval
  obtain ⟨v0, vs0, d0, ds0, p0, q0, hargs, rfl, rfl, h0, r0⟩ := trodAll_cons hA
  obtain ⟨v1, vs1, d1, ds1, p1, q1, rfl, rfl, rfl, h1, r1⟩ := trodAll_cons r0
  obtain ⟨v2, vs2, d2, ds2, p2, q2, rfl, rfl, rfl, h2, r2⟩ := trodAll_cons r1
  obtain ⟨rfl, rfl, rfl⟩ := trodAll_nil r2
  obtain rfl : args = #[v0, v1, v2] := by cases args; simp_all
  obtain ⟨rfl, rfl⟩ := trodVars_none hV
  have hlaid := of_laid hL
  clear hA0
  simp only [List.append_nil] at hW'
  have hlt0 : ∀ x ∈ p0, x.block < W.heap.size := fun x hx => hW'.lt x (by simp [hx])
  have hk0 := h0
  obtain ⟨x0, rfl, hr0⟩ := open_head (hval 0 55 v0 rfl rfl) h0
  have hlt1 : ∀ x ∈ p1, x.block < W.heap.size := fun x hx => hW'.lt x (by simp [hx])
  have hk1 := h1
  obtain ⟨a1, cap1, l1, rfl, hr1⟩ := open_recs (hval 1 56 v1 rfl rfl) h1 hlt1
  have hlt2 : ∀ x ∈ p2, x.block < W.heap.size := fun x hx => hW'.lt x (by simp [hx])
  have hk2 := h2
  obtain ⟨x2, rfl, hr2⟩ := open_rec (hval 2 27 v2 rfl rfl) h2 hlt2
  clear hval0
  refine (walk x0 a1 cap1 l1 x2 W hlaid hr0 hr1 hr2).mono fun e W' ⟨he, hb⟩ => ?_
  subst he
  exact ⟨_, rfl, _, _, _, [] ++ [], _, [], hW', trodAll_cons_mk (shut_bool Tryd.underlying4 _) trodAll_mk0, (trodAll_cons_mk (Below.trod Tryd.laidOut (by kernel_rfl) (of_decide_eq_true (by kernel_rfl)) hk0 hb hlt0) (trodAll_cons_mk (Below.trod Tryd.laidOut (by kernel_rfl) (of_decide_eq_true (by kernel_rfl)) hk1 hb hlt1) (trodAll_cons_mk (Below.trod Tryd.laidOut (by kernel_rfl) (of_decide_eq_true (by kernel_rfl)) hk2 hb hlt2) trodAll_mk0))), rfl, hb.frame _, fun h => by cases h⟩

theorem over : Rows.recordWalksRow.holds Tryd.pinned (OpenSpec.ofChange Rows.recordWalksSpec) :=
  OpenClaim.holds_of_wide 5 Tryd.f5 rfl rfl rfl rfl rfl rfl rfl ⟨rfl, rfl, rfl, rfl, rfl⟩ rfl rfl rfl rfl rfl (by kernel_rfl) Tryd.func5 (by kernel_rfl)
    (of_decide_eq_true (by kernel_rfl)) (by unfold Func.isWrapper; first | (rw [if_pos (by decide +kernel)]; kernel_rfl) | (rw [if_neg (by decide +kernel)]; exact ⟨rfl, rfl⟩))
    (fun os started H enc _ => lifted os started H enc)

theorem card : Rows.RecordWalksCardSaid :=
  Claim7.holds_tied_plain_at .later [] [.data, .data] true (true, "875b16e5fcb2ccc823f28e185639766048f68080d49968449cd66f96e9b9ab4d") true
    over (fun _ h => by cases h) (by kernel_rfl) (fun _ h => by cases h) recordWalks_row_tie rfl ⟨rfl, rfl⟩ (by kernel_rfl) rfl
    (fun f fn hf hfn => by
      obtain rfl : f = 5 := Option.some.inj ((show Tryd.prog.funcNamed "saltern/salternlaw13.RecordWalks" = some 5 by kernel_rfl).symm.trans hf) |>.symm
      obtain rfl : fn = Tryd.f5 := (Option.some.inj (Tryd.func5.symm.trans hfn)).symm
      exact ⟨by kernel_rfl, fun j t ht => by
        rw [Tryd.params5] at ht
        have hm : t ∈ [55, 56, 27] := by simpa using Array.mem_of_getElem? ht
        have hall : ([55, 56, 27].all fun u => !Tryd.prog.wantsStandIn u) = true := by kernel_rfl
        exact (show Tryd.prog.wantsStandIn t = false by simpa using List.all_eq_true.1 hall t hm)⟩)
    (by kernel_rfl)

end Go.Proofs.YtpbaacplgohniaaDoor.recordWalks
namespace Go.Proofs.YtpbaacplgohniaaDoor
theorem recordWalks_holds : Rows.RecordWalksCardSaid := recordWalks.card
#print axioms recordWalks_holds
end Go.Proofs.YtpbaacplgohniaaDoor
