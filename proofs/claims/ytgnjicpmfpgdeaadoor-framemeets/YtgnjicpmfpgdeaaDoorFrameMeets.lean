/-
  FrameMeets is proved for every input, as a tied card: what frame.Meet says of a frame is what the document's Meet says, its vow never falls, and it takes none but a frame that is not stale, is mine and is not below the vow; no condition.
-/
import Derived.Test.YtgnjicpmfpgdeaaDoorFrJa
import Derived.Laws.StructEq
namespace Go.Proofs.YtgnjicpmfpgdeaaDoor.frameMeets
open Go.ChangeShapes Go.WideShapes Go.ChangeAt Go.RowKit Go.Deep Go.Lib

theorem fields43 : Tryd.prog.underlying 43 = some (.struct (Tryd.prog.fieldsOf 43)) := by kernel_rfl
theorem guard43 : Tryd.prog.eqGuardType Tryd.prog.depth 43 = false := by kernel_rfl
theorem eqI (d : Nat) (a : Int) (w : World) : (Op.equalIn (d + 1) 3 (.int .i64 a) (.int .i64 a)).run Tryd.prog w = .ok true w := (run_equalIn_int w d 3 .i64 .i64 a a Tryd.underlying3).trans (by simp)
theorem eqB4 (d : Nat) (a : Bool) (w : World) : (Op.equalIn (d + 1) 4 (.bool a) (.bool a)).run Tryd.prog w = .ok true w := (run_equalIn_bool' w d 4 a a Tryd.underlying4).trans (by simp)
/-- One field held against the other's, and on. -/
theorem eq_field {P : Program} {d : Nat} {xs ys : Array Value} {f : Field} {fs : List Field} {w : World} {a b : Value} {r : Bool} (hn : f.name ≠ "_") (h1 : (part f.type xs f.offset).run P w = .ok a w) (h2 : (part f.type ys f.offset).run P w = .ok b w) (h3 : (Op.equalIn d f.type a b).run P w = .ok r w) :
    (Op.eqFields d xs ys (f :: fs)).run P w = if r = true then (Op.eqFields d xs ys fs).run P w else .ok false w := by
  rw [Op.eqFields, if_pos hn]
  simp only [Sem.run_bind, h1, h2, h3, Result.andThen_ok]
  cases r <;> rfl
set_option maxRecDepth 100000 in
theorem eq43g (M : Mt) (w : World) : (Op.equalIn 10000 43 (.agg (mtV M).toArray) (.agg (mtV M).toArray)).run Tryd.prog w = .ok true w := by
  obtain ⟨a, b, c, n, d⟩ := M
  rw [show (10000 : Nat) = 9998 + 1 + 1 from rfl, run_equalIn_struct w (9998 + 1) 43 _ _ fields43 (by kernel_rfl)]
  have hf : ∃ f0 f1 f2 f3 f4 : Field, (Tryd.prog.fieldsOf 43).toList = [f0, f1, f2, f3, f4] ∧ f0.type = 4 ∧ f0.offset = 0 ∧ f1.type = 4 ∧ f1.offset = 1 ∧ f2.type = 4 ∧ f2.offset = 2 ∧ f3.type = 3 ∧ f3.offset = 3 ∧ f4.type = 4 ∧ f4.offset = 4 ∧ f0.name ≠ "_" ∧ f1.name ≠ "_" ∧ f2.name ≠ "_" ∧ f3.name ≠ "_" ∧ f4.name ≠ "_" := ⟨_, _, _, _, _, rfl, rfl, rfl, rfl, rfl, rfl, rfl, rfl, rfl, rfl, rfl, by decide, by decide, by decide, by decide, by decide⟩
  obtain ⟨f0, f1, f2, f3, f4, hl, t0, o0, t1, o1, t2, o2, t3, o3, t4, o4, n0, n1, n2, n3, n4⟩ := hf
  have p0 : (part 4 (mtV (a, b, c, n, d)).toArray 0).run Tryd.prog w = .ok (.bool a) w := by kernel_rfl
  have p1 : (part 4 (mtV (a, b, c, n, d)).toArray 1).run Tryd.prog w = .ok (.bool b) w := by kernel_rfl
  have p2 : (part 4 (mtV (a, b, c, n, d)).toArray 2).run Tryd.prog w = .ok (.bool c) w := by kernel_rfl
  have p3 : (part 3 (mtV (a, b, c, n, d)).toArray 3).run Tryd.prog w = .ok (.int .i64 n) w := by kernel_rfl
  have p4 : (part 4 (mtV (a, b, c, n, d)).toArray 4).run Tryd.prog w = .ok (.bool d) w := by kernel_rfl
  rw [hl, eq_field n0 (by rw [t0, o0]; exact p0) (by rw [t0, o0]; exact p0) (by rw [t0]; exact eqB4 9998 _ w), if_pos rfl,
    eq_field n1 (by rw [t1, o1]; exact p1) (by rw [t1, o1]; exact p1) (by rw [t1]; exact eqB4 9998 _ w), if_pos rfl,
    eq_field n2 (by rw [t2, o2]; exact p2) (by rw [t2, o2]; exact p2) (by rw [t2]; exact eqB4 9998 _ w), if_pos rfl,
    eq_field n3 (by rw [t3, o3]; exact p3) (by rw [t3, o3]; exact p3) (by rw [t3]; exact eqI 9998 _ w), if_pos rfl,
    eq_field n4 (by rw [t4, o4]; exact p4) (by rw [t4, o4]; exact p4) (by rw [t4]; exact eqB4 9998 _ w), if_pos rfl]
  rfl
theorem meet_facts (me peer vow : Int) (f : Fr) : vow ≤ (meetM me peer vow f).2.2.2.1 ∧ ((meetM me peer vow f).2.2.2.2 = true → (meetM me peer vow f).1 = false ∧ (meetM me peer vow f).2.2.1 = true ∧ vow ≤ f.ep) := by
  refine ⟨by show vow ≤ max vow f.ep; omega, fun h => ?_⟩
  have h' : (!decide (f.me < peer) && (decide (f.yo = me) && decide (vow ≤ f.ep))) = true := h
  simp only [Bool.and_eq_true, Bool.not_eq_true', decide_eq_true_eq, decide_eq_false_iff_not] at h'
  exact ⟨decide_eq_false h'.1, decide_eq_true h'.2.1, h'.2.2⟩
set_option maxHeartbeats 25600000 in
set_option maxRecDepth 100000 in
theorem walk (me : Int) (_wm : (Lit.int .u64 me).wf = true) (peer : Int) (_wp : (Lit.int .u64 peer).wf = true) (vow : Int) (_wv : (Lit.int .i64 vow).wf = true) (f : Fr) (w : World) (hL : Sh.Laid w) (_hf : Fv w f) :
    Calls Tryd.prog 6 #[.int .u64 me, .int .u64 peer, .int .i64 vow, .agg f.cs.toArray] w fun e w' => e = .returned (.bool true) ∧ Below w.heap.size w w' := by
  have HB1 := hid (bel_alc w (.cells f.cs.toArray 25))
  have hbx := heap_alc w (.cells f.cs.toArray 25)
  obtain ⟨W1, hW1⟩ : ∃ W1, W1 = w.alloc (.cells f.cs.toArray 25) := ⟨_, rfl⟩
  rw [← hW1] at HB1 hbx
  have HW1 := hid hW1
  have HG1 := hid hbx
  have HR1 := hid (blk_range hbx)
  have HME := hid (fun V => meet_word me peer vow f V)
  have HDM := hid (fun V => dmeet_word me peer vow f V)
  have HAW := hid (fun V (hV : Below w.heap.size w V) => awake_word V (hL.later hV))
  have hmf := meet_facts me peer vow f
  obtain ⟨ep, hep⟩ : ∃ x, x = f.ep := ⟨_, rfl⟩
  have HEQ := hid hep
  rw [← hep] at hmf
  clear hep
  obtain ⟨M, hM⟩ : ∃ M, M = meetM me peer vow f := ⟨_, rfl⟩
  rw [← hM] at HME HDM hmf
  clear hM hW1 hbx hL _hf _wm _wp _wv
  obtain ⟨st, nw, mi, vo, tk⟩ := M
  have HVO : Hid (vow ≤ vo) := hmf.1
  have HTK : Hid (tk = true → st = false ∧ mi = true ∧ vow ≤ ep) := hmf.2
  clear hmf
  go_enter Tryd.func6, Tryd.ntmps6
  go_wp2_with (first | refine wpList_load_P rfl 25 _ rfl w.heap.size 0 rfl f.cs _ (by rw [← HW1.out]; exact HR1.out) Tryd.underlying25 rfl Tryd.size25 ?_ | fail)
  rw [← HW1.out]
  refine (HME.out W1).mono ?_
  rintro _ W2 ⟨rfl, hb2⟩
  have HB2 := hid (Bn HB1.out hb2)
  have HG2 := hid (blk_later HG1.out hb2)
  clear hb2 HME HG1 HR1 HB1 HW1
  obtain ⟨g3, hg3⟩ : ∃ g, g = W2.heap.size := ⟨_, rfl⟩
  have HQ3 := hid hg3
  clear hg3
  go_wp2_with (first | refine wpList_alloc_W rfl 43 rfl (some 9) rfl _ Tryd.zero43 g3 HQ3.out ?_ | fail)
  intro W3 HG3 HBl3 HT3
  go_wp2_with (first | refine wpList_store_W rfl 43 _ _ rfl rfl g3 (mtV (st, nw, mi, vo, tk)).toArray rfl rfl 43 _ HG3.out Tryd.size43 rfl (mtV_one _) ?_ | fail)
  intro W4 HG4 HGR4 HT4
  have hb4 : Below W2.heap.size W2 W4 := by rw [← HQ3.out]; exact HBl3.out.trans (bel_grown HGR4.out (Nat.le_refl _) (by rw [HQ3.out]; exact HBl3.out.size))
  have HB4 := hid (Bn HB2.out hb4)
  have HG4f := hid (blk_later HG2.out hb4)
  clear hb4 HG3 HBl3 HT3 HGR4 HT4 HQ3 HG2 HB2
  have HRM := hid (fun X (hX : Below W4.heap.size W4 X) => blk_range (blk_later HG4.out hX))
  have HRF := hid (fun X (hX : Below W4.heap.size W4 X) => blk_range (blk_later HG4f.out hX))
  have HC0 := hid (fun X (hX : Below W4.heap.size W4 X) => (show X.cell? ⟨g3, 0, none⟩ = some (.bool st) from (Joins.cell_of_block (blk_later HG4.out hX) 0).trans rfl))
  have HC2 := hid (fun X (hX : Below W4.heap.size W4 X) => (show X.cell? ⟨g3, 2, none⟩ = some (.bool mi) from (Joins.cell_of_block (blk_later HG4.out hX) 2).trans rfl))
  have HC3 := hid (fun X (hX : Below W4.heap.size W4 X) => (show X.cell? ⟨g3, 3, none⟩ = some (.int .i64 vo) from (Joins.cell_of_block (blk_later HG4.out hX) 3).trans rfl))
  have HC4 := hid (fun X (hX : Below W4.heap.size W4 X) => (show X.cell? ⟨g3, 4, none⟩ = some (.bool tk) from (Joins.cell_of_block (blk_later HG4.out hX) 4).trans rfl))
  have HCE := hid (fun X (hX : Below W4.heap.size W4 X) => (show X.cell? ⟨w.heap.size, 1, none⟩ = some (.int .i64 ep) from by rw [HEQ.out]; exact (Joins.cell_of_block (blk_later HG4f.out hX) 1).trans rfl))
  have HAX := hid (fun X (hX : Below W4.heap.size W4 X) => HAW.out X (Bn HB4.out hX))
  clear HAW HG4 HG4f HEQ
  cases tk with
  | true =>
    obtain ⟨rfl, rfl, hvp⟩ := HTK.out rfl
    have HVP := hid hvp
    clear hvp HTK
    go_wp2_with fail
    refine wp_region_held_drew (S := fun X => Below W4.heap.size W4 X) (by kernel_rfl) (Below.refl _ _).drew (fun hS_v0 => ?_)
    have hd_v0 : Below W4.heap.size W4 W4.drew := (Below.refl _ _).drew
    generalize W4.drew = v0 at *
    simp only [List.size_toArray, List.length_cons, List.length_nil, Nat.reduceAdd]
    clear hd_v0
    refine Ord.take (i := 0) (d := 15) (v := .agg (mtV (false, nw, true, vo, true)).toArray) rfl rfl (by as_aux_lemma => kernel_rfl) (by as_aux_lemma => kernel_rfl) (by as_aux_lemma => kernel_rfl) (fun _ _ _ h => h) (by rfl) ?hT0 (by assumption) ?_
    case hT0 => intro wx hSw; exact exec_load 43 (.tmp 9) rfl g3 0 rfl (run_loadVar_mid wx g3 0 43 (mtV (false, nw, true, vo, true)) _ (HRM.out _ hSw) Tryd.underlying43 rfl Tryd.size43)
    try simp only [List.setIfInBounds_toArray, List.set_cons_zero, List.set_cons_succ]
    refine Ord.take (i := 1) (d := 16) (v := ?vT1) rfl rfl (by as_aux_lemma => kernel_rfl) (by as_aux_lemma => kernel_rfl) (by as_aux_lemma => kernel_rfl) (fun _ _ _ h => h) (by rfl) ?hT1 (by assumption) ?_
    case hT1 => intro wx hSw; go_simp; try with_reducible rfl
    try simp only [List.setIfInBounds_toArray, List.set_cons_zero, List.set_cons_succ]
    refine Ord.take (i := 2) (d := 17) (v := ?vT2) rfl rfl (by as_aux_lemma => kernel_rfl) (by as_aux_lemma => kernel_rfl) (by as_aux_lemma => kernel_rfl) (fun _ _ _ h => h) (by rfl) ?hT2 (by assumption) ?_
    case hT2 => intro wx hSw; go_simp; try with_reducible rfl
    try simp only [List.setIfInBounds_toArray, List.set_cons_zero, List.set_cons_succ]
    refine Ord.take (i := 3) (d := 18) (v := ?vT3) rfl rfl (by as_aux_lemma => kernel_rfl) (by as_aux_lemma => kernel_rfl) (by as_aux_lemma => kernel_rfl) (fun _ _ _ h => h) (by rfl) ?hT3 (by assumption) ?_
    case hT3 => intro wx hSw; go_simp; try with_reducible rfl
    try simp only [List.setIfInBounds_toArray, List.set_cons_zero, List.set_cons_succ]
    refine Ord.take (i := 4) (d := 19) (v := .agg f.cs.toArray) rfl rfl (by as_aux_lemma => kernel_rfl) (by as_aux_lemma => kernel_rfl) (by as_aux_lemma => kernel_rfl) (fun _ _ _ h => h) (by rfl) ?hT4 (by assumption) ?_
    case hT4 => intro wx hSw; exact exec_load 25 (.tmp 7) rfl w.heap.size 0 rfl (run_loadVar_mid wx w.heap.size 0 25 f.cs _ (HRF.out _ hSw) Tryd.underlying25 rfl Tryd.size25)
    try simp only [List.setIfInBounds_toArray, List.set_cons_zero, List.set_cons_succ]
    refine wpAnyH_ready (rs := [5]) (by as_aux_lemma => kernel_rfl) (by simp) (AllReadyH.cons rfl (fun K hK => ?_) AllReadyH.nil)
    go_simp
    go_simp
    go_simp
    refine (HDM.out v0).mono ?_
    rintro _ v1 ⟨rfl, hb_v1⟩
    have hS_v1 : Below W4.heap.size W4 v1 := Bn hS_v0 hb_v1
    clear hb_v1
    refine hK.out _ _ hS_v1 (fun _ => ?_)
    clear hK K
    try simp only [List.setIfInBounds_toArray, List.set_cons_zero, List.set_cons_succ]
    try simp only [List.setIfInBounds_toArray, List.set_cons_zero, List.set_cons_succ]
    refine Ord.take (i := 6) (d := 21) (v := .bool true) rfl rfl (by as_aux_lemma => kernel_rfl) (by as_aux_lemma => kernel_rfl) (by as_aux_lemma => kernel_rfl) (fun _ _ _ h => h) (by rfl) ?hT6 (by assumption) ?_
    case hT6 => intro wx hSw; exact run_eql_op rfl rfl rfl guard43 (eq43g _ _)
    try simp only [List.setIfInBounds_toArray, List.set_cons_zero, List.set_cons_succ]
    refine Ord.take (i := 7) (d := 22) (v := .bool true) rfl rfl (by as_aux_lemma => kernel_rfl) (by as_aux_lemma => kernel_rfl) (by as_aux_lemma => kernel_rfl) (fun _ _ _ h => h) (by rfl) ?hT7 (by assumption) ?_
    case hT7 => intro wx hSw; go_simp; try with_reducible rfl
    try simp only [List.setIfInBounds_toArray, List.set_cons_zero, List.set_cons_succ]
    refine Ord.take (i := 8) (d := 23) (v := ?vT8) rfl rfl (by as_aux_lemma => kernel_rfl) (by as_aux_lemma => kernel_rfl) (by as_aux_lemma => kernel_rfl) (fun _ _ _ h => h) (by rfl) ?hT8 (by assumption) ?_
    case hT8 => intro wx hSw; go_simp; try with_reducible rfl
    try simp only [List.setIfInBounds_toArray, List.set_cons_zero, List.set_cons_succ]
    refine Ord.take (i := 9) (d := 24) (v := .int .i64 vo) rfl rfl (by as_aux_lemma => kernel_rfl) (by as_aux_lemma => kernel_rfl) (by as_aux_lemma => kernel_rfl) (fun _ _ _ h => h) (by rfl) ?hT9 (by assumption) ?_
    case hT9 => intro wx hSw; have hc := HC3.out _ hSw; go_simp; try with_reducible rfl
    try simp only [List.setIfInBounds_toArray, List.set_cons_zero, List.set_cons_succ]
    refine Ord.take (i := 10) (d := 25) (v := ?vT10) rfl rfl (by as_aux_lemma => kernel_rfl) (by as_aux_lemma => kernel_rfl) (by as_aux_lemma => kernel_rfl) (fun _ _ _ h => h) (by rfl) ?hT10 (by assumption) ?_
    case hT10 => intro wx hSw; go_simp; try with_reducible rfl
    try simp only [List.setIfInBounds_toArray, List.set_cons_zero, List.set_cons_succ]
    refine Ord.take (i := 11) (d := 26) (v := .bool true) rfl rfl (by as_aux_lemma => kernel_rfl) (by as_aux_lemma => kernel_rfl) (by as_aux_lemma => kernel_rfl) (fun _ _ _ h => h) (by rfl) ?hT11 (by assumption) ?_
    case hT11 => intro wx hSw; go_simp; try first | with_reducible rfl | exact HVO.out
    try simp only [List.setIfInBounds_toArray, List.set_cons_zero, List.set_cons_succ]
    refine Ord.take (i := 12) (d := 27) (v := .bool true) rfl rfl (by as_aux_lemma => kernel_rfl) (by as_aux_lemma => kernel_rfl) (by as_aux_lemma => kernel_rfl) (fun _ _ _ h => h) (by rfl) ?hT12 (by assumption) ?_
    case hT12 => intro wx hSw; go_simp; try with_reducible rfl
    try simp only [List.setIfInBounds_toArray, List.set_cons_zero, List.set_cons_succ]
    refine Ord.take (i := 13) (d := 28) (v := .bool true) rfl rfl (by as_aux_lemma => kernel_rfl) (by as_aux_lemma => kernel_rfl) (by as_aux_lemma => kernel_rfl) (fun _ _ _ h => h) (by rfl) ?hT13 (by assumption) ?_
    case hT13 => intro wx hSw; go_simp; try with_reducible rfl
    try simp only [List.setIfInBounds_toArray, List.set_cons_zero, List.set_cons_succ]
    refine Ord.take (i := 14) (d := 29) (v := ?vT14) rfl rfl (by as_aux_lemma => kernel_rfl) (by as_aux_lemma => kernel_rfl) (by as_aux_lemma => kernel_rfl) (fun _ _ _ h => h) (by rfl) ?hT14 (by assumption) ?_
    case hT14 => intro wx hSw; go_simp; try with_reducible rfl
    try simp only [List.setIfInBounds_toArray, List.set_cons_zero, List.set_cons_succ]
    refine Ord.take (i := 15) (d := 30) (v := .bool true) rfl rfl (by as_aux_lemma => kernel_rfl) (by as_aux_lemma => kernel_rfl) (by as_aux_lemma => kernel_rfl) (fun _ _ _ h => h) (by rfl) ?hT15 (by assumption) ?_
    case hT15 => intro wx hSw; have hc := HC4.out _ hSw; go_simp; try with_reducible rfl
    try simp only [List.setIfInBounds_toArray, List.set_cons_zero, List.set_cons_succ]
    refine Ord.take (i := 16) (d := 31) (v := .bool false) rfl rfl (by as_aux_lemma => kernel_rfl) (by as_aux_lemma => kernel_rfl) (by as_aux_lemma => kernel_rfl) (fun _ _ _ h => h) (by rfl) ?hT16 (by assumption) ?_
    case hT16 => intro wx hSw; go_simp; try with_reducible rfl
    try simp only [List.setIfInBounds_toArray, List.set_cons_zero, List.set_cons_succ]
    refine Ord.take (i := 17) (d := 32) (v := .bool false) rfl rfl (by as_aux_lemma => kernel_rfl) (by as_aux_lemma => kernel_rfl) (by as_aux_lemma => kernel_rfl) (fun _ _ _ h => h) (by rfl) ?hT17 (by assumption) ?_
    case hT17 => intro wx hSw; go_simp; try with_reducible rfl
    try simp only [List.setIfInBounds_toArray, List.set_cons_zero, List.set_cons_succ]
    refine Ord.take (i := 18) (d := 33) (v := ?vT18) rfl rfl (by as_aux_lemma => kernel_rfl) (by as_aux_lemma => kernel_rfl) (by as_aux_lemma => kernel_rfl) (fun _ _ _ h => h) (by rfl) ?hT18 (by assumption) ?_
    case hT18 => intro wx hSw; go_simp; try with_reducible rfl
    try simp only [List.setIfInBounds_toArray, List.set_cons_zero, List.set_cons_succ]
    refine Ord.take (i := 19) (d := 34) (v := .int .i64 ep) rfl rfl (by as_aux_lemma => kernel_rfl) (by as_aux_lemma => kernel_rfl) (by as_aux_lemma => kernel_rfl) (fun _ _ _ h => h) (by rfl) ?hT19 (by assumption) ?_
    case hT19 => intro wx hSw; have hc := HCE.out _ hSw; go_simp; try with_reducible rfl
    try simp only [List.setIfInBounds_toArray, List.set_cons_zero, List.set_cons_succ]
    refine Ord.take (i := 20) (d := 35) (v := ?vT20) rfl rfl (by as_aux_lemma => kernel_rfl) (by as_aux_lemma => kernel_rfl) (by as_aux_lemma => kernel_rfl) (fun _ _ _ h => h) (by rfl) ?hT20 (by assumption) ?_
    case hT20 => intro wx hSw; go_simp; try with_reducible rfl
    try simp only [List.setIfInBounds_toArray, List.set_cons_zero, List.set_cons_succ]
    refine Ord.take (i := 21) (d := 36) (v := .bool true) rfl rfl (by as_aux_lemma => kernel_rfl) (by as_aux_lemma => kernel_rfl) (by as_aux_lemma => kernel_rfl) (fun _ _ _ h => h) (by rfl) ?hT21 (by assumption) ?_
    case hT21 => intro wx hSw; go_simp; try first | with_reducible rfl | exact HVP.out
    try simp only [List.setIfInBounds_toArray, List.set_cons_zero, List.set_cons_succ]
    refine Ord.take (i := 22) (d := 37) (v := .bool true) rfl rfl (by as_aux_lemma => kernel_rfl) (by as_aux_lemma => kernel_rfl) (by as_aux_lemma => kernel_rfl) (fun _ _ _ h => h) (by rfl) ?hT22 (by assumption) ?_
    case hT22 => intro wx hSw; go_simp; try with_reducible rfl
    try simp only [List.setIfInBounds_toArray, List.set_cons_zero, List.set_cons_succ]
    refine Ord.take (i := 23) (d := 38) (v := ?vT23) rfl rfl (by as_aux_lemma => kernel_rfl) (by as_aux_lemma => kernel_rfl) (by as_aux_lemma => kernel_rfl) (fun _ _ _ h => h) (by rfl) ?hT23 (by assumption) ?_
    case hT23 => intro wx hSw; go_simp; try with_reducible rfl
    try simp only [List.setIfInBounds_toArray, List.set_cons_zero, List.set_cons_succ]
    refine Ord.take (i := 24) (d := 39) (v := .bool true) rfl rfl (by as_aux_lemma => kernel_rfl) (by as_aux_lemma => kernel_rfl) (by as_aux_lemma => kernel_rfl) (fun _ _ _ h => h) (by rfl) ?hT24 (by assumption) ?_
    case hT24 => intro wx hSw; have hc := HC2.out _ hSw; go_simp; try with_reducible rfl
    try simp only [List.setIfInBounds_toArray, List.set_cons_zero, List.set_cons_succ]
    refine Ord.take (i := 25) (d := 40) (v := .bool true) rfl rfl (by as_aux_lemma => kernel_rfl) (by as_aux_lemma => kernel_rfl) (by as_aux_lemma => kernel_rfl) (fun _ _ _ h => h) (by rfl) ?hT25 (by assumption) ?_
    case hT25 => intro wx hSw; go_simp; try with_reducible rfl
    try simp only [List.setIfInBounds_toArray, List.set_cons_zero, List.set_cons_succ]
    refine Ord.take (i := 26) (d := 41) (v := .bool true) rfl rfl (by as_aux_lemma => kernel_rfl) (by as_aux_lemma => kernel_rfl) (by as_aux_lemma => kernel_rfl) (fun _ _ _ h => h) (by rfl) ?hT26 (by assumption) ?_
    case hT26 => intro wx hSw; go_simp; try with_reducible rfl
    try simp only [List.setIfInBounds_toArray, List.set_cons_zero, List.set_cons_succ]
    refine Ord.take (i := 27) (d := 42) (v := ?vT27) rfl rfl (by as_aux_lemma => kernel_rfl) (by as_aux_lemma => kernel_rfl) (by as_aux_lemma => kernel_rfl) (fun _ _ _ h => h) (by rfl) ?hT27 (by assumption) ?_
    case hT27 => intro wx hSw; go_simp; try with_reducible rfl
    try simp only [List.setIfInBounds_toArray, List.set_cons_zero, List.set_cons_succ]
    refine Ord.take (i := 28) (d := 43) (v := .bool false) rfl rfl (by as_aux_lemma => kernel_rfl) (by as_aux_lemma => kernel_rfl) (by as_aux_lemma => kernel_rfl) (fun _ _ _ h => h) (by rfl) ?hT28 (by assumption) ?_
    case hT28 => intro wx hSw; have hc := HC0.out _ hSw; go_simp; try with_reducible rfl
    try simp only [List.setIfInBounds_toArray, List.set_cons_zero, List.set_cons_succ]
    refine Ord.take (i := 29) (d := 44) (v := .bool true) rfl rfl (by as_aux_lemma => kernel_rfl) (by as_aux_lemma => kernel_rfl) (by as_aux_lemma => kernel_rfl) (fun _ _ _ h => h) (by rfl) ?hT29 (by assumption) ?_
    case hT29 => intro wx hSw; go_simp; try with_reducible rfl
    try simp only [List.setIfInBounds_toArray, List.set_cons_zero, List.set_cons_succ]
    refine Ord.take (i := 30) (d := 45) (v := .bool true) rfl rfl (by as_aux_lemma => kernel_rfl) (by as_aux_lemma => kernel_rfl) (by as_aux_lemma => kernel_rfl) (fun _ _ _ h => h) (by rfl) ?hT30 (by assumption) ?_
    case hT30 => intro wx hSw; go_simp; try with_reducible rfl
    try simp only [List.setIfInBounds_toArray, List.set_cons_zero, List.set_cons_succ]
    refine Ord.take (i := 31) (d := 46) (v := .bool true) rfl rfl (by as_aux_lemma => kernel_rfl) (by as_aux_lemma => kernel_rfl) (by as_aux_lemma => kernel_rfl) (fun _ _ _ h => h) (by rfl) ?hT31 (by assumption) ?_
    case hT31 => intro wx hSw; go_simp; try with_reducible rfl
    try simp only [List.setIfInBounds_toArray, List.set_cons_zero, List.set_cons_succ]
    refine Ord.take (i := 32) (d := 47) (v := .bool true) rfl rfl (by as_aux_lemma => kernel_rfl) (by as_aux_lemma => kernel_rfl) (by as_aux_lemma => kernel_rfl) (fun _ _ _ h => h) (by rfl) ?hT32 (by assumption) ?_
    case hT32 => intro wx hSw; go_simp; try with_reducible rfl
    try simp only [List.setIfInBounds_toArray, List.set_cons_zero, List.set_cons_succ]
    refine Ord.take (i := 33) (d := 48) (v := .bool true) rfl rfl (by as_aux_lemma => kernel_rfl) (by as_aux_lemma => kernel_rfl) (by as_aux_lemma => kernel_rfl) (fun _ _ _ h => h) (by rfl) ?hT33 (by assumption) ?_
    case hT33 => intro wx hSw; go_simp; try with_reducible rfl
    try simp only [List.setIfInBounds_toArray, List.set_cons_zero, List.set_cons_succ]
    refine wpAnyH_ready (rs := [34]) (by as_aux_lemma => kernel_rfl) (by simp) (AllReadyH.cons rfl (fun K hK => ?_) AllReadyH.nil)
    go_simp
    go_simp
    go_simp
    refine (HAX.out v1 hS_v1).mono ?_
    rintro _ v2 ⟨rfl, hb_v2⟩
    have hS_v2 : Below W4.heap.size W4 v2 := Bn hS_v1 hb_v2
    clear hb_v2
    refine hK.out _ _ hS_v2 (fun _ => ?_)
    clear hK K
    try simp only [List.setIfInBounds_toArray, List.set_cons_zero, List.set_cons_succ]
    try simp only [List.setIfInBounds_toArray, List.set_cons_zero, List.set_cons_succ]
    refine Ord.take (i := 35) (d := 50) (v := .bool true) rfl rfl (by as_aux_lemma => kernel_rfl) (by as_aux_lemma => kernel_rfl) (by as_aux_lemma => kernel_rfl) (fun _ _ _ h => h) (by rfl) ?hT35 (by assumption) ?_
    case hT35 => intro wx hSw; go_simp; try with_reducible rfl
    try simp only [List.setIfInBounds_toArray, List.set_cons_zero, List.set_cons_succ]
    refine Ord.take (i := 36) (d := 8) (v := ?vT36) rfl rfl (by as_aux_lemma => kernel_rfl) (by as_aux_lemma => kernel_rfl) (by as_aux_lemma => kernel_rfl) (fun _ _ _ h => h) (by rfl) ?hT36 (by assumption) ?_
    case hT36 => intro wx hSw; go_simp; try with_reducible rfl
    try simp only [List.setIfInBounds_toArray, List.set_cons_zero, List.set_cons_succ]
    refine wpAnyH_done (by as_aux_lemma => kernel_rfl) ?_ _
    have HS9 := hid (Bn HB4.out hS_v2)
    clear hS_v0 hS_v1 hS_v2
    go_wp2
    go_ret
    exact ⟨rfl, HS9.out⟩
  | false =>
    clear HTK
    go_wp2_with fail
    refine wp_region_held_drew (S := fun X => Below W4.heap.size W4 X) (by kernel_rfl) (Below.refl _ _).drew (fun hS_v0 => ?_)
    have hd_v0 : Below W4.heap.size W4 W4.drew := (Below.refl _ _).drew
    generalize W4.drew = v0 at *
    simp only [List.size_toArray, List.length_cons, List.length_nil, Nat.reduceAdd]
    clear hd_v0
    refine Ord.take (i := 0) (d := 15) (v := .agg (mtV (st, nw, mi, vo, false)).toArray) rfl rfl (by as_aux_lemma => kernel_rfl) (by as_aux_lemma => kernel_rfl) (by as_aux_lemma => kernel_rfl) (fun _ _ _ h => h) (by rfl) ?hF0 (by assumption) ?_
    case hF0 => intro wx hSw; exact exec_load 43 (.tmp 9) rfl g3 0 rfl (run_loadVar_mid wx g3 0 43 (mtV (st, nw, mi, vo, false)) _ (HRM.out _ hSw) Tryd.underlying43 rfl Tryd.size43)
    try simp only [List.setIfInBounds_toArray, List.set_cons_zero, List.set_cons_succ]
    refine Ord.take (i := 1) (d := 16) (v := ?vF1) rfl rfl (by as_aux_lemma => kernel_rfl) (by as_aux_lemma => kernel_rfl) (by as_aux_lemma => kernel_rfl) (fun _ _ _ h => h) (by rfl) ?hF1 (by assumption) ?_
    case hF1 => intro wx hSw; go_simp; try with_reducible rfl
    try simp only [List.setIfInBounds_toArray, List.set_cons_zero, List.set_cons_succ]
    refine Ord.take (i := 2) (d := 17) (v := ?vF2) rfl rfl (by as_aux_lemma => kernel_rfl) (by as_aux_lemma => kernel_rfl) (by as_aux_lemma => kernel_rfl) (fun _ _ _ h => h) (by rfl) ?hF2 (by assumption) ?_
    case hF2 => intro wx hSw; go_simp; try with_reducible rfl
    try simp only [List.setIfInBounds_toArray, List.set_cons_zero, List.set_cons_succ]
    refine Ord.take (i := 3) (d := 18) (v := ?vF3) rfl rfl (by as_aux_lemma => kernel_rfl) (by as_aux_lemma => kernel_rfl) (by as_aux_lemma => kernel_rfl) (fun _ _ _ h => h) (by rfl) ?hF3 (by assumption) ?_
    case hF3 => intro wx hSw; go_simp; try with_reducible rfl
    try simp only [List.setIfInBounds_toArray, List.set_cons_zero, List.set_cons_succ]
    refine Ord.take (i := 4) (d := 19) (v := .agg f.cs.toArray) rfl rfl (by as_aux_lemma => kernel_rfl) (by as_aux_lemma => kernel_rfl) (by as_aux_lemma => kernel_rfl) (fun _ _ _ h => h) (by rfl) ?hF4 (by assumption) ?_
    case hF4 => intro wx hSw; exact exec_load 25 (.tmp 7) rfl w.heap.size 0 rfl (run_loadVar_mid wx w.heap.size 0 25 f.cs _ (HRF.out _ hSw) Tryd.underlying25 rfl Tryd.size25)
    try simp only [List.setIfInBounds_toArray, List.set_cons_zero, List.set_cons_succ]
    refine wpAnyH_ready (rs := [5]) (by as_aux_lemma => kernel_rfl) (by simp) (AllReadyH.cons rfl (fun K hK => ?_) AllReadyH.nil)
    go_simp
    go_simp
    go_simp
    refine (HDM.out v0).mono ?_
    rintro _ v1 ⟨rfl, hb_v1⟩
    have hS_v1 : Below W4.heap.size W4 v1 := Bn hS_v0 hb_v1
    clear hb_v1
    refine hK.out _ _ hS_v1 (fun _ => ?_)
    clear hK K
    try simp only [List.setIfInBounds_toArray, List.set_cons_zero, List.set_cons_succ]
    try simp only [List.setIfInBounds_toArray, List.set_cons_zero, List.set_cons_succ]
    refine Ord.take (i := 6) (d := 21) (v := .bool true) rfl rfl (by as_aux_lemma => kernel_rfl) (by as_aux_lemma => kernel_rfl) (by as_aux_lemma => kernel_rfl) (fun _ _ _ h => h) (by rfl) ?hF6 (by assumption) ?_
    case hF6 => intro wx hSw; exact run_eql_op rfl rfl rfl guard43 (eq43g _ _)
    try simp only [List.setIfInBounds_toArray, List.set_cons_zero, List.set_cons_succ]
    refine Ord.take (i := 7) (d := 22) (v := .bool true) rfl rfl (by as_aux_lemma => kernel_rfl) (by as_aux_lemma => kernel_rfl) (by as_aux_lemma => kernel_rfl) (fun _ _ _ h => h) (by rfl) ?hF7 (by assumption) ?_
    case hF7 => intro wx hSw; go_simp; try with_reducible rfl
    try simp only [List.setIfInBounds_toArray, List.set_cons_zero, List.set_cons_succ]
    refine Ord.take (i := 8) (d := 23) (v := ?vF8) rfl rfl (by as_aux_lemma => kernel_rfl) (by as_aux_lemma => kernel_rfl) (by as_aux_lemma => kernel_rfl) (fun _ _ _ h => h) (by rfl) ?hF8 (by assumption) ?_
    case hF8 => intro wx hSw; go_simp; try with_reducible rfl
    try simp only [List.setIfInBounds_toArray, List.set_cons_zero, List.set_cons_succ]
    refine Ord.take (i := 9) (d := 24) (v := .int .i64 vo) rfl rfl (by as_aux_lemma => kernel_rfl) (by as_aux_lemma => kernel_rfl) (by as_aux_lemma => kernel_rfl) (fun _ _ _ h => h) (by rfl) ?hF9 (by assumption) ?_
    case hF9 => intro wx hSw; have hc := HC3.out _ hSw; go_simp; try with_reducible rfl
    try simp only [List.setIfInBounds_toArray, List.set_cons_zero, List.set_cons_succ]
    refine Ord.take (i := 10) (d := 25) (v := ?vF10) rfl rfl (by as_aux_lemma => kernel_rfl) (by as_aux_lemma => kernel_rfl) (by as_aux_lemma => kernel_rfl) (fun _ _ _ h => h) (by rfl) ?hF10 (by assumption) ?_
    case hF10 => intro wx hSw; go_simp; try with_reducible rfl
    try simp only [List.setIfInBounds_toArray, List.set_cons_zero, List.set_cons_succ]
    refine Ord.take (i := 11) (d := 26) (v := .bool true) rfl rfl (by as_aux_lemma => kernel_rfl) (by as_aux_lemma => kernel_rfl) (by as_aux_lemma => kernel_rfl) (fun _ _ _ h => h) (by rfl) ?hF11 (by assumption) ?_
    case hF11 => intro wx hSw; go_simp; try first | with_reducible rfl | exact HVO.out
    try simp only [List.setIfInBounds_toArray, List.set_cons_zero, List.set_cons_succ]
    refine Ord.take (i := 12) (d := 27) (v := .bool true) rfl rfl (by as_aux_lemma => kernel_rfl) (by as_aux_lemma => kernel_rfl) (by as_aux_lemma => kernel_rfl) (fun _ _ _ h => h) (by rfl) ?hF12 (by assumption) ?_
    case hF12 => intro wx hSw; go_simp; try with_reducible rfl
    try simp only [List.setIfInBounds_toArray, List.set_cons_zero, List.set_cons_succ]
    refine Ord.take (i := 13) (d := 28) (v := .bool true) rfl rfl (by as_aux_lemma => kernel_rfl) (by as_aux_lemma => kernel_rfl) (by as_aux_lemma => kernel_rfl) (fun _ _ _ h => h) (by rfl) ?hF13 (by assumption) ?_
    case hF13 => intro wx hSw; go_simp; try with_reducible rfl
    try simp only [List.setIfInBounds_toArray, List.set_cons_zero, List.set_cons_succ]
    refine Ord.take (i := 14) (d := 29) (v := ?vF14) rfl rfl (by as_aux_lemma => kernel_rfl) (by as_aux_lemma => kernel_rfl) (by as_aux_lemma => kernel_rfl) (fun _ _ _ h => h) (by rfl) ?hF14 (by assumption) ?_
    case hF14 => intro wx hSw; go_simp; try with_reducible rfl
    try simp only [List.setIfInBounds_toArray, List.set_cons_zero, List.set_cons_succ]
    refine Ord.take (i := 15) (d := 30) (v := .bool false) rfl rfl (by as_aux_lemma => kernel_rfl) (by as_aux_lemma => kernel_rfl) (by as_aux_lemma => kernel_rfl) (fun _ _ _ h => h) (by rfl) ?hF15 (by assumption) ?_
    case hF15 => intro wx hSw; have hc := HC4.out _ hSw; go_simp; try with_reducible rfl
    try simp only [List.setIfInBounds_toArray, List.set_cons_zero, List.set_cons_succ]
    refine Ord.take (i := 16) (d := 31) (v := .bool true) rfl rfl (by as_aux_lemma => kernel_rfl) (by as_aux_lemma => kernel_rfl) (by as_aux_lemma => kernel_rfl) (fun _ _ _ h => h) (by rfl) ?hF16 (by assumption) ?_
    case hF16 => intro wx hSw; go_simp; try with_reducible rfl
    try simp only [List.setIfInBounds_toArray, List.set_cons_zero, List.set_cons_succ]
    refine Ord.take (i := 17) (d := 32) (v := .bool true) rfl rfl (by as_aux_lemma => kernel_rfl) (by as_aux_lemma => kernel_rfl) (by as_aux_lemma => kernel_rfl) (fun _ _ _ h => h) (by rfl) ?hF17 (by assumption) ?_
    case hF17 => intro wx hSw; go_simp; try with_reducible rfl
    try simp only [List.setIfInBounds_toArray, List.set_cons_zero, List.set_cons_succ]
    refine Ord.skip (i := 18) (d := 33) rfl rfl (by as_aux_lemma => kernel_rfl) (by as_aux_lemma => kernel_rfl) (by as_aux_lemma => kernel_rfl) (fun _ _ _ h => h) (by rfl) (by assumption) ?_
    simp only [List.setIfInBounds_toArray, List.set_cons_zero, List.set_cons_succ]
    refine Ord.skip (i := 19) (d := 34) rfl rfl (by as_aux_lemma => kernel_rfl) (by as_aux_lemma => kernel_rfl) (by as_aux_lemma => kernel_rfl) (fun _ _ _ h => h) (by rfl) (by assumption) ?_
    simp only [List.setIfInBounds_toArray, List.set_cons_zero, List.set_cons_succ]
    refine Ord.skip (i := 20) (d := 35) rfl rfl (by as_aux_lemma => kernel_rfl) (by as_aux_lemma => kernel_rfl) (by as_aux_lemma => kernel_rfl) (fun _ _ _ h => h) (by rfl) (by assumption) ?_
    simp only [List.setIfInBounds_toArray, List.set_cons_zero, List.set_cons_succ]
    refine Ord.skip (i := 21) (d := 36) rfl rfl (by as_aux_lemma => kernel_rfl) (by as_aux_lemma => kernel_rfl) (by as_aux_lemma => kernel_rfl) (fun _ _ _ h => h) (by rfl) (by assumption) ?_
    simp only [List.setIfInBounds_toArray, List.set_cons_zero, List.set_cons_succ]
    refine Ord.skip (i := 22) (d := 37) rfl rfl (by as_aux_lemma => kernel_rfl) (by as_aux_lemma => kernel_rfl) (by as_aux_lemma => kernel_rfl) (fun _ _ _ h => h) (by rfl) (by assumption) ?_
    simp only [List.setIfInBounds_toArray, List.set_cons_zero, List.set_cons_succ]
    refine Ord.skip (i := 23) (d := 38) rfl rfl (by as_aux_lemma => kernel_rfl) (by as_aux_lemma => kernel_rfl) (by as_aux_lemma => kernel_rfl) (fun _ _ _ h => h) (by rfl) (by assumption) ?_
    simp only [List.setIfInBounds_toArray, List.set_cons_zero, List.set_cons_succ]
    refine Ord.skip (i := 24) (d := 39) rfl rfl (by as_aux_lemma => kernel_rfl) (by as_aux_lemma => kernel_rfl) (by as_aux_lemma => kernel_rfl) (fun _ _ _ h => h) (by rfl) (by assumption) ?_
    simp only [List.setIfInBounds_toArray, List.set_cons_zero, List.set_cons_succ]
    refine Ord.skip (i := 25) (d := 40) rfl rfl (by as_aux_lemma => kernel_rfl) (by as_aux_lemma => kernel_rfl) (by as_aux_lemma => kernel_rfl) (fun _ _ _ h => h) (by rfl) (by assumption) ?_
    simp only [List.setIfInBounds_toArray, List.set_cons_zero, List.set_cons_succ]
    refine Ord.skip (i := 26) (d := 41) rfl rfl (by as_aux_lemma => kernel_rfl) (by as_aux_lemma => kernel_rfl) (by as_aux_lemma => kernel_rfl) (fun _ _ _ h => h) (by rfl) (by assumption) ?_
    simp only [List.setIfInBounds_toArray, List.set_cons_zero, List.set_cons_succ]
    refine Ord.skip (i := 27) (d := 42) rfl rfl (by as_aux_lemma => kernel_rfl) (by as_aux_lemma => kernel_rfl) (by as_aux_lemma => kernel_rfl) (fun _ _ _ h => h) (by rfl) (by assumption) ?_
    simp only [List.setIfInBounds_toArray, List.set_cons_zero, List.set_cons_succ]
    refine Ord.skip (i := 28) (d := 43) rfl rfl (by as_aux_lemma => kernel_rfl) (by as_aux_lemma => kernel_rfl) (by as_aux_lemma => kernel_rfl) (fun _ _ _ h => h) (by rfl) (by assumption) ?_
    simp only [List.setIfInBounds_toArray, List.set_cons_zero, List.set_cons_succ]
    refine Ord.skip (i := 29) (d := 44) rfl rfl (by as_aux_lemma => kernel_rfl) (by as_aux_lemma => kernel_rfl) (by as_aux_lemma => kernel_rfl) (fun _ _ _ h => h) (by rfl) (by assumption) ?_
    simp only [List.setIfInBounds_toArray, List.set_cons_zero, List.set_cons_succ]
    refine Ord.skip (i := 30) (d := 45) rfl rfl (by as_aux_lemma => kernel_rfl) (by as_aux_lemma => kernel_rfl) (by as_aux_lemma => kernel_rfl) (fun _ _ _ h => h) (by rfl) (by assumption) ?_
    simp only [List.setIfInBounds_toArray, List.set_cons_zero, List.set_cons_succ]
    refine Ord.take (i := 31) (d := 46) (v := .bool true) rfl rfl (by as_aux_lemma => kernel_rfl) (by as_aux_lemma => kernel_rfl) (by as_aux_lemma => kernel_rfl) (fun _ _ _ h => h) (by rfl) ?hF31 (by assumption) ?_
    case hF31 => intro wx hSw; go_simp; try with_reducible rfl
    try simp only [List.setIfInBounds_toArray, List.set_cons_zero, List.set_cons_succ]
    refine Ord.take (i := 32) (d := 47) (v := .bool true) rfl rfl (by as_aux_lemma => kernel_rfl) (by as_aux_lemma => kernel_rfl) (by as_aux_lemma => kernel_rfl) (fun _ _ _ h => h) (by rfl) ?hF32 (by assumption) ?_
    case hF32 => intro wx hSw; go_simp; try with_reducible rfl
    try simp only [List.setIfInBounds_toArray, List.set_cons_zero, List.set_cons_succ]
    refine Ord.take (i := 33) (d := 48) (v := .bool true) rfl rfl (by as_aux_lemma => kernel_rfl) (by as_aux_lemma => kernel_rfl) (by as_aux_lemma => kernel_rfl) (fun _ _ _ h => h) (by rfl) ?hF33 (by assumption) ?_
    case hF33 => intro wx hSw; go_simp; try with_reducible rfl
    try simp only [List.setIfInBounds_toArray, List.set_cons_zero, List.set_cons_succ]
    refine wpAnyH_ready (rs := [34]) (by as_aux_lemma => kernel_rfl) (by simp) (AllReadyH.cons rfl (fun K hK => ?_) AllReadyH.nil)
    go_simp
    go_simp
    go_simp
    refine (HAX.out v1 hS_v1).mono ?_
    rintro _ v2 ⟨rfl, hb_v2⟩
    have hS_v2 : Below W4.heap.size W4 v2 := Bn hS_v1 hb_v2
    clear hb_v2
    refine hK.out _ _ hS_v2 (fun _ => ?_)
    clear hK K
    try simp only [List.setIfInBounds_toArray, List.set_cons_zero, List.set_cons_succ]
    try simp only [List.setIfInBounds_toArray, List.set_cons_zero, List.set_cons_succ]
    refine Ord.take (i := 35) (d := 50) (v := .bool true) rfl rfl (by as_aux_lemma => kernel_rfl) (by as_aux_lemma => kernel_rfl) (by as_aux_lemma => kernel_rfl) (fun _ _ _ h => h) (by rfl) ?hF35 (by assumption) ?_
    case hF35 => intro wx hSw; go_simp; try with_reducible rfl
    try simp only [List.setIfInBounds_toArray, List.set_cons_zero, List.set_cons_succ]
    refine Ord.take (i := 36) (d := 8) (v := ?vF36) rfl rfl (by as_aux_lemma => kernel_rfl) (by as_aux_lemma => kernel_rfl) (by as_aux_lemma => kernel_rfl) (fun _ _ _ h => h) (by rfl) ?hF36 (by assumption) ?_
    case hF36 => intro wx hSw; go_simp; try with_reducible rfl
    try simp only [List.setIfInBounds_toArray, List.set_cons_zero, List.set_cons_succ]
    refine wpAnyH_done (by as_aux_lemma => kernel_rfl) ?_ _
    have HS9 := hid (Bn HB4.out hS_v2)
    clear hS_v0 hS_v1 hS_v2
    go_wp2
    go_ret
    exact ⟨rfl, HS9.out⟩
set_option maxRecDepth 100000 in
theorem lifted (os : Os) (started : os.Started) (H : Type) (enc : TypeId × Value → H) :
    ReturnsInHanded {} Tryd.checked os 6 .any (fun w args => (Rows.frameMeetsSpec.pre enc Tryd.prog Tryd.f6 [] false w args ∧ laidMetH Tryd.prog laidL w) ∧ sizedMet enc Tryd.prog Tryd.f6 (OpenSpec.ofChange Rows.frameMeetsSpec) false w args)
      (Rows.frameMeetsSpec.post enc Tryd.prog Tryd.f6 false true false false) := by
  refine returnsInHanded_of_change_and (C := Tryd.checked) (X := fun w _ => laidMetH Tryd.prog laidL w) (fun _ _ _ hh h => h.of_heap hh) own started (by kernel_rfl) Tryd.func6
    (ChangeSpec.witness_shaped (enc := enc) (C := Tryd.checked) (os := os) (X := fun w _ => laidMetH Tryd.prog laidL w) false (World.doorLaid Tryd.prog 400 os) #[.int .u64 0, .int .u64 0, .int .i64 0, .agg #[.int .i64 0, .int .i64 0, .int .u64 0, .int .u64 0, .int .i64 0, .slice none 0 0, .int .i64 0, .int .u64 0]] 8 rfl (World.shaped_of_RefB (by kernel_rfl) (by kernel_rfl)) (by kernel_rfl) (by kernel_rfl) (by kernel_rfl) (door_met os _)) ?_
  intro W base args ds gs before hval0 hW _ _ hL _
  have hval : ∀ (j : Nat) t v, Tryd.f6.params[j]? = some t → args[j]? = some v → Value.okWide Tryd.prog W .any base t v := hval0
  have hW' := hW
  obtain ⟨p, q, hA0, hV, rfl, _, _⟩ := hW
  have hA : DataW.TrodAll enc Tryd.prog W 0 (fun _ => true) true Tryd.f6.params.toList args.toList ds p := hA0
  rw [Tryd.params6] at hA hval
  obtain ⟨v0, vs0, d0, ds0, p0, q0, hargs, rfl, rfl, h0, r0⟩ := trodAll_cons hA
  obtain ⟨v1, vs1, d1, ds1, p1, q1, rfl, rfl, rfl, h1, r1⟩ := trodAll_cons r0
  obtain ⟨v2, vs2, d2, ds2, p2, q2, rfl, rfl, rfl, h2, r2⟩ := trodAll_cons r1
  obtain ⟨v3, vs3, d3, ds3, p3, q3, rfl, rfl, rfl, h3, r3⟩ := trodAll_cons r2
  obtain ⟨rfl, rfl, rfl⟩ := trodAll_nil r3
  obtain rfl : args = #[v0, v1, v2, v3] := by cases args; simp_all
  obtain ⟨rfl, rfl⟩ := trodVars_none hV
  have hlaid := of_laid hL
  obtain ⟨a0, rfl, rfl, rfl, w0⟩ := open_int Tryd.underlying23 (hval 0 23 v0 rfl rfl) h0
  obtain ⟨a1, rfl, rfl, rfl, w1⟩ := open_int Tryd.underlying23 (hval 1 23 v1 rfl rfl) h1
  obtain ⟨a2, rfl, rfl, rfl, w2⟩ := open_int Tryd.underlying3 (hval 2 3 v2 rfl rfl) h2
  clear hA0
  simp only [List.append_nil, List.nil_append] at hW'
  have hlt3 : ∀ x ∈ p3, x.block < W.heap.size := fun x hx => hW'.lt x (by simp [hx])
  have hk3 := h3
  obtain ⟨x3, rfl, hr3⟩ := open_frame (hval 3 25 v3 rfl rfl) h3 hlt3
  clear hval0
  refine (walk a0 w0 a1 w1 a2 w2 x3 W hlaid hr3).mono fun e W' ⟨he, hb⟩ => ?_
  subst he
  exact ⟨_, rfl, _, _, _, [] ++ [], _, [], hW', trodAll_cons_mk (shut_bool Tryd.underlying4 _) trodAll_mk0, (trodAll_cons_mk (shut_int Tryd.underlying23 w0) (trodAll_cons_mk (shut_int Tryd.underlying23 w1) (trodAll_cons_mk (shut_int Tryd.underlying3 w2) (trodAll_cons_mk (Below.trod Tryd.laidOut (by kernel_rfl) (of_decide_eq_true (by kernel_rfl)) hk3 hb hlt3) trodAll_mk0)))), rfl, hb.frame _, fun h => by cases h⟩

theorem over : Rows.frameMeetsRow.holds Tryd.pinned (OpenSpec.ofChange Rows.frameMeetsSpec) :=
  OpenClaim.holds_of_wide 6 Tryd.f6 rfl rfl rfl rfl rfl rfl rfl ⟨rfl, rfl, rfl, rfl, rfl⟩ rfl rfl rfl rfl rfl (by kernel_rfl) Tryd.func6 (by kernel_rfl)
    (of_decide_eq_true (by kernel_rfl)) (by unfold Func.isWrapper; first | (rw [if_pos (by decide +kernel)]; kernel_rfl) | (rw [if_neg (by decide +kernel)]; exact ⟨rfl, rfl⟩))
    (fun os started H enc _ => lifted os started H enc)

theorem card : Rows.FrameMeetsCardSaid :=
  Claim7.holds_tied_plain_at .later [] [.data, .data] true (true, "ea9b218ad058a5205faedac6b445c46511f392673c5bacec3d2a23554936d6b6") true
    over (fun _ h => by cases h) (by kernel_rfl) (fun _ h => by cases h) frameMeets_row_tie rfl ⟨rfl, rfl⟩ (by kernel_rfl) rfl
    (fun f fn hf hfn => by
      obtain rfl : f = 6 := Option.some.inj ((show Tryd.prog.funcNamed "saltern/salternlaw18.FrameMeets" = some 6 by kernel_rfl).symm.trans hf) |>.symm
      obtain rfl : fn = Tryd.f6 := (Option.some.inj (Tryd.func6.symm.trans hfn)).symm
      exact ⟨by kernel_rfl, fun j t ht => by
        rw [Tryd.params6] at ht
        have hm : t ∈ [23, 23, 3, 25] := by simpa using Array.mem_of_getElem? ht
        have hall : ([23, 23, 3, 25].all fun u => !Tryd.prog.wantsStandIn u) = true := by kernel_rfl
        exact (show Tryd.prog.wantsStandIn t = false by simpa using List.all_eq_true.1 hall t hm)⟩)
    (by kernel_rfl)

end Go.Proofs.YtgnjicpmfpgdeaaDoor.frameMeets
namespace Go.Proofs.YtgnjicpmfpgdeaaDoor
theorem frameMeets_holds : Rows.FrameMeetsCardSaid := frameMeets.card
#print axioms frameMeets_holds
end Go.Proofs.YtgnjicpmfpgdeaaDoor
