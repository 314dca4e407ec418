/-
  '==' of two blocks.
-/
import Derived.Test.YtldgiimkkgmgaaaPart02
import Derived.Laws.Cover2
namespace Go.Proofs.Ytldgiimkkgmgaaa
open Go.RowKit

theorem arr_at {b : List Int} {i : Nat} (h : i < b.length) : (bytesV b).toArray[i]? = some (.int .u8 (b.getD i 0)) := by
  rw [List.getElem?_toArray, bytesV, List.getElem?_map, List.getElem?_eq_getElem h]
  simp [List.getD, List.getElem?_eq_getElem h]
theorem eq_items_any (d : Nat) (l m : List Int) (w : World) : ∀ is : List Nat, (∀ i ∈ is, i < l.length ∧ i < m.length) → (Op.eqItems (d + 1) 5 1 (bytesV l).toArray (bytesV m).toArray is).run Try.prog w = .ok (is.all fun i => l.getD i 0 == m.getD i 0) w
  | [], _ => rfl
  | i :: is, h => by
    have hi := h i (by simp)
    have ih := eq_items_any d l m w is (fun j hj => h j (by simp [hj]))
    have ha : (isAgg 5).run Try.prog w = .ok false w := by
      unfold isAgg
      rw [Sem.run_bind, run_underlying Try.underlying5 w]
      rfl
    have hp : ∀ q : List Int, i < q.length → (part 5 (bytesV q).toArray (i * 1)).run Try.prog w = .ok (.int .u8 (q.getD i 0)) w := by
      intro q hq
      have := arr_at hq
      generalize (bytesV q).toArray = A at *
      unfold part
      simp [Sem.run_bind, ha, this]
    simp only [Op.eqItems, Sem.run_bind, hp l hi.1, hp m hi.2, Result.andThen_ok, run_equalIn_int w d 5 .u8 .u8 _ _ Try.underlying5, List.all_cons]
    generalize l.getD i 0 = x at *
    generalize m.getD i 0 = y at *
    by_cases hq : x = y
    · subst hq
      simpa using ih
    · simp [hq]
theorem eq73 (l m : List Int) (hl : Blk l) (hm : Blk m) (w : World) : (Op.equalIn 10000 73 (.agg (bytesV l).toArray) (.agg (bytesV m).toArray)).run Try.prog w = .ok (decide (l = m)) w := by
  have h5 : ∃ i, Try.prog.info? 5 = some i := by
    have := Try.size5
    cases hi : Try.prog.info? 5 with
    | none => rw [hi] at this; cases this
    | some i => exact ⟨i, rfl⟩
  obtain ⟨i, hi⟩ := h5
  have h := eq_items_any 9998 l m w (List.range 512) (fun j hj => by rw [hl.len, hm.len]; have := List.mem_range.1 hj; exact ⟨this, this⟩)
  have e : ((List.range 512).all fun i => l.getD i 0 == m.getD i 0) = decide (l = m) := by
    by_cases hq : l = m
    · subst hq
      simp
    · rw [decide_eq_false hq]
      rw [Bool.eq_false_iff]
      intro ha
      apply hq
      refine List.ext_getElem (hl.len.trans hm.len.symm) (fun j h1 h2 => ?_)
      have := List.all_eq_true.1 ha j (List.mem_range.2 (by rw [hl.len] at h1; exact h1))
      simpa [List.getD, List.getElem?_eq_getElem h1, List.getElem?_eq_getElem h2] using this
  rw [e] at h
  rw [show (10000 : Nat) = 9999 + 1 from rfl, run_equalIn_array w 9999 _ _ Try.underlying73 hi, Try.cells5]
  exact h
theorem guard73 : Try.prog.eqGuardType Try.prog.depth 73 = false := by kernel_rfl
end Go.Proofs.Ytldgiimkkgmgaaa
/-
  What lasts is set: device.hold and device.do.
-/
namespace Go.Proofs.Ytldgiimkkgmgaaa
open Go.RowKit

/-- Only block g was turned, of what there was. -/
structure But1 (g : Nat) (w w' : World) : Prop where
  bel : Below 0 w w'
  same : ∀ i, i < w.heap.size → i ≠ g → w'.heap[i]? = w.heap[i]?
theorem But1.of_below {g : Nat} {w w' : World} (h : Below w.heap.size w w') : But1 g w w' := ⟨h.mono (Nat.zero_le _), fun i hi _ => h.block i hi⟩
theorem But1.trans {g : Nat} {a b c : World} (h : But1 g a b) (k : But1 g b c) : But1 g a c := ⟨h.bel.trans k.bel, fun i hi hn => (k.same i (Nat.lt_of_lt_of_le hi h.bel.size) hn).trans (h.same i hi hn)⟩
theorem But1.map {g : Nat} {w w' : World} (h : w.mapTurned w' g) : But1 g w w' := by
  have hg := h.grown
  exact ⟨⟨hg.os, hg.tape, hg.output, hg.size, fun i hi => absurd hi (Nat.not_lt_zero _)⟩, fun i _ hne => mapTurned_other h hne⟩
theorem But1.drew {g : Nat} {w w' : World} (h : But1 g w w') : But1 g w w'.drew := ⟨h.bel.drew, h.same⟩
theorem But1.cells {g : Nat} {w w' : World} (h : But1 g w w') (hm : ∃ es ck, w.heap[g]? = some (.map es ck)) {i : Nat} {cs : Array Value} {t : TypeId} {fr : Nat × Nat} (hi : w.heap[i]? = some (.cells cs t fr)) : w'.heap[i]? = some (.cells cs t fr) := by
  obtain ⟨es, ck, hm⟩ := hm
  exact (h.same i (Array.getElem?_eq_some_iff.1 hi).1 (by rintro rfl; rw [hi] at hm; cases hm)).trans hi
theorem But1.fr {g base : Nat} {w w' : World} (h : But1 g w w') (hm : ∃ es ck, w.heap[g]? = some (.map es ck)) (hb : base ≤ g) (hs : base ≤ w.heap.size) : Fr base w w' :=
  ⟨⟨h.bel.os, h.bel.tape, h.bel.output, h.bel.size, fun i hi => h.same i (by omega) (by omega)⟩, fun _ _ _ _ _ _ hi => h.cells hm hi⟩
theorem build_z (w : World) : (Instr.build 73 #[]).run Try.prog w = .ok (.agg (bytesV z512).toArray) w := by
  have hz : (zeroValue 73).run Try.prog w = .ok (.agg (bytesV z512).toArray) w := Try.zero73 w
  generalize (bytesV z512).toArray = Z at hz
  unfold Instr.build
  simp only [Sem.run_bind, hz, run_underlying Try.underlying73, Result.andThen_ok]
  simp [Instr.fill, Value.cells, go_sem]
theorem wpList_build_none {P : Program} {ops : Array Oper} {rest : List Oper} {o : Oper} {a : Act} {w : World} {Q : Exit → Act → World → Prop} (hg : o.guard = none) (t : TypeId) (ho : o.op = .build t #[])
    (v : Value) (hr : (Instr.build t #[]).run P w = .ok v w) (h : wpList P ops Q rest (a.put o.dst v) w) : wpList P ops Q (o :: rest) a w :=
  wpList_plain hg fun _ hK => by
    unfold Oper.wp execOp
    simp only [ho, List.map_toArray, List.map_nil, Sem.run_bind, hr, Result.andThen_ok]
    exact hK _ _ h
def HolPost (gl N : Nat) (L : Int → List Int) (i : Int) (b : List Int) (w : World) (e : Ending) (w' : World) : Prop := (∃ x, e = .returned x) ∧ Ml w' gl (N + 1) (setI L i b) ∧ But1 gl w w'
set_option maxHeartbeats 6400000 in
set_option maxRecDepth 100000 in
theorem hold_ok (gv gl N : Nat) (size : Int) (v mn : Value) (fuse : Int) (dn : Bool) (L : Int → List Int) (i : Int) (b : List Int) (w : World) (hd : Dc w gv size (.map (some gl)) v mn fuse dn) (hm : Ml w gl N L) (hi : okI i) (hb : Blk b) (hN : N + 1 ≤ 1000000) :
    Calls Try.prog 45 #[.pointer (some ⟨gv, 0, none⟩), .int .i64 i, .agg (bytesV b).toArray] w (HolPost gl N L i b w) := by
  unfold HolPost
  have hB := bel_alloc w (.cells (bytesV b).toArray 73)
  have HE := hid (heap_new w (.cells (bytesV b).toArray 73))
  have HD : Hid (Dc (w.alloc (.cells (bytesV b).toArray 73)) gv size (.map (some gl)) v mn fuse dn) := (hB.block gv hd.lt).trans hd
  have HM := hid (hm.later (hB.block gl hm.lt) (Nat.le_refl _))
  have HB := hid hB
  have hbz := build_z (w.alloc (.cells (bytesV b).toArray 73))
  have hq := eq73 b z512 hb blk_z
  have hgd := guard73
  have hbl : (bytesV b).toArray.size = 512 := by rw [List.size_toArray, bytesV_len]; exact hb.len
  have hz3 : (Try.prog.info? 73).map (·.size) = some (bytesV b).toArray.size := by rw [hbl]; exact Try.size73
  obtain ⟨_, c1, _, _, _, _⟩ := HD.out.cells
  by_cases hbz0 : b = z512
  · rw [decide_eq_true hbz0] at hq
    have HDL : Hid (∃ W', (Builtin.delete_ #[59, 3] 0 #[.map (some gl), .int .i64 i]).run Try.prog (w.alloc (.cells (bytesV b).toArray 73)) = .ok (.tuple #[]) W' ∧ Ml W' gl N (setI L i b) ∧ (w.alloc (.cells (bytesV b).toArray 73)).mapTurned W' gl) := by
      obtain ⟨W', h1, h2, h3⟩ := HM.out.del hi 0
      exact ⟨W', h1, by rw [show b = z512 from hbz0]; exact h2, h3⟩
    generalize (bytesV z512).toArray = Z at *
    generalize (bytesV b).toArray = X at *
    obtain ⟨W', hdel, hml, hmt⟩ := HDL.out
    have HML := hid (hml.later rfl (Nat.le_succ _))
    have HBT := hid ((But1.of_below (g := gl) hB).trans (But1.map hmt))
    clear HDL hml hmt hB hd hm HD HM hbz0 hbl
    go_enter Try.func45, Try.ntmps45
    go_wp2_with (first
      | refine wpList_load_row rfl 73 _ rfl w.heap.size rfl 73 X (0, 0) _ HE.out Try.underlying73 rfl hz3 ?_
      | refine wpList_build_none rfl 73 rfl (.agg Z) hbz ?_)
    refine bodyPost_ret (results_none rfl _ _ _) rfl ?_
    exact ⟨⟨_, rfl⟩, HML.out, HBT.out⟩
  · rw [decide_eq_false hbz0] at hq
    have HPT : Hid (∃ W', (Instr.mapUpdate 59 (.map (some gl)) (.int .i64 i) (.agg (bytesV b).toArray)).run Try.prog (w.alloc (.cells (bytesV b).toArray 73)).drew = .ok () W' ∧ Ml W' gl (N + 1) (setI L i b) ∧ (w.alloc (.cells (bytesV b).toArray 73)).drew.mapTurned W' gl) :=
      Ml.put (W := (w.alloc (.cells (bytesV b).toArray 73)).drew) (show Ml _ gl N L from HM.out) hi (by unfold maxLen; omega) b
    generalize (bytesV z512).toArray = Z at *
    generalize (bytesV b).toArray = X at *
    have HS : Hid (Dc (w.alloc (.cells X 73)).drew gv size (.map (some gl)) v mn fuse dn ∧ (w.alloc (.cells X 73)).drew.heap[w.heap.size]? = some (.cells X 73 (0, 0))) := ⟨HD.out, HE.out⟩
    have HBD : Hid (Below w.heap.size w (w.alloc (.cells X 73)).drew) := hB.drew
    clear hB hd hm HM hbz0 hbl HD
    go_enter Try.func45, Try.ntmps45
    go_wp2_with (first
      | refine wpList_load_row rfl 73 _ rfl w.heap.size rfl 73 X (0, 0) _ HE.out Try.underlying73 rfl hz3 ?_
      | refine wpList_build_none rfl 73 rfl (.agg Z) hbz ?_)
    refine OrdE.region (fun W => Dc W gv size (.map (some gl)) v mn fuse dn ∧ W.heap[w.heap.size]? = some (.cells X 73 (0, 0))) 6 (by kernel_rfl) HS.out (fun hSS => ?_)
    clear HE HB c1 hbz HS
    generalize (w.alloc (.cells X 73)).drew = v0 at *
    obtain ⟨w0, hw0⟩ : ∃ n, n = w.heap.size := ⟨_, rfl⟩
    rw [← hw0] at hSS ⊢
    clear hw0
    refine OrdE.take (i := 0) (d := 14) (v := ?va0) rfl rfl rfl (by as_aux_lemma => kernel_rfl) (by as_aux_lemma => kernel_rfl) (by as_aux_lemma => kernel_rfl) (by as_aux_lemma => kernel_rfl) (fun _ _ _ h => h) (by rfl) ?ha0 (by assumption) ?_
    case ha0 => intro w hSw; go_simp; try with_reducible rfl
    simp only [List.setIfInBounds_toArray, List.set_cons_zero, List.set_cons_succ]
    refine OrdE.take (i := 1) (d := 15) (v := ?va1) rfl rfl rfl (by as_aux_lemma => kernel_rfl) (by as_aux_lemma => kernel_rfl) (by as_aux_lemma => kernel_rfl) (by as_aux_lemma => kernel_rfl) (fun _ _ _ h => h) (by rfl) ?ha1 (by assumption) ?_
    case ha1 => intro w hSw; go_simp; try with_reducible rfl
    simp only [List.setIfInBounds_toArray, List.set_cons_zero, List.set_cons_succ]
    refine OrdE.take (i := 2) (d := 16) (v := ?va2) rfl rfl rfl (by as_aux_lemma => kernel_rfl) (by as_aux_lemma => kernel_rfl) (by as_aux_lemma => kernel_rfl) (by as_aux_lemma => kernel_rfl) (fun _ _ _ h => h) (by rfl) ?ha2 (by assumption) ?_
    case ha2 => intro w hSw; go_simp; try with_reducible rfl
    simp only [List.setIfInBounds_toArray, List.set_cons_zero, List.set_cons_succ]
    refine OrdE.take (i := 3) (d := 17) (v := .map (some gl)) rfl rfl rfl (by as_aux_lemma => kernel_rfl) (by as_aux_lemma => kernel_rfl) (by as_aux_lemma => kernel_rfl) (by as_aux_lemma => kernel_rfl) (fun _ _ _ h => h) (by rfl) ?ha3 (by assumption) ?_
    case ha3 => intro w hSw; obtain ⟨q0, q1, q2, q3, q4, q5⟩ := hSw.1.cells; go_simp; try with_reducible rfl
    simp only [List.setIfInBounds_toArray, List.set_cons_zero, List.set_cons_succ]
    refine OrdE.take (i := 4) (d := 18) (v := ?va4) rfl rfl rfl (by as_aux_lemma => kernel_rfl) (by as_aux_lemma => kernel_rfl) (by as_aux_lemma => kernel_rfl) (by as_aux_lemma => kernel_rfl) (fun _ _ _ h => h) (by rfl) ?ha4 (by assumption) ?_
    case ha4 => intro w hSw; go_simp; try with_reducible rfl
    simp only [List.setIfInBounds_toArray, List.set_cons_zero, List.set_cons_succ]
    refine OrdE.take (i := 5) (d := 19) (v := .agg X) rfl rfl rfl (by as_aux_lemma => kernel_rfl) (by as_aux_lemma => kernel_rfl) (by as_aux_lemma => kernel_rfl) (by as_aux_lemma => kernel_rfl) (fun _ _ _ h => h) (by rfl) ?ha5 (by assumption) ?_
    case ha5 => intro w hSw; have ql := run_loadVar_row (P := Try.prog) w w0 73 73 X (0, 0) _ hSw.2 Try.underlying73 rfl hz3; exact exec_load 73 (.tmp 5) rfl w0 0 rfl ql
    simp only [List.setIfInBounds_toArray, List.set_cons_zero, List.set_cons_succ]
    refine OrdE.one (i := 6) (by as_aux_lemma => kernel_rfl) rfl (fun K hK => ?_)
    rw [if_pos (by rfl)]
    obtain ⟨W', hput, hml, hmt⟩ := HPT.out
    refine wp_mapup 59 (.tmp 17) (.tmp 18) (.tmp 19) rfl _ _ _ rfl rfl rfl hput ?_
    refine hK.out _ _ (fun h => absurd rfl h) ?_
    clear hK K
    try simp only [List.setIfInBounds_toArray, List.set_cons_zero, List.set_cons_succ]
    refine OrdE.done (by as_aux_lemma => kernel_rfl) ?_ _
    have HML := hid hml
    have HBT := hid ((But1.of_below (g := gl) HBD.out).trans (But1.map hmt))
    clear HPT hml hmt hput hSS HBD
    go_wp2_with fail
    go_end0
    exact ⟨⟨_, rfl⟩, HML.out, HBT.out⟩
end Go.Proofs.Ytldgiimkkgmgaaa
/-
  The first bytes of a write are made to last: device.do.
-/
namespace Go.Proofs.Ytldgiimkkgmgaaa
open Go.RowKit

/-- The first n bytes of a write over a block. -/
def tearL (n : Nat) (b old : List Int) : List Int := b.take n ++ old.drop n
theorem tear_blk {n : Nat} {b old : List Int} (hn : n ≤ 512) (hb : Blk b) (ho : Blk old) : Blk (tearL n b old) := by
  refine ⟨?_, fun z hz => ?_⟩
  · have h1 := hb.len
    have h2 := ho.len
    simp only [tearL, List.length_append, List.length_take, List.length_drop]
    omega
  · rcases List.mem_append.1 hz with h | h
    · exact hb.fits z (List.mem_of_mem_take h)
    · exact ho.fits z (List.mem_of_mem_drop h)
def DoPost (gl N : Nat) (L : Int → List Int) (x : Int × List Int) (n : Nat) (w : World) (e : Ending) (w' : World) : Prop := (∃ y, e = .returned y) ∧ Ml w' gl (N + 1) (setI L x.1 (tearL n x.2 (L x.1))) ∧ But1 gl w w'
theorem do_copy {w : World} {g4 g6 n : Nat} {x : Int × List Int} {old : List Int} (h4 : w.heap[g4]? = some (.cells (opC x).toArray 83 (0, 0))) (h6 : w.heap[g6]? = some (.cells (bytesV old).toArray 73 (0, 0))) (hb : Blk x.2) (ho : Blk old) (hn : n ≤ 512) (ty : TypeId) :
    (Builtin.copy_ #[33, 33] ty #[.slice (some ⟨g6, 0, none⟩) n 512, .slice (some ⟨g4, 1, none⟩) n 512]).run Try.prog w = .ok (.int .i64 (n : Int)) (w.setRow g6 (bytesV (tearL n x.2 old)).toArray) := by
  have hl := hb.len
  have hlt : (x.2.take n).length = n := by rw [List.length_take]; omega
  have hr : Ri w .u8 (some ⟨g4, 1, none⟩) 512 (x.2.take n) := by
    refine ⟨by omega, by unfold maxLen; omega, fun _ => ⟨g4, 1, rfl, (Array.getElem?_eq_some_iff.1 h4).1, fun j hj => ?_⟩, wf_of (fun z hz => hb.fits z (List.mem_of_mem_take hz))⟩
    have hj2 : j < x.2.length := by omega
    rw [Joins.cell_of_block h4 (1 + j), List.getElem?_toArray, opC, Nat.add_comm, List.getElem?_cons_succ, bytesV, List.getElem?_map, List.getElem?_eq_getElem hj2]
    simp [List.getD, List.getElem?_take_of_lt (show j < n by omega), List.getElem?_eq_getElem hj2]
  have h := copy_to (o := 0) (n := n) (dc := 512) h6 hr (by rw [List.size_toArray, bytesV_len, ho.len]; omega) ty
  rw [hlt, Nat.min_self, List.take_zero, List.nil_append, Nat.zero_add, List.take_take, Nat.min_self] at h
  rw [h]
  congr 3
  unfold tearL bytesV
  rw [List.map_append, List.map_drop]
set_option maxHeartbeats 6400000 in
set_option maxRecDepth 100000 in
theorem do_ok (gv gl N : Nat) (size : Int) (v mn : Value) (fuse : Int) (dn : Bool) (L : Int → List Int) (x : Int × List Int) (n : Nat) (w : World) (hd : Dc w gv size (.map (some gl)) v mn fuse dn) (hm : Ml w gl N L) (hi : okI x.1) (hb : Blk x.2) (hL : ∀ i, Blk (L i)) (hn : n ≤ 512) (hN : N + 1 ≤ 1000000) :
    Calls Try.prog 39 #[.pointer (some ⟨gv, 0, none⟩), .agg (opC x).toArray, .int .i64 (n : Int)] w (DoPost gl N L x n w) := by
  unfold DoPost
  have hB := bel_alloc w (.cells (opC x).toArray 83)
  have HE := hid (heap_new w (.cells (opC x).toArray 83))
  have HD : Hid (Dc (w.alloc (.cells (opC x).toArray 83)) gv size (.map (some gl)) v mn fuse dn) := (hB.block gv hd.lt).trans hd
  have HM := hid (hm.later (hB.block gl hm.lt) (Nat.le_refl _))
  have HB := hid hB
  have HI := hid hi
  have HBX := hid hb
  have HBO := hid (hL x.1)
  have hz : ∀ w, (zeroValue 73).run Try.prog w = .ok (.agg (bytesV z512).toArray) w := Try.zero73
  have hzl : (bytesV z512).toArray.size = 512 := by rw [List.size_toArray, bytesV_len]; exact blk_z.len
  generalize (bytesV z512).toArray = Z at hz hzl
  have HC0 : Hid (∀ W : World, W.heap[w.heap.size]? = some (.cells (opC x).toArray 83 (0, 0)) → W.cell? ⟨w.heap.size, 0, none⟩ = some (.int .i64 x.1)) := fun W h => (Joins.cell_of_block h 0).trans rfl
  have HCP : Hid (∀ (W : World) (g6 : Nat), W.heap[w.heap.size]? = some (.cells (opC x).toArray 83 (0, 0)) → W.heap[g6]? = some (.cells (bytesV (L x.1)).toArray 73 (0, 0)) → (Builtin.copy_ #[33, 33] 3 #[.slice (some ⟨g6, 0, none⟩) n 512, .slice (some ⟨w.heap.size, 1, none⟩) n 512]).run Try.prog W = .ok (.int .i64 (n : Int)) (W.setRow g6 (bytesV (tearL n x.2 (L x.1))).toArray)) := fun W g6 h4 h6 => do_copy h4 h6 hb (hL x.1) hn 3
  have HHO : Hid (∀ W, Dc W gv size (.map (some gl)) v mn fuse dn → Ml W gl N L → Calls Try.prog 45 #[.pointer (some ⟨gv, 0, none⟩), .int .i64 x.1, .agg (bytesV (tearL n x.2 (L x.1))).toArray] W (HolPost gl N L x.1 (tearL n x.2 (L x.1)) W)) := fun W h1 h2 => hold_ok gv gl N size v mn fuse dn L x.1 _ W h1 h2 hi (tear_blk hn hb (hL x.1)) hN
  unfold HolPost at HHO
  have hbl : (bytesV (L x.1)).toArray.size = 512 := by rw [List.size_toArray, bytesV_len]; exact (hL x.1).len
  have hba := blk_all (L x.1)
  have hsz3 : (Try.prog.info? 73).map (·.size) = some (bytesV (L x.1)).toArray.size := by rw [hbl]; exact Try.size73
  have hzo : Z.size = (bytesV (L x.1)).toArray.size := by rw [hzl, hbl]
  have htl : (Try.prog.info? 73).map (·.size) = some (bytesV (tearL n x.2 (L x.1))).toArray.size := by rw [List.size_toArray, bytesV_len, (tear_blk hn hb (hL x.1)).len]; exact Try.size73
  have HLK : Hid (∀ W, Ml W gl N L → (Instr.lookup 59 (.map (some gl)) (.int .i64 x.1) false).run Try.prog W = .ok (.agg (bytesV (L x.1)).toArray) W) := fun W h => h.look hi
  have HS : Hid (Dc (w.alloc (.cells (opC x).toArray 83)).drew gv size (.map (some gl)) v mn fuse dn ∧ (w.alloc (.cells (opC x).toArray 83)).drew.heap[w.heap.size]? = some (.cells (opC x).toArray 83 (0, 0)) ∧ Ml (w.alloc (.cells (opC x).toArray 83)).drew gl N L) := ⟨HD.out, HE.out, HM.out⟩
  have HBD : Hid (Below w.heap.size w (w.alloc (.cells (opC x).toArray 83)).drew) := hB.drew
  have hnz : (n : Int) ≤ 512 := by omega
  have hn0 : (0 : Int) ≤ (n : Int) := by omega
  obtain ⟨xi, xb⟩ := x
  dsimp only at *
  generalize setI L xi (tearL n xb (L xi)) = L' at *
  generalize (opC (xi, xb)).toArray = C4 at *
  generalize bytesV (tearL n xb (L xi)) = TT at *
  generalize bytesV (L xi) = OO at *
  clear hB hd hm hi hb hL HE HD HM HB hbl hzl
  go_enter Try.func39, Try.ntmps39
  go_wp2_with fail
  obtain ⟨g4, hg4⟩ : ∃ g, g = w.heap.size := ⟨_, rfl⟩
  have HG4 := hid hg4
  rw [← hg4] at HC0 HCP HS ⊢
  clear hg4
  refine OrdE.region (fun W => Dc W gv size (.map (some gl)) v mn fuse dn ∧ W.heap[g4]? = some (.cells C4 83 (0, 0)) ∧ Ml W gl N L) 8 (by kernel_rfl) HS.out (fun hSS => ?_)
  clear HS
  generalize (w.alloc (.cells C4 83)).drew = v0 at *
  refine OrdE.take (i := 0) (d := 7) (v := ?va0) rfl rfl rfl (by as_aux_lemma => kernel_rfl) (by as_aux_lemma => kernel_rfl) (by as_aux_lemma => kernel_rfl) (by as_aux_lemma => kernel_rfl) (fun _ _ _ h => h) (by rfl) ?ha0 (by assumption) ?_
  case ha0 => intro w hSw; go_simp; try with_reducible rfl
  simp only [List.setIfInBounds_toArray, List.set_cons_zero, List.set_cons_succ]
  refine OrdE.take (i := 1) (d := 8) (v := ?va1) rfl rfl rfl (by as_aux_lemma => kernel_rfl) (by as_aux_lemma => kernel_rfl) (by as_aux_lemma => kernel_rfl) (by as_aux_lemma => kernel_rfl) (fun _ _ _ h => h) (by rfl) ?ha1 (by assumption) ?_
  case ha1 => intro w hSw; go_simp; try with_reducible rfl
  simp only [List.setIfInBounds_toArray, List.set_cons_zero, List.set_cons_succ]
  refine OrdE.take (i := 2) (d := 9) (v := ?va2) rfl rfl rfl (by as_aux_lemma => kernel_rfl) (by as_aux_lemma => kernel_rfl) (by as_aux_lemma => kernel_rfl) (by as_aux_lemma => kernel_rfl) (fun _ _ _ h => h) (by rfl) ?ha2 (by assumption) ?_
  case ha2 => intro w hSw; go_simp; try with_reducible rfl
  simp only [List.setIfInBounds_toArray, List.set_cons_zero, List.set_cons_succ]
  refine OrdE.take (i := 3) (d := 10) (v := .map (some gl)) rfl rfl rfl (by as_aux_lemma => kernel_rfl) (by as_aux_lemma => kernel_rfl) (by as_aux_lemma => kernel_rfl) (by as_aux_lemma => kernel_rfl) (fun _ _ _ h => h) (by rfl) ?ha3 (by assumption) ?_
  case ha3 => intro w hSw; obtain ⟨q0, q1, q2, q3, q4, q5⟩ := hSw.1.cells; go_simp; try with_reducible rfl
  simp only [List.setIfInBounds_toArray, List.set_cons_zero, List.set_cons_succ]
  refine OrdE.take (i := 4) (d := 11) (v := ?va4) rfl rfl rfl (by as_aux_lemma => kernel_rfl) (by as_aux_lemma => kernel_rfl) (by as_aux_lemma => kernel_rfl) (by as_aux_lemma => kernel_rfl) (fun _ _ _ h => h) (by rfl) ?ha4 (by assumption) ?_
  case ha4 => intro w hSw; go_simp; try with_reducible rfl
  simp only [List.setIfInBounds_toArray, List.set_cons_zero, List.set_cons_succ]
  refine OrdE.take (i := 5) (d := 12) (v := .int .i64 xi) rfl rfl rfl (by as_aux_lemma => kernel_rfl) (by as_aux_lemma => kernel_rfl) (by as_aux_lemma => kernel_rfl) (by as_aux_lemma => kernel_rfl) (fun _ _ _ h => h) (by rfl) ?ha5 (by assumption) ?_
  case ha5 => intro w hSw; have q6 := HC0.out w hSw.2.1; go_simp; try with_reducible rfl
  simp only [List.setIfInBounds_toArray, List.set_cons_zero, List.set_cons_succ]
  refine OrdE.take (i := 6) (d := 13) (v := .agg OO.toArray) rfl rfl rfl (by as_aux_lemma => kernel_rfl) (by as_aux_lemma => kernel_rfl) (by as_aux_lemma => kernel_rfl) (by as_aux_lemma => kernel_rfl) (fun _ _ _ h => h) (by rfl) ?ha6 (by assumption) ?_
  case ha6 => intro w hSw; exact exec_lookup 59 (.tmp 10) (.tmp 12) false rfl _ _ rfl rfl (HLK.out w hSw.2.2)
  simp only [List.setIfInBounds_toArray, List.set_cons_zero, List.set_cons_succ]
  refine OrdE.one (i := 7) (by as_aux_lemma => kernel_rfl) rfl (fun K hK => ?_)
  rw [if_pos (by rfl)]
  refine wp_alloc 73 rfl Z (hz v0) ?_
  have hA : Below v0.heap.size v0 (v0.alloc (.cells Z 73)) := bel_alloc v0 _
  have hS7 : Dc (v0.alloc (.cells Z 73)) gv size (.map (some gl)) v mn fuse dn ∧ (v0.alloc (.cells Z 73)).heap[g4]? = some (.cells C4 83 (0, 0)) ∧ Ml (v0.alloc (.cells Z 73)) gl N L := ⟨(hA.block gv hSS.1.lt).trans hSS.1, (hA.block g4 (Array.getElem?_eq_some_iff.1 hSS.2.1).1).trans hSS.2.1, hSS.2.2.later (hA.block gl hSS.2.2.lt) (Nat.le_refl _)⟩
  refine hK.out _ _ (fun _ => hS7) ?_
  clear hK K
  try refine OrdE.put (d := 6) rfl ?_
  try simp only [List.setIfInBounds_toArray, List.set_cons_zero, List.set_cons_succ]
  have HE6 := hid (heap_new v0 (.cells Z 73))
  have HRW := hid (World.setRow_alloc_new v0 Z OO.toArray 73)
  have HA2 := hid (bel_alloc v0 (.cells OO.toArray 73))
  have HE7 := hid (heap_new v0 (.cells OO.toArray 73))
  have HS8 : Hid (Dc (v0.alloc (.cells OO.toArray 73)) gv size (.map (some gl)) v mn fuse dn ∧ (v0.alloc (.cells OO.toArray 73)).heap[g4]? = some (.cells C4 83 (0, 0)) ∧ Ml (v0.alloc (.cells OO.toArray 73)) gl N L) := ⟨(HA2.out.block gv hSS.1.lt).trans hSS.1, (HA2.out.block g4 (Array.getElem?_eq_some_iff.1 hSS.2.1).1).trans hSS.2.1, hSS.2.2.later (HA2.out.block gl hSS.2.2.lt) (Nat.le_refl _)⟩
  clear hSS hA hS7
  refine OrdE.one (i := 8) (by as_aux_lemma => kernel_rfl) rfl (fun K hK => ?_)
  rw [if_pos (by rfl)]
  refine wp_store_row 73 (.tmp 6) (.tmp 13) rfl v0.heap.size OO.toArray rfl rfl 73 Z HE6.out hsz3 hzo hba ?_
  rw [HRW.out]
  refine hK.out _ _ (fun h => absurd rfl h) ?_
  clear hK K HRW HE6
  try simp only [List.setIfInBounds_toArray, List.set_cons_zero, List.set_cons_succ]
  refine OrdE.done (by as_aux_lemma => kernel_rfl) ?_ _
  obtain ⟨g6, hg6⟩ : ∃ g, g = v0.heap.size := ⟨_, rfl⟩
  have HG6 := hid hg6
  rw [← hg6] at HE7 ⊢
  clear hg6
  have HBE := hid (Bn HBD.out HA2.out)
  have HN6 : Hid (g4 ≠ g6) := by
    rintro rfl
    have h1 := HS8.out.2.1
    rw [HE7.out] at h1
    simp at h1
  have HV0 : Hid (w.heap.size ≤ g6) := by rw [HG6.out]; exact HBD.out.size
  clear HBD HA2
  generalize v0.alloc (.cells OO.toArray 73) = v1 at *
  go_wp2_with fail
  refine wp_region_held_drew (S := fun _ => True) (by kernel_rfl) trivial (fun hS0 => ?_)
  have HS9 : Hid (Dc v1.drew gv size (.map (some gl)) v mn fuse dn ∧ v1.drew.heap[g4]? = some (.cells C4 83 (0, 0)) ∧ Ml v1.drew gl N L) := HS8.out
  have HE9 : Hid (v1.drew.heap[g6]? = some (.cells OO.toArray 73 (0, 0))) := HE7.out
  have HB9 : Hid (Below w.heap.size w v1.drew) := HBE.out.drew
  clear HS8 HE7 HBE
  generalize v1.drew = v2 at *
  have hcp := HCP.out v2 g6 HS9.out.2.1 HE9.out
  refine Ord.take (i := 0) (d := 14) (v := ?vb0) rfl rfl (by as_aux_lemma => kernel_rfl) (by as_aux_lemma => kernel_rfl) (by as_aux_lemma => kernel_rfl) (fun _ _ _ h => h) (by rfl) ?hb0 (by assumption) ?_
  case hb0 => intro w hSw; go_simp; try with_reducible rfl
  simp only [List.setIfInBounds_toArray, List.set_cons_zero, List.set_cons_succ]
  refine Ord.take (i := 1) (d := 15) (v := .slice (some ⟨g6, 0, none⟩) n 512) rfl rfl (by as_aux_lemma => kernel_rfl) (by as_aux_lemma => kernel_rfl) (by as_aux_lemma => kernel_rfl) (fun _ _ _ h => h) (by rfl) ?hb1 (by assumption) ?_
  case hb1 => intro w hSw; go_simp; try with_reducible rfl
  simp only [List.setIfInBounds_toArray, List.set_cons_zero, List.set_cons_succ]
  refine Ord.take (i := 2) (d := 16) (v := ?vb2) rfl rfl (by as_aux_lemma => kernel_rfl) (by as_aux_lemma => kernel_rfl) (by as_aux_lemma => kernel_rfl) (fun _ _ _ h => h) (by rfl) ?hb2 (by assumption) ?_
  case hb2 => intro w hSw; go_simp; try with_reducible rfl
  simp only [List.setIfInBounds_toArray, List.set_cons_zero, List.set_cons_succ]
  refine Ord.take (i := 3) (d := 17) (v := ?vb3) rfl rfl (by as_aux_lemma => kernel_rfl) (by as_aux_lemma => kernel_rfl) (by as_aux_lemma => kernel_rfl) (fun _ _ _ h => h) (by rfl) ?hb3 (by assumption) ?_
  case hb3 => intro w hSw; go_simp; try with_reducible rfl
  simp only [List.setIfInBounds_toArray, List.set_cons_zero, List.set_cons_succ]
  refine Ord.take (i := 4) (d := 18) (v := .slice (some ⟨g4, 1, none⟩) n 512) rfl rfl (by as_aux_lemma => kernel_rfl) (by as_aux_lemma => kernel_rfl) (by as_aux_lemma => kernel_rfl) (fun _ _ _ h => h) (by rfl) ?hb4 (by assumption) ?_
  case hb4 => intro w hSw; go_simp; try with_reducible rfl
  simp only [List.setIfInBounds_toArray, List.set_cons_zero, List.set_cons_succ]
  refine wpAnyH_ready (rs := [5]) (by as_aux_lemma => kernel_rfl) (by simp) (AllReadyH.cons rfl (fun K hK => ?_) AllReadyH.nil)
  rw [if_pos (by rfl)]
  refine Lib.wp_copy_run v2 (.tmp 15) (.tmp 18) 33 33 rfl _ _ rfl rfl hcp ?_
  refine hK.out _ _ trivial (fun _ => ?_)
  clear hK K hcp
  refine wpAnyH_done (by as_aux_lemma => kernel_rfl) ?_ _
  have hoth : ∀ j, j ≠ g6 → (v2.setRow g6 TT.toArray).heap[j]? = v2.heap[j]? := fun j hj => setRow_other v2 g6 j _ hj
  have HEt := hid (setRow_heap v2 g6 _ TT.toArray 73 (0, 0) HE9.out)
  have HDt : Hid (Dc (v2.setRow g6 TT.toArray) gv size (.map (some gl)) v mn fuse dn) := (hoth gv (by rintro rfl; have h1 := HS9.out.1; unfold Dc at h1; rw [HE9.out] at h1; simp at h1)).trans HS9.out.1
  have HMt : Hid (Ml (v2.setRow g6 TT.toArray) gl N L) := HS9.out.2.2.later (hoth gl (by rintro rfl; obtain ⟨es, ck, hh⟩ := HS9.out.2.2.map; rw [HE9.out] at hh; cases hh)) (Nat.le_refl _)
  have HCt := hid (HC0.out _ ((hoth g4 HN6.out).trans HS9.out.2.1))
  have HBt : Hid (Below w.heap.size w (v2.setRow g6 TT.toArray)) := below_setRow HB9.out HV0.out _
  clear hoth HS9 HE9 HB9 hS0 HN6 HV0
  generalize v2.setRow g6 TT.toArray = v3 at *
  have c6 := HCt.out
  go_wp2_with (refine wpList_load_row rfl 73 _ rfl g6 rfl 73 TT.toArray (0, 0) _ HEt.out Try.underlying73 rfl htl ?_)
  refine (HHO.out v3 HDt.out HMt.out).mono ?_
  rintro _ w9 ⟨⟨y, rfl⟩, hml, hbt⟩
  have HML := hid hml
  have HBT := hid ((But1.of_below (g := gl) HBt.out).trans hbt)
  clear hml hbt HHO HDt HMt HBt HEt HCt c6
  go_wp2_with fail
  go_end0
  exact ⟨⟨_, rfl⟩, HML.out, HBT.out⟩
end Go.Proofs.Ytldgiimkkgmgaaa
/-
  All open writes are made to last: device.settle and Sync.
-/
namespace Go.Proofs.Ytldgiimkkgmgaaa
open Go.RowKit

theorem tear_all {b old : List Int} (hb : Blk b) (ho : Blk old) : tearL 512 b old = b := by
  unfold tearL
  rw [List.take_of_length_le (by rw [hb.len]; omega), List.drop_eq_nil_of_le (by rw [ho.len]; omega), List.append_nil]
theorem take_snoc (O : List (Int × List Int)) (k : Nat) (h : k < O.length) : O.take (k + 1) = O.take k ++ [O.getD k (0, [])] := by
  rw [List.take_succ_eq_append_getElem h]
  simp [List.getD, List.getElem?_eq_getElem h]
theorem hold_snoc (L : Int → List Int) (O : List (Int × List Int)) (x : Int × List Int) : holdF L (O ++ [x]) = setI (holdF L O) x.1 x.2 := by
  funext i
  rw [holdF_app]
  unfold setI
  by_cases h : i = x.1
  · rw [if_pos h.symm, if_pos h]
  · rw [if_neg (fun e => h e.symm), if_neg h]
theorem getD_mem {O : List (Int × List Int)} {k : Nat} (h : k < O.length) : O.getD k (0, []) ∈ O := by
  simp only [List.getD, List.getElem?_eq_getElem h, Option.getD_some]
  exact List.getElem_mem h
/-- A device whose map of what lasts alone was turned. -/
theorem Dv.lasts {W W' : World} {base gd gv gl gn N M : Nat} {v : Value} {size : Int} {L L' : Int → List Int} {O : List (Int × List Int)} {fuse : Int} (h : Dv W base gd gv gl gn v N size L O fuse) (hb : But1 gl W W') (hl : Ml W' gl M L') (hL : ∀ i, Blk (L' i)) (hn : N ≤ M) : Dv W' base gd gv gl gn v M size L' O fuse := by
  obtain ⟨n1, n2, n3, n4, n5⟩ := h.apart
  exact ⟨(hb.same gd h.dsk.lt (Ne.symm n2)).trans h.dsk, (hb.same gv h.dev.lt (Ne.symm n3)).trans h.dev, own_blk h.row (fun i _ hi => hb.cells h.lst.map hi), hl, h.nst.later (hb.same gn h.nst.lt (Ne.symm h.ne)) hn, hL, h.okO, h.okF, h.okS, h.bd, h.bv, h.bl, h.bn, h.ne⟩
/-- The open writes are gone. -/
theorem Dv.none {W W' : World} {base gd gv gl gn N : Nat} {v : Value} {size : Int} {L : Int → List Int} {O : List (Int × List Int)} {fuse : Int} (h : Dv W base gd gv gl gn v N size L O fuse) (hm : Mn W' gn N (fun _ => Option.none)) (ht : (W.setCell ⟨gv, 2, Option.none⟩ (.slice Option.none 0 0)).mapTurned W' gn) : Dv W' base gd gv gl gn (.slice Option.none 0 0) N size L [] fuse ∧ Fr base W W' := by
  obtain ⟨n1, n2, n3, n4, n5⟩ := h.apart
  obtain ⟨h1, h2⟩ := dev_set h 2 (.slice Option.none 0 0)
  have h3 : ∀ j, j ≠ gv → j ≠ gn → W'.heap[j]? = W.heap[j]? := fun j a b => (mapTurned_other ht b).trans (h1 j a)
  refine ⟨⟨(h3 gd n1 (Ne.symm n4)).trans h.dsk, ?_, ⟨rfl, .inl ⟨rfl, rfl⟩⟩, h.lst.later (h3 gl n3 h.ne) (Nat.le_refl _), hm, h.okL, fun _ hx => absurd hx (List.not_mem_nil), h.okF, h.okS, h.bd, h.bv, h.bl, h.bn, h.ne⟩, h2.map h.bn ht⟩
  unfold Dc
  rw [mapTurned_other ht (Ne.symm n5), Joins.block_setCell h.dev _]
  simp [devC]
def SetPost (base gd gv gl gn N : Nat) (size : Int) (L : Int → List Int) (O : List (Int × List Int)) (fuse : Int) (w : World) (e : Ending) (w' : World) : Prop :=
  e = .returned (.int .i64 (O.length : Int)) ∧ Dv w' base gd gv gl gn (.slice none 0 0) (N + O.length) size (holdF L O) [] fuse ∧ Fr base w w'
set_option maxHeartbeats 6400000 in
set_option maxRecDepth 100000 in
theorem settle_ok (base gd gv gl gn N : Nat) (v : Value) (size : Int) (L : Int → List Int) (O : List (Int × List Int)) (fuse : Int) (w : World) (k : Dv w base gd gv gl gn v N size L O fuse) (hN : N + O.length + 1 ≤ 1000000) :
    Calls Try.prog 37 #[.pointer (some ⟨gv, 0, none⟩)] w (SetPost base gd gv gl gn N size L O fuse w) := by
  unfold SetPost
  obtain ⟨av, cv, rfl⟩ := own_slice k.row
  obtain ⟨_, _, c2, _, _, _⟩ := k.dev.cells
  have HK := hid k
  obtain ⟨n, hn⟩ : ∃ n, n = O.length := ⟨_, rfl⟩
  have HN := hid hn
  rw [← hn] at c2 hN HK ⊢
  clear k hn
  go_enter Try.func37, Try.ntmps37
  go_wp2_with fail
  go_loopw [11] (fun i wr => ∃ q : Nat, i = .int .i64 (q : Int) ∧ q ≤ n ∧ Hid (Dv wr base gd gv gl gn (.slice av n cv) (N + q) size (holdF L (O.take q)) O fuse) ∧ Hid (Fr base w wr)) (fun i _ => n - (intOf i).toNat)
  case atStart => exact ⟨0, rfl, Nat.zero_le _, HK.out, Fr.refl _ _⟩
  case round =>
    obtain ⟨q, rfl, hq, HD, HF⟩ := hrel
    clear c2 HK
    obtain ⟨_, _, c2, c3, _, _⟩ := HD.out.dev.cells
    by_cases hlt : q < n
    · have hki : (q : Int) < (n : Int) := by omega
      obtain ⟨g, cap, e, hc1, hc2, _, _, hat⟩ := open_at (W := wr) (O := O) (by have h1 := HD.out.row; exact h1) (fun x hx => (HD.out.okO x hx).1) (by rw [← HN.out]; omega)
      rw [← HN.out] at e hc1
      cases e
      have hrg := (hat q (by rw [← HN.out]; exact hlt)).1
      have hmem := getD_mem (O := O) (k := q) (by rw [← HN.out]; exact hlt)
      have hok := HD.out.okO _ hmem
      have hol := opC_len hok.1
      have HDO := hid (do_ok gv gl (N + q) size _ _ fuse false (holdF L (O.take q)) (O.getD q (0, [])) 512 wr HD.out.dev HD.out.lst hok.2 hok.1 HD.out.okL (Nat.le_refl _) (by omega))
      unfold DoPost at HDO
      rw [tear_all hok.1 (HD.out.okL _), ← hold_snoc, ← take_snoc O q (by rw [← HN.out]; exact hlt)] at HDO
      have HBL : Hid (∀ i, Blk (holdF L (O.take (q + 1)) i)) := fun i => by
        rw [take_snoc O q (by rw [← HN.out]; exact hlt), hold_snoc]
        unfold setI
        split
        · exact hok.1
        · exact HD.out.okL i
      generalize opC (O.getD q (0, [])) = X at *
      have hsz : (Try.prog.info? 83).map (·.size) = some X.length := by rw [hol]; exact Try.size83
      clear hat hmem hok
      go_wp2_with (refine wpList_load_mid rfl 83 _ rfl g (q * 513) rfl X _ hrg Try.underlying83 rfl hsz ?_)
      refine HDO.out.mono ?_
      rintro _ w1 ⟨⟨y, rfl⟩, hml, hbt⟩
      have HD1 := hid (HD.out.lasts hbt hml HBL.out (Nat.le_succ _))
      have HF1 := hid (HF.out.trans (hbt.fr HD.out.lst.map HD.out.bl HD.out.size))
      clear hml hbt HDO hrg c2 c3 HD HF HBL
      go_wp2_with fail
      exact ⟨⟨q + 1, by go_num, hlt, HD1, HF1⟩, by simp only [intOf]; omega⟩
    · have hkn : q = n := by omega
      subst hkn
      have hki : ¬ (q : Int) < (q : Int) := by omega
      have e : O.take q = O := by rw [HN.out, List.take_length]
      rw [e] at HD
      obtain ⟨W', hcl, hmn, hmt⟩ := Mn.clear (W := wr.setCell ⟨gv, 2, none⟩ (.slice none 0 0)) (HD.out.nst.later ((dev_set HD.out 2 (.slice none 0 0)).1 gn HD.out.apart.2.2.2.2) (Nat.le_refl _)) 0
      obtain ⟨hd, hf⟩ := HD.out.none hmn hmt
      have HD2 := hid hd
      have HF2 := hid (HF.out.trans hf)
      have f2 := HD.out.dev.unfrozen 2
      have c3' : (wr.setCell ⟨gv, 2, none⟩ (.slice none 0 0)).cell? ⟨gv, 3, none⟩ = some (.map (some gn)) := by
        have h1 : (wr.setCell ⟨gv, 2, none⟩ (.slice none 0 0)).heap[gv]? = _ := Joins.block_setCell HD.out.dev _
        rw [Joins.cell_of_block h1 3]
        simp [devC]
      clear hd hf hmn hmt HD HF e
      go_wp2_with fail
      go_ret
      exact ⟨rfl, HD2.out, HF2.out⟩
end Go.Proofs.Ytldgiimkkgmgaaa
/-
  Sync.
-/
namespace Go.Proofs.Ytldgiimkkgmgaaa
open Go.RowKit

def syL (fuse : Int) (L : Int → List Int) (O : List (Int × List Int)) : Int → List Int := if fuse = 0 then L else holdF L O
def syO (fuse : Int) (O : List (Int × List Int)) : List (Int × List Int) := if fuse = 0 then O else []
def syN (fuse : Int) (O : List (Int × List Int)) : Nat := if fuse = 0 then 0 else O.length
def SynPost (base gd gv gl gn N : Nat) (size : Int) (L : Int → List Int) (O : List (Int × List Int)) (fuse : Int) (w : World) (e : Ending) (w' : World) : Prop :=
  e = .returned (.tuple #[.int .i64 (syN fuse O : Int), .int .i64 (burnE fuse)]) ∧ (∃ v', Dv w' base gd gv gl gn v' (N + O.length) size (syL fuse L O) (syO fuse O) (burnF fuse)) ∧ Fr base w w'
set_option maxHeartbeats 1600000 in
set_option maxRecDepth 100000 in
theorem sync_ok (base gd gv gl gn N : Nat) (v : Value) (size : Int) (L : Int → List Int) (O : List (Int × List Int)) (fuse : Int) (w : World) (k : Dv w base gd gv gl gn v N size L O fuse) (hN : N + O.length + 1 ≤ 1000000) :
    Calls Try.prog 14 #[.pointer (some ⟨gd, 0, none⟩)] w (SynPost base gd gv gl gn N size L O fuse w) := by
  unfold SynPost
  have HM := hid (up_ok gd gv size _ v _ fuse w k.dsk k.dev)
  have HBU := hid (burn_ok base gd gv gl gn N v size L O fuse w k)
  have c0 := k.dsk.cell
  by_cases hf : fuse = 0
  · rw [show syL fuse L O = L from if_pos hf, show syO fuse O = O from if_pos hf, show syN fuse O = 0 from if_pos hf]
    rw [show burnE fuse = 92 from if_pos hf] at HBU ⊢
    clear k hf
    go_enter Try.func14, Try.ntmps14
    go_wp2_with fail
    refine HM.out.mono ?_
    rintro _ w1 ⟨rfl, hw⟩
    obtain rfl := hw.symm
    clear hw HM
    go_wp2_with fail
    refine HBU.out.mono ?_
    rintro _ w2 ⟨rfl, hd, hfr⟩
    have HD := hid (hd.mono (Nat.le_add_right N O.length))
    have HFR := hid hfr
    clear HBU hd hfr c0
    go_wp2_with fail
    go_ret2
    exact ⟨rfl, ⟨_, HD.out⟩, HFR.out⟩
  · rw [show syL fuse L O = holdF L O from if_neg hf, show syO fuse O = [] from if_neg hf, show syN fuse O = O.length from if_neg hf]
    rw [show burnE fuse = 0 from if_neg hf] at HBU ⊢
    have HST : Hid (∀ W, Dv W base gd gv gl gn v N size L O (burnF fuse) → Calls Try.prog 37 #[.pointer (some ⟨gv, 0, none⟩)] W (SetPost base gd gv gl gn N size L O (burnF fuse) W)) := fun W h => settle_ok base gd gv gl gn N v size L O (burnF fuse) W h hN
    unfold SetPost at HST
    clear k hf
    go_enter Try.func14, Try.ntmps14
    go_wp2_with fail
    refine HM.out.mono ?_
    rintro _ w1 ⟨rfl, hw⟩
    obtain rfl := hw.symm
    clear hw HM
    go_wp2_with fail
    refine HBU.out.mono ?_
    rintro _ w2 ⟨rfl, hd, hfr⟩
    have HD := hid hd
    have HFR := hid hfr
    replace c0 := hd.dsk.cell
    clear HBU hd hfr
    go_wp2_with fail
    refine (HST.out _ HD.out).mono ?_
    rintro _ w3 ⟨rfl, hd3, hf3⟩
    have HD3 := hid hd3
    have HF3 := hid (HFR.out.trans hf3)
    clear HST hd3 hf3 c0
    go_wp2_with fail
    go_ret2
    exact ⟨rfl, ⟨_, HD3.out⟩, HF3.out⟩
end Go.Proofs.Ytldgiimkkgmgaaa
