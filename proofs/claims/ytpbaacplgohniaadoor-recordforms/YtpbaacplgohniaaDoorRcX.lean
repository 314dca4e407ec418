/-
  Records that are alike: slices.Equal at pieces, record's Same.
-/
import Derived.Test.YtpbaacplgohniaaDoorRcV
namespace Go.Proofs.YtpbaacplgohniaaDoor
open Go.ChangeShapes Go.WideShapes Go.ChangeAt Go.RowKit Go.Deep

set_option maxHeartbeats 16000000 in
set_option maxRecDepth 100000 in
theorem equal_word (a1 a2 : Option Addr) (p1 p2 : Nat) (l m : List Pc) (w : World) (hl : Rp w a1 p1 l) (hm : Rp w a2 p2 m) :
    Calls Tryd.prog 39 #[.slice a1 l.length p1, .slice a2 m.length p2] w fun e w' => e = .returned (.bool (decide (l = m))) ∧ Below w.heap.size w w' := by
  have hro := hl.room
  have hmo := hl.most
  have qro := hm.room
  have qmo := hm.most
  unfold maxLen at hmo qmo
  have HRR := hid hl
  have HQR := hid hm
  clear hl hm
  by_cases t7 : l.length = m.length
  · obtain ⟨len, hle⟩ : ∃ n, n = l.length := ⟨_, rfl⟩
    have HLR := hid hle
    have HLQ : Hid (len = m.length) := hle.trans t7
    have hme : m.length = len := (hle.trans t7).symm
    rw [← hle, hme]
    rw [← hle] at hro
    rw [hme] at qro
    obtain ⟨SB, hSB⟩ : ∃ SB, SB = decide (l = m) := ⟨_, rfl⟩
    rw [← hSB]
    have HF := hid hSB
    clear hle t7 hme hSB
    go_enter Tryd.func39, Tryd.ntmps39
    go_wp2
    go_loopw [13] (fun x13 wr => ∃ k : Nat, k ≤ len ∧ x13 = .int .i64 (k : Int) ∧ Hid (Below w.heap.size w wr) ∧ Hid (l.take k = m.take k)) (fun x13 _ => len - (intOf x13).toNat)
    case atStart => exact ⟨0, by omega, rfl, Below.refl _ _, rfl⟩
    case round =>
      obtain ⟨k, hk, rfl, HBV, HTE⟩ := hrel
      by_cases hlt : k < len
      · have hkz : (k : Int) < (len : Int) := by omega
        obtain ⟨b, off, rfl, hbw, hc⟩ := HRR.out.cells (by rw [← HLR.out]; omega)
        obtain ⟨b2, off2, rfl, hbw2, hc2⟩ := HQR.out.cells (by rw [← HLQ.out]; omega)
        have HX := hid (hc k (by rw [← HLR.out]; exact hlt))
        have HY := hid (hc2 k (by rw [← HLQ.out]; exact hlt))
        have HXL := hid (HRR.out.get (j := k) (by rw [← HLR.out]; exact hlt)).len
        have HYL := hid (HQR.out.get (j := k) (by rw [← HLQ.out]; exact hlt)).len
        have HTX := hid (take_pc l k (by rw [← HLR.out]; exact hlt))
        have HTY := hid (take_pc m k (by rw [← HLQ.out]; exact hlt))
        have HGX : Hid (l.getD k pc0 ≠ m.getD k pc0 → l ≠ m) := fun h e => h (by rw [e])
        have HBW := hid hbw
        have HBW2 := hid hbw2
        generalize l.getD k pc0 = x at *
        generalize m.getD k pc0 = y at *
        clear hc hc2 hbw hbw2
        by_cases hxy : x = y
        · have HXY : Hid (decide (x = y) = true) := decide_eq_true hxy
          have HTN : Hid (l.take (k + 1) = m.take (k + 1)) := by show _ = _; rw [HTX.out, HTY.out, HTE.out, hxy]
          clear hxy
          go_wp2_with fail
          refine wp_region_held_drew (S := fun V => Below w.heap.size w V) (by kernel_rfl) HBV.out.drew (fun hS0 => ?_)
          generalize wr.drew = v0 at *
          simp only [List.size_toArray, List.length_cons, List.length_nil, Nat.reduceAdd]
          refine Ord.take (i := 0) (d := 16) (v := ?v0) rfl rfl (by as_aux_lemma => kernel_rfl) (by as_aux_lemma => kernel_rfl) (by as_aux_lemma => kernel_rfl) (fun _ _ _ h => h) (by rfl) ?hA0 (by assumption) ?_
          case hA0 => intro V hSw; go_simp; try with_reducible rfl
          try simp only [List.setIfInBounds_toArray, List.set_cons_zero, List.set_cons_succ]
          refine Ord.take (i := 1) (d := 17) (v := ?v1) rfl rfl (by as_aux_lemma => kernel_rfl) (by as_aux_lemma => kernel_rfl) (by as_aux_lemma => kernel_rfl) (fun _ _ _ h => h) (by rfl) ?hA1 (by assumption) ?_
          case hA1 => intro V hSw; go_simp; try with_reducible rfl
          try simp only [List.setIfInBounds_toArray, List.set_cons_zero, List.set_cons_succ]
          refine Ord.take (i := 2) (d := 18) (v := .pointer (some ⟨b, off + k * 33, none⟩)) rfl rfl (by as_aux_lemma => kernel_rfl) (by as_aux_lemma => kernel_rfl) (by as_aux_lemma => kernel_rfl) (fun _ _ _ h => h) (by rfl) ?hA2 (by assumption) ?_
          case hA2 => intro V hSw; go_simp; try with_reducible rfl
          try simp only [List.setIfInBounds_toArray, List.set_cons_zero, List.set_cons_succ]
          refine Ord.take (i := 3) (d := 19) (v := .agg (pcC x).toArray) rfl rfl (by as_aux_lemma => kernel_rfl) (by as_aux_lemma => kernel_rfl) (by as_aux_lemma => kernel_rfl) (fun _ _ _ h => h) (by rfl) ?hA3 (by assumption) ?_
          case hA3 => intro V hSw; exact exec_load 76 (.tmp 18) rfl b (off + k * 33) rfl (load_pc (range_later HX.out hSw HBW.out) HXL.out)
          try simp only [List.setIfInBounds_toArray, List.set_cons_zero, List.set_cons_succ]
          refine Ord.take (i := 4) (d := 20) (v := ?v4) rfl rfl (by as_aux_lemma => kernel_rfl) (by as_aux_lemma => kernel_rfl) (by as_aux_lemma => kernel_rfl) (fun _ _ _ h => h) (by rfl) ?hA4 (by assumption) ?_
          case hA4 => intro V hSw; go_simp; try with_reducible rfl
          try simp only [List.setIfInBounds_toArray, List.set_cons_zero, List.set_cons_succ]
          refine Ord.take (i := 5) (d := 21) (v := ?v5) rfl rfl (by as_aux_lemma => kernel_rfl) (by as_aux_lemma => kernel_rfl) (by as_aux_lemma => kernel_rfl) (fun _ _ _ h => h) (by rfl) ?hA5 (by assumption) ?_
          case hA5 => intro V hSw; go_simp; try with_reducible rfl
          try simp only [List.setIfInBounds_toArray, List.set_cons_zero, List.set_cons_succ]
          refine Ord.take (i := 6) (d := 22) (v := .pointer (some ⟨b2, off2 + k * 33, none⟩)) rfl rfl (by as_aux_lemma => kernel_rfl) (by as_aux_lemma => kernel_rfl) (by as_aux_lemma => kernel_rfl) (fun _ _ _ h => h) (by rfl) ?hA6 (by assumption) ?_
          case hA6 => intro V hSw; go_simp; try with_reducible rfl
          try simp only [List.setIfInBounds_toArray, List.set_cons_zero, List.set_cons_succ]
          refine Ord.take (i := 7) (d := 23) (v := .agg (pcC y).toArray) rfl rfl (by as_aux_lemma => kernel_rfl) (by as_aux_lemma => kernel_rfl) (by as_aux_lemma => kernel_rfl) (fun _ _ _ h => h) (by rfl) ?hA7 (by assumption) ?_
          case hA7 => intro V hSw; exact exec_load 76 (.tmp 22) rfl b2 (off2 + k * 33) rfl (load_pc (range_later HY.out hSw HBW2.out) HYL.out)
          try simp only [List.setIfInBounds_toArray, List.set_cons_zero, List.set_cons_succ]
          refine Ord.take (i := 8) (d := 24) (v := .bool false) rfl rfl (by as_aux_lemma => kernel_rfl) (by as_aux_lemma => kernel_rfl) (by as_aux_lemma => kernel_rfl) (fun _ _ _ h => h) (by rfl) ?hA8 (by assumption) ?_
          case hA8 => intro V hSw; exact run_neq_op rfl (xs := (pcC x).toArray) (ys := (pcC y).toArray) (b := true) rfl rfl guard76 (by rw [eq76 x y HXL.out HYL.out, HXY.out])
          try simp only [List.setIfInBounds_toArray, List.set_cons_zero, List.set_cons_succ]
          refine wpAnyH_done (by as_aux_lemma => kernel_rfl) ?_ _
          go_wp2
          go_round
          case rel => exact ⟨k + 1, by omega, by go_num, hS0, HTN⟩
          case measure => simp [intOf]; omega
        · have HXY : Hid (decide (x = y) = false) := decide_eq_false hxy
          have HFN : Hid (SB = false) := by show _ = _; rw [HF.out]; exact decide_eq_false (HGX.out hxy)
          clear hxy
          go_wp2_with fail
          refine wp_region_held_drew (S := fun V => Below w.heap.size w V) (by kernel_rfl) HBV.out.drew (fun hS0 => ?_)
          generalize wr.drew = v0 at *
          simp only [List.size_toArray, List.length_cons, List.length_nil, Nat.reduceAdd]
          refine Ord.take (i := 0) (d := 16) (v := ?v0) rfl rfl (by as_aux_lemma => kernel_rfl) (by as_aux_lemma => kernel_rfl) (by as_aux_lemma => kernel_rfl) (fun _ _ _ h => h) (by rfl) ?hA0 (by assumption) ?_
          case hA0 => intro V hSw; go_simp; try with_reducible rfl
          try simp only [List.setIfInBounds_toArray, List.set_cons_zero, List.set_cons_succ]
          refine Ord.take (i := 1) (d := 17) (v := ?v1) rfl rfl (by as_aux_lemma => kernel_rfl) (by as_aux_lemma => kernel_rfl) (by as_aux_lemma => kernel_rfl) (fun _ _ _ h => h) (by rfl) ?hA1 (by assumption) ?_
          case hA1 => intro V hSw; go_simp; try with_reducible rfl
          try simp only [List.setIfInBounds_toArray, List.set_cons_zero, List.set_cons_succ]
          refine Ord.take (i := 2) (d := 18) (v := .pointer (some ⟨b, off + k * 33, none⟩)) rfl rfl (by as_aux_lemma => kernel_rfl) (by as_aux_lemma => kernel_rfl) (by as_aux_lemma => kernel_rfl) (fun _ _ _ h => h) (by rfl) ?hA2 (by assumption) ?_
          case hA2 => intro V hSw; go_simp; try with_reducible rfl
          try simp only [List.setIfInBounds_toArray, List.set_cons_zero, List.set_cons_succ]
          refine Ord.take (i := 3) (d := 19) (v := .agg (pcC x).toArray) rfl rfl (by as_aux_lemma => kernel_rfl) (by as_aux_lemma => kernel_rfl) (by as_aux_lemma => kernel_rfl) (fun _ _ _ h => h) (by rfl) ?hA3 (by assumption) ?_
          case hA3 => intro V hSw; exact exec_load 76 (.tmp 18) rfl b (off + k * 33) rfl (load_pc (range_later HX.out hSw HBW.out) HXL.out)
          try simp only [List.setIfInBounds_toArray, List.set_cons_zero, List.set_cons_succ]
          refine Ord.take (i := 4) (d := 20) (v := ?v4) rfl rfl (by as_aux_lemma => kernel_rfl) (by as_aux_lemma => kernel_rfl) (by as_aux_lemma => kernel_rfl) (fun _ _ _ h => h) (by rfl) ?hA4 (by assumption) ?_
          case hA4 => intro V hSw; go_simp; try with_reducible rfl
          try simp only [List.setIfInBounds_toArray, List.set_cons_zero, List.set_cons_succ]
          refine Ord.take (i := 5) (d := 21) (v := ?v5) rfl rfl (by as_aux_lemma => kernel_rfl) (by as_aux_lemma => kernel_rfl) (by as_aux_lemma => kernel_rfl) (fun _ _ _ h => h) (by rfl) ?hA5 (by assumption) ?_
          case hA5 => intro V hSw; go_simp; try with_reducible rfl
          try simp only [List.setIfInBounds_toArray, List.set_cons_zero, List.set_cons_succ]
          refine Ord.take (i := 6) (d := 22) (v := .pointer (some ⟨b2, off2 + k * 33, none⟩)) rfl rfl (by as_aux_lemma => kernel_rfl) (by as_aux_lemma => kernel_rfl) (by as_aux_lemma => kernel_rfl) (fun _ _ _ h => h) (by rfl) ?hA6 (by assumption) ?_
          case hA6 => intro V hSw; go_simp; try with_reducible rfl
          try simp only [List.setIfInBounds_toArray, List.set_cons_zero, List.set_cons_succ]
          refine Ord.take (i := 7) (d := 23) (v := .agg (pcC y).toArray) rfl rfl (by as_aux_lemma => kernel_rfl) (by as_aux_lemma => kernel_rfl) (by as_aux_lemma => kernel_rfl) (fun _ _ _ h => h) (by rfl) ?hA7 (by assumption) ?_
          case hA7 => intro V hSw; exact exec_load 76 (.tmp 22) rfl b2 (off2 + k * 33) rfl (load_pc (range_later HY.out hSw HBW2.out) HYL.out)
          try simp only [List.setIfInBounds_toArray, List.set_cons_zero, List.set_cons_succ]
          refine Ord.take (i := 8) (d := 24) (v := .bool true) rfl rfl (by as_aux_lemma => kernel_rfl) (by as_aux_lemma => kernel_rfl) (by as_aux_lemma => kernel_rfl) (fun _ _ _ h => h) (by rfl) ?hA8 (by assumption) ?_
          case hA8 => intro V hSw; exact run_neq_op rfl (xs := (pcC x).toArray) (ys := (pcC y).toArray) (b := false) rfl rfl guard76 (by rw [eq76 x y HXL.out HYL.out, HXY.out])
          try simp only [List.setIfInBounds_toArray, List.set_cons_zero, List.set_cons_succ]
          refine wpAnyH_done (by as_aux_lemma => kernel_rfl) ?_ _
          go_wp2
          go_ret
          exact ⟨by rw [HFN.out]; rfl, hS0⟩
      · have hkl : k = len := by omega
        have hkz : ¬ (k : Int) < (len : Int) := by omega
        have HFY : Hid (SB = true) := by
          show _ = _
          rw [HF.out]
          have := HTE.out
          rw [List.take_of_length_le (by rw [← HLR.out]; omega), List.take_of_length_le (by rw [← HLQ.out]; omega)] at this
          exact decide_eq_true this
        go_wp2
        go_ret
        exact ⟨by rw [HFY.out]; rfl, HBV.out⟩
  · have HD : Hid (decide (l = m) = false) := decide_eq_false (fun e => t7 (congrArg List.length e))
    generalize decide (l = m) = DD at *
    generalize l.length = L1 at *
    generalize m.length = L2 at *
    go_enter Tryd.func39, Tryd.ntmps39
    go_wp2
    go_ret
    exact ⟨by rw [HD.out]; rfl, Below.refl _ _⟩
set_option maxHeartbeats 16000000 in
set_option maxRecDepth 100000 in
theorem same_word (r q : Rec) (w : World) (hr : Rv w r) (hq : Rv w q) :
    Calls Tryd.prog 20 #[.agg r.cs.toArray, .agg q.cs.toArray] w fun e w' => e = .returned (.bool (sameB r q)) ∧ Below w.heap.size w w' := by
  have b1 := bel_alc w (.cells r.cs.toArray 27)
  have b2 := bel_alc (w.alloc (.cells r.cs.toArray 27)) (.cells q.cs.toArray 27)
  have s1 : (w.alloc (.cells r.cs.toArray 27)).heap.size = w.heap.size + 1 := by simp
  have BR := (Bx.mk' w r hr.len).later b2
  have BQ := Bx.mk' (w.alloc (.cells r.cs.toArray 27)) q hq.len
  rw [s1] at BQ
  have HB := hid (Bn b1 b2)
  have c0 := BR.c0
  have c1 := BR.c1
  have c34 := BR.c34
  have c35 := BR.c35
  have c36 := BR.c36
  have c37 := BR.c37
  have d0 := BQ.c0
  have d1 := BQ.c1
  have d34 := BQ.c34
  have d35 := BQ.c35
  have d36 := BQ.c36
  have d37 := BQ.c37
  have HRP := hid BR.prev
  have HQP := hid BQ.prev
  have hro := hr.row.room
  have hmo := hr.row.most
  have qro := hq.row.room
  have qmo := hq.row.most
  unfold maxLen at hmo qmo
  have heq : ∀ V, (Op.equalIn 10000 23 (.agg (r.prev.map (Value.int .u8)).toArray) (.agg (q.prev.map (Value.int .u8)).toArray)).run Tryd.prog V = .ok (decide (r.prev = q.prev)) V := fun V => eq37 r.prev q.prev hr.len hq.len V
  have hgd := guard37
  have HRL : Hid ((r.prev.map (Value.int .u8)).length = 32) := by show _ = _; simp [hr.len]
  have HQL : Hid ((q.prev.map (Value.int .u8)).length = 32) := by show _ = _; simp [hq.len]
  have HEQ := hid (equal_word r.a q.a r.cap q.cap r.ps q.ps _ (hr.row.later (Bn b1 b2)) (hq.row.later (Bn b1 b2)))
  clear BR BQ b1 b2 hr hq
  generalize hSB : sameB r q = SB at *
  have HSB := hid hSB
  clear hSB
  unfold sameB at HSB
  generalize r.cs.toArray = A1 at *
  generalize q.cs.toArray = A2 at *
  generalize r.prev.map (Value.int .u8) = P1 at *
  generalize q.prev.map (Value.int .u8) = P2 at *
  by_cases t1 : r.seq = q.seq
  · rw [t1] at c0
    by_cases t2 : r.epoch = q.epoch
    · rw [t2] at c1
      by_cases t3 : r.prev = q.prev
      · have hd3 : decide (r.prev = q.prev) = true := decide_eq_true t3
        rw [hd3] at heq
        by_cases t4 : r.kind = q.kind
        · rw [t4] at c34
          by_cases t5 : r.site = q.site
          · rw [t5] at c35
            by_cases t6 : r.path = q.path
            · rw [t6] at c36
              have HF : Hid (SB = decide (r.ps = q.ps)) := by show _ = _; rw [← HSB.out]; simp [t1, t2, t3, t4, t5, t6]
              clear HSB hd3 t3 t1 t2 t4 t5 t6
              generalize decide (r.ps = q.ps) = DD at *
              go_enter Tryd.func20, Tryd.ntmps20
              go_wp2_with (first | refine wpList_load_g rfl 23 _ rfl w.heap.size 2 rfl P1 _ HRP.out Tryd.underlying23 rfl (by rw [HRL.out]; exact Tryd.size23) ?_ | refine wpList_load_g rfl 23 _ rfl (w.heap.size + 1) 2 rfl P2 _ HQP.out Tryd.underlying23 rfl (by rw [HQL.out]; exact Tryd.size23) ?_ | fail)
              refine HEQ.out.mono ?_
              rintro _ W3 ⟨rfl, hb3⟩
              have HB3 := hid (Bn HB.out hb3)
              clear hb3 HEQ
              go_wp2
              go_ret
              exact ⟨by rw [HF.out]; rfl, HB3.out⟩
            · have hpe : (r.path.toList == q.path.toList) = false := by rw [beq_eq_false_iff_ne]; exact fun e => t6 (ba_inj e)
              have HF : Hid (SB = false) := by show _ = _; rw [← HSB.out]; exact decide_eq_false (fun e => t6 e.2.2.2.2.2.1)
              clear HSB HEQ t1 t2 t3 hd3 t4 t5
              go_enter Tryd.func20, Tryd.ntmps20
              go_wp2_with (first | refine wpList_load_g rfl 23 _ rfl w.heap.size 2 rfl P1 _ HRP.out Tryd.underlying23 rfl (by rw [HRL.out]; exact Tryd.size23) ?_ | refine wpList_load_g rfl 23 _ rfl (w.heap.size + 1) 2 rfl P2 _ HQP.out Tryd.underlying23 rfl (by rw [HQL.out]; exact Tryd.size23) ?_)
              go_ret
              exact ⟨by rw [HF.out]; rfl, HB.out⟩
          · have HF : Hid (SB = false) := by show _ = _; rw [← HSB.out]; exact decide_eq_false (fun e => t5 e.2.2.2.2.1)
            clear HSB HEQ t1 t2 t3 hd3 t4
            go_enter Tryd.func20, Tryd.ntmps20
            go_wp2_with (first | refine wpList_load_g rfl 23 _ rfl w.heap.size 2 rfl P1 _ HRP.out Tryd.underlying23 rfl (by rw [HRL.out]; exact Tryd.size23) ?_ | refine wpList_load_g rfl 23 _ rfl (w.heap.size + 1) 2 rfl P2 _ HQP.out Tryd.underlying23 rfl (by rw [HQL.out]; exact Tryd.size23) ?_)
            go_ret
            exact ⟨by rw [HF.out]; rfl, HB.out⟩
        · have HF : Hid (SB = false) := by show _ = _; rw [← HSB.out]; exact decide_eq_false (fun e => t4 e.2.2.2.1)
          clear HSB HEQ t1 t2 t3 hd3
          go_enter Tryd.func20, Tryd.ntmps20
          go_wp2_with (first | refine wpList_load_g rfl 23 _ rfl w.heap.size 2 rfl P1 _ HRP.out Tryd.underlying23 rfl (by rw [HRL.out]; exact Tryd.size23) ?_ | refine wpList_load_g rfl 23 _ rfl (w.heap.size + 1) 2 rfl P2 _ HQP.out Tryd.underlying23 rfl (by rw [HQL.out]; exact Tryd.size23) ?_)
          go_ret
          exact ⟨by rw [HF.out]; rfl, HB.out⟩
      · have hd3 : decide (r.prev = q.prev) = false := decide_eq_false t3
        rw [hd3] at heq
        have HF : Hid (SB = false) := by show _ = _; rw [← HSB.out]; exact decide_eq_false (fun e => t3 e.2.2.1)
        clear HSB HEQ t1 t2 t3 hd3
        go_enter Tryd.func20, Tryd.ntmps20
        go_wp2_with (first | refine wpList_load_g rfl 23 _ rfl w.heap.size 2 rfl P1 _ HRP.out Tryd.underlying23 rfl (by rw [HRL.out]; exact Tryd.size23) ?_ | refine wpList_load_g rfl 23 _ rfl (w.heap.size + 1) 2 rfl P2 _ HQP.out Tryd.underlying23 rfl (by rw [HQL.out]; exact Tryd.size23) ?_)
        go_ret
        exact ⟨by rw [HF.out]; rfl, HB.out⟩
    · have HF : Hid (SB = false) := by show _ = _; rw [← HSB.out]; exact decide_eq_false (fun e => t2 e.2.1)
      clear HSB HEQ t1
      go_enter Tryd.func20, Tryd.ntmps20
      go_wp2_with (first | refine wpList_load_g rfl 23 _ rfl w.heap.size 2 rfl P1 _ HRP.out Tryd.underlying23 rfl (by rw [HRL.out]; exact Tryd.size23) ?_ | refine wpList_load_g rfl 23 _ rfl (w.heap.size + 1) 2 rfl P2 _ HQP.out Tryd.underlying23 rfl (by rw [HQL.out]; exact Tryd.size23) ?_)
      go_ret
      exact ⟨by rw [HF.out]; rfl, HB.out⟩
  · have HF : Hid (SB = false) := by show _ = _; rw [← HSB.out]; exact decide_eq_false (fun e => t1 e.1)
    clear HSB HEQ
    go_enter Tryd.func20, Tryd.ntmps20
    go_wp2_with (first | refine wpList_load_g rfl 23 _ rfl w.heap.size 2 rfl P1 _ HRP.out Tryd.underlying23 rfl (by rw [HRL.out]; exact Tryd.size23) ?_ | refine wpList_load_g rfl 23 _ rfl (w.heap.size + 1) 2 rfl P2 _ HQP.out Tryd.underlying23 rfl (by rw [HQL.out]; exact Tryd.size23) ?_)
    go_ret
    exact ⟨by rw [HF.out]; rfl, HB.out⟩
end Go.Proofs.YtpbaacplgohniaaDoor
