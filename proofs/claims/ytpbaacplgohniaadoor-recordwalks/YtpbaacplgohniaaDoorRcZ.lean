/-
  The document's SameAll.
-/
import Derived.Test.YtpbaacplgohniaaDoorRcY
import Derived.Test.YtpbaacplgohniaaDoorRcYb
namespace Go.Proofs.YtpbaacplgohniaaDoor
open Go.ChangeShapes Go.WideShapes Go.ChangeAt Go.RowKit Go.Deep

theorem load_rm {V : World} {b o : Nat} {x : Rec} (h : V.rangeAt b o x.cs) (hl : x.prev.length = 32) : (loadVar 27 ⟨b, o, none⟩).run Tryd.prog V = .ok (.agg x.cs.toArray) V := run_loadVar_mid V b o 27 x.cs _ h Tryd.underlying27 rfl (by rw [Rec.cs_len hl]; exact Tryd.size27)
theorem run_eql_op {P : Program} {oi : Oper} {ρ : Operand → Value} {t t2 : TypeId} {x y : Operand} (ho : oi.op = .binOp .eql t x y t2) {xs ys : Array Value} {b : Bool} (hx : ρ x = .agg xs) (hy : ρ y = .agg ys) (hg : P.eqGuardType P.depth t = false) {w : World}
    (h : (Op.equalIn 10000 t (.agg xs) (.agg ys)).run P w = .ok b w) : (execOp ρ oi).run P w = .ok (.value (.bool b)) w := by
  unfold execOp
  simp only [ho, hx, hy, Sem.run_bind, run_eqGuard_agg w .eql t x y xs ys hg, run_eql_struct w t xs ys, h, Result.andThen_ok]
  rfl
theorem wpList_store_as {P : Program} {ops : Array Oper} {rest : List Oper} {o : Oper} {a : Act} {w : World} {Q : Exit → Act → World → Prop} (hgd : o.guard = none) (ty : TypeId) (x y : Operand) (ho : o.op = .store ty x y) (hd : o.dst = none)
    (W : World) (old cells : Array Value) (hw : w = W.alloc (.cells old ty)) (hx : a.eval x = .pointer (some ⟨W.heap.size, 0, none⟩)) (hy : a.eval y = .agg cells) (hi : (P.info? ty).map (·.size) = some cells.size)
    (hold : old.size = cells.size) (h1 : cells.all (·.oneCell') = true) (V : World) (hV : V = W.alloc (.cells cells ty)) (h : wpList P ops Q rest a V) : wpList P ops Q (o :: rest) a w := by
  subst hV
  exact wpList_store_new hgd ty x y ho hd W old cells hw hx hy hi hold h1 h
theorem sameL_len : ∀ (l m : List Rec), sameL l m = true → l.length = m.length
  | [], [], _ => rfl
  | [], _ :: _, h => by cases h
  | _ :: _, [], h => by cases h
  | x :: l, y :: m, h => by
    rw [sameL, Bool.and_eq_true] at h
    simp [sameL_len l m h.2]
set_option maxHeartbeats 16000000 in
set_option maxRecDepth 100000 in
theorem sameall_word (a1 a2 : Option Addr) (p1 p2 : Nat) (l m : List Rec) (w : World) (hl : Rr w a1 p1 l) (hm : Rr w a2 p2 m) :
    Calls Tryd.prog 32 #[.slice a1 l.length p1, .slice a2 m.length p2] w fun e w' => e = .returned (.bool (sameL l m)) ∧ Below w.heap.size w w' := by
  have hro := hl.room
  have hmo := hl.most
  have qro := hm.room
  have qmo := hm.most
  unfold maxLen at hmo qmo
  have HRR := hid hl
  have HQR := hid hm
  clear hl hm
  by_cases t7 : l.length = m.length
  · obtain ⟨len, hle⟩ : ∃ n, n = l.length := ⟨_, rfl⟩
    have HLR := hid hle
    have HLQ : Hid (len = m.length) := hle.trans t7
    have hme : m.length = len := (hle.trans t7).symm
    rw [← hle, hme]
    rw [← hle] at hro
    rw [hme] at qro
    obtain ⟨SB, hSB⟩ : ∃ SB, SB = sameL l m := ⟨_, rfl⟩
    rw [← hSB]
    have HF := hid hSB
    clear hle t7 hme hSB
    go_enter Tryd.func32, Tryd.ntmps32
    go_wp2
    go_loopw [5] (fun x5 wr => ∃ k : Nat, k ≤ len ∧ x5 = .int .i64 (k : Int) ∧ Hid (Below w.heap.size w wr) ∧ Hid (SB = sameL (l.drop k) (m.drop k))) (fun x5 _ => len - (intOf x5).toNat)
    case atStart => exact ⟨0, by omega, rfl, Below.refl _ _, HF⟩
    case round =>
      obtain ⟨k, hk, rfl, HBV, HTE⟩ := hrel
      by_cases hlt : k < len
      · have hkz : (k : Int) < (len : Int) := by omega
        obtain ⟨b, off, rfl, hbw, hc⟩ := HRR.out.cells (by rw [← HLR.out]; omega)
        obtain ⟨b2, off2, rfl, hbw2, hc2⟩ := HQR.out.cells (by rw [← HLQ.out]; omega)
        have HX := hid (hc k (by rw [← HLR.out]; exact hlt))
        have HY := hid (hc2 k (by rw [← HLQ.out]; exact hlt))
        have HXR := hid (HRR.out.get (j := k) (by rw [← HLR.out]; exact hlt))
        have HYR := hid (HQR.out.get (j := k) (by rw [← HLQ.out]; exact hlt))
        have HST := hid (HTE.out.trans (sameL_step l m k (by rw [← HLR.out]; exact hlt) (by rw [← HLQ.out]; exact hlt)))
        have HBW := hid hbw
        have HBW2 := hid hbw2
        generalize l.getD k recZ = x at *
        generalize m.getD k recZ = y at *
        clear hc hc2 hbw hbw2 HTE
        go_wp2_with fail
        refine wp_region_held_drew (S := fun V => Below w.heap.size w V) (by kernel_rfl) HBV.out.drew (fun hS0 => ?_)
        generalize wr.drew = v0 at *
        simp only [List.size_toArray, List.length_cons, List.length_nil, Nat.reduceAdd]
        refine Ord.take (i := 0) (d := 17) (v := ?v0) rfl rfl (by as_aux_lemma => kernel_rfl) (by as_aux_lemma => kernel_rfl) (by as_aux_lemma => kernel_rfl) (fun _ _ _ h => h) (by rfl) ?hA0 (by assumption) ?_
        case hA0 => intro V hSw; go_simp; try with_reducible rfl
        try simp only [List.setIfInBounds_toArray, List.set_cons_zero, List.set_cons_succ]
        refine Ord.take (i := 1) (d := 18) (v := ?v1) rfl rfl (by as_aux_lemma => kernel_rfl) (by as_aux_lemma => kernel_rfl) (by as_aux_lemma => kernel_rfl) (fun _ _ _ h => h) (by rfl) ?hA1 (by assumption) ?_
        case hA1 => intro V hSw; go_simp; try with_reducible rfl
        try simp only [List.setIfInBounds_toArray, List.set_cons_zero, List.set_cons_succ]
        refine Ord.take (i := 2) (d := 19) (v := .pointer (some ⟨b, off + k * 38, none⟩)) rfl rfl (by as_aux_lemma => kernel_rfl) (by as_aux_lemma => kernel_rfl) (by as_aux_lemma => kernel_rfl) (fun _ _ _ h => h) (by rfl) ?hA2 (by assumption) ?_
        case hA2 => intro V hSw; go_simp; try with_reducible rfl
        try simp only [List.setIfInBounds_toArray, List.set_cons_zero, List.set_cons_succ]
        refine Ord.take (i := 3) (d := 20) (v := .agg x.cs.toArray) rfl rfl (by as_aux_lemma => kernel_rfl) (by as_aux_lemma => kernel_rfl) (by as_aux_lemma => kernel_rfl) (fun _ _ _ h => h) (by rfl) ?hA3 (by assumption) ?_
        case hA3 => intro V hSw; exact exec_load 27 (.tmp 19) rfl b (off + k * 38) rfl (load_rm (range_later HX.out hSw HBW.out) HXR.out.len)
        try simp only [List.setIfInBounds_toArray, List.set_cons_zero, List.set_cons_succ]
        refine Ord.take (i := 4) (d := 21) (v := ?v4) rfl rfl (by as_aux_lemma => kernel_rfl) (by as_aux_lemma => kernel_rfl) (by as_aux_lemma => kernel_rfl) (fun _ _ _ h => h) (by rfl) ?hA4 (by assumption) ?_
        case hA4 => intro V hSw; go_simp; try with_reducible rfl
        try simp only [List.setIfInBounds_toArray, List.set_cons_zero, List.set_cons_succ]
        refine Ord.take (i := 5) (d := 22) (v := ?v5) rfl rfl (by as_aux_lemma => kernel_rfl) (by as_aux_lemma => kernel_rfl) (by as_aux_lemma => kernel_rfl) (fun _ _ _ h => h) (by rfl) ?hA5 (by assumption) ?_
        case hA5 => intro V hSw; go_simp; try with_reducible rfl
        try simp only [List.setIfInBounds_toArray, List.set_cons_zero, List.set_cons_succ]
        refine Ord.take (i := 6) (d := 23) (v := .pointer (some ⟨b2, off2 + k * 38, none⟩)) rfl rfl (by as_aux_lemma => kernel_rfl) (by as_aux_lemma => kernel_rfl) (by as_aux_lemma => kernel_rfl) (fun _ _ _ h => h) (by rfl) ?hA6 (by assumption) ?_
        case hA6 => intro V hSw; go_simp; try with_reducible rfl
        try simp only [List.setIfInBounds_toArray, List.set_cons_zero, List.set_cons_succ]
        refine Ord.take (i := 7) (d := 24) (v := .agg y.cs.toArray) rfl rfl (by as_aux_lemma => kernel_rfl) (by as_aux_lemma => kernel_rfl) (by as_aux_lemma => kernel_rfl) (fun _ _ _ h => h) (by rfl) ?hA7 (by assumption) ?_
        case hA7 => intro V hSw; exact exec_load 27 (.tmp 23) rfl b2 (off2 + k * 38) rfl (load_rm (range_later HY.out hSw HBW2.out) HYR.out.len)
        try simp only [List.setIfInBounds_toArray, List.set_cons_zero, List.set_cons_succ]
        refine wpAnyH_ready (rs := [8]) (by as_aux_lemma => kernel_rfl) (by simp) (AllReadyH.cons rfl (fun K hK => ?_) AllReadyH.nil)
        go_simp
        refine (dsame_word x y v0 (HXR.out.later hS0) (HYR.out.later hS0)).mono ?_
        rintro _ v1 ⟨rfl, hb1⟩
        have hS1 := Bn hS0 hb1
        refine hK.out _ _ hS1 (fun _ => ?_)
        clear hK K hb1
        try simp only [List.setIfInBounds_toArray, List.set_cons_zero, List.set_cons_succ]
        generalize sameB x y = XY at *
        cases XY with
        | true =>
          refine Ord.take (i := 9) (d := 26) (v := .bool false) rfl rfl (by as_aux_lemma => kernel_rfl) (by as_aux_lemma => kernel_rfl) (by as_aux_lemma => kernel_rfl) (fun _ _ _ h => h) (by rfl) ?hB9 (by assumption) ?_
          case hB9 => intro V hSw; go_simp; try with_reducible rfl
          try simp only [List.setIfInBounds_toArray, List.set_cons_zero, List.set_cons_succ]
          refine wpAnyH_done (by as_aux_lemma => kernel_rfl) ?_ _
          go_wp2
          go_round
          case rel => exact ⟨k + 1, by omega, by go_num, hS1, by rw [HST.out]; rfl⟩
          case measure => simp [intOf]; omega
        | false =>
          have HFN : Hid (SB = false) := HST.out
          refine Ord.take (i := 9) (d := 26) (v := .bool true) rfl rfl (by as_aux_lemma => kernel_rfl) (by as_aux_lemma => kernel_rfl) (by as_aux_lemma => kernel_rfl) (fun _ _ _ h => h) (by rfl) ?hC9 (by assumption) ?_
          case hC9 => intro V hSw; go_simp; try with_reducible rfl
          try simp only [List.setIfInBounds_toArray, List.set_cons_zero, List.set_cons_succ]
          refine wpAnyH_done (by as_aux_lemma => kernel_rfl) ?_ _
          go_wp2
          go_ret
          exact ⟨by rw [HFN.out]; rfl, hS1⟩
      · have hkl : k = len := by omega
        have hkz : ¬ (k : Int) < (len : Int) := by omega
        have HFY : Hid (SB = true) := by
          show _ = _
          rw [HTE.out, List.drop_eq_nil_of_le (by rw [← HLR.out]; omega), List.drop_eq_nil_of_le (by rw [← HLQ.out]; omega)]
          rfl
        go_wp2
        go_ret
        exact ⟨by rw [HFY.out]; rfl, HBV.out⟩
  · have HD : Hid (sameL l m = false) := by
      show _ = _
      cases q : sameL l m with
      | false => rfl
      | true => exact absurd (sameL_len l m q) t7
    generalize sameL l m = DD at *
    generalize l.length = L1 at *
    generalize m.length = L2 at *
    go_enter Tryd.func32, Tryd.ntmps32
    go_wp2
    go_ret
    exact ⟨by rw [HD.out]; rfl, Below.refl _ _⟩
end Go.Proofs.YtpbaacplgohniaaDoor
