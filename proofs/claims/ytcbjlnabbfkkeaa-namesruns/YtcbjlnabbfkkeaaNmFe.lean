/-
  The document's Into (57), at the nil row and at any.
-/
import Derived.Test.YtcbjlnabbfkkeaaNmFd
namespace Go.Proofs.Ytcbjlnabbfkkeaa
open Go.ChangeShapes Go.WideShapes Go.ChangeAt Go.RowKit Go.Deep Go.Lib

theorem wp_append_dn {o : Oper} {a : Act} {w : World} {K : Act → World → Prop} {Q : Exit → Act → World → Prop} (s x : Operand)
    (ho : o.op = .call { callee := .builtin .append, args := #[s, x], argTypes := #[71, 71] }) (base : Nat) (v : Value) (n : Nat) (xs : List Value) (hs : a.eval s = v) (hown : w.ownsRow base 32 32 v n xs) (hx : a.eval x = .slice none 0 0)
    (h : K (a.put o.dst v) w) : o.wp Try.prog a w K Q := by
  obtain ⟨i0, hi, hz0, hz1, hz2⟩ := info_parts Try.info32
  have hrun := run_append_owned_none (P := Try.prog) (w := w) base 71 o.type 32 i0 32 Try.underlying71 hi v n xs hown
  unfold Oper.wp execOp
  simp only [ho, resolve, invoke, builtin, Sem.run_bind, Sem.run_pure, Result.andThen_ok, List.map_toArray, List.map_cons, List.map_nil, hs, hx, hrun]
  exact h
set_option maxHeartbeats 12800000 in
set_option maxRecDepth 100000 in
theorem into_nil (W : World) (D : List Int) (hD : D.length = 32) :
    Calls Try.prog 57 #[.slice none 0 0, .agg (u8A D)] W fun e w' => ∃ a' cap', e = .returned (.slice a' (intoL D []).length cap') ∧ Rw 32 dgC [] w' a' cap' (intoL D []) ∧ Below W.heap.size W w' := by
  obtain ⟨i0, hi, hz0, hz1, hz2⟩ := info_parts Try.info32
  have HDL := hid hD
  obtain ⟨W1, hW1⟩ : ∃ W1, W1 = W.alloc (.cells (u8A D) 32) := ⟨_, rfl⟩
  have HW1 := hid hW1
  have hbx : W1.heap[W.heap.size]? = some (.cells (u8A D) 32) := by rw [hW1]; exact heap_alc W _
  have HB0 : Hid (Below W.heap.size W W1) := by show Below _ _ _; rw [hW1]; exact bel_alc W _
  have HDR := hid (fun X (hX : Below W1.heap.size W1 X) => show X.rangeAt W.heap.size 0 (dgC D) from blk_range (blk_later hbx hX))
  clear hD hW1 hbx
  go_enter Try.func57, Try.ntmps57
  go_wp2
  rw [← HW1.out]
  go_loopw [5] (fun x5 wr => x5 = .int .i64 0 ∧ Hid (Below W1.heap.size W1 wr)) (fun _ _ => 0)
  case atStart => exact ⟨rfl, Below.refl _ _⟩
  case round =>
    obtain ⟨rfl, HB⟩ := hrel
    go_wp2_with fail
    refine wp_region_held_drew (S := fun X => Below W1.heap.size W1 X) (by kernel_rfl) (bel_drewS HB.out) (fun hS_v0 => ?_)
    generalize wr.drew = v0 at *
    simp only [List.size_toArray, List.length_cons, List.length_nil, Nat.reduceAdd]
    refine Ord.take (i := 0) (d := 6) (v := ?vR0) rfl rfl (by as_aux_lemma => kernel_rfl) (by as_aux_lemma => kernel_rfl) (by as_aux_lemma => kernel_rfl) (fun _ _ _ h => h) (by rfl) ?hR0 (by assumption) ?_
    case hR0 => intro wx hSw; go_simp; try with_reducible rfl
    try simp only [List.setIfInBounds_toArray, List.set_cons_zero, List.set_cons_succ]
    refine Ord.take (i := 1) (d := 7) (v := ?vR1) rfl rfl (by as_aux_lemma => kernel_rfl) (by as_aux_lemma => kernel_rfl) (by as_aux_lemma => kernel_rfl) (fun _ _ _ h => h) (by rfl) ?hR1 (by assumption) ?_
    case hR1 => intro wx hSw; go_simp; try with_reducible rfl
    try simp only [List.setIfInBounds_toArray, List.set_cons_zero, List.set_cons_succ]
    refine Ord.take (i := 2) (d := 8) (v := ?vR2) rfl rfl (by as_aux_lemma => kernel_rfl) (by as_aux_lemma => kernel_rfl) (by as_aux_lemma => kernel_rfl) (fun _ _ _ h => h) (by rfl) ?hR2 (by assumption) ?_
    case hR2 => intro wx hSw; go_simp; try with_reducible rfl
    try simp only [List.setIfInBounds_toArray, List.set_cons_zero, List.set_cons_succ]
    refine Ord.take (i := 3) (d := 9) (v := .bool false) rfl rfl (by as_aux_lemma => kernel_rfl) (by as_aux_lemma => kernel_rfl) (by as_aux_lemma => kernel_rfl) (fun _ _ _ h => h) (by rfl) ?hR3 (by assumption) ?_
    case hR3 => intro wx hSw; go_simp; try with_reducible rfl
    try simp only [List.setIfInBounds_toArray, List.set_cons_zero, List.set_cons_succ]
    refine Ord.take (i := 4) (d := 10) (v := ?vR4) rfl rfl (by as_aux_lemma => kernel_rfl) (by as_aux_lemma => kernel_rfl) (by as_aux_lemma => kernel_rfl) (fun _ _ _ h => h) (by rfl) ?hR4 (by assumption) ?_
    case hR4 => intro wx hSw; go_simp; try with_reducible rfl
    try simp only [List.setIfInBounds_toArray, List.set_cons_zero, List.set_cons_succ]
    refine Ord.skip (i := 5) (d := 11) rfl rfl (by as_aux_lemma => kernel_rfl) (by as_aux_lemma => kernel_rfl) (by as_aux_lemma => kernel_rfl) (fun _ _ _ h => h) (by rfl) (by assumption) ?_
    try simp only [List.setIfInBounds_toArray, List.set_cons_zero, List.set_cons_succ]
    refine Ord.skip (i := 6) (d := 12) rfl rfl (by as_aux_lemma => kernel_rfl) (by as_aux_lemma => kernel_rfl) (by as_aux_lemma => kernel_rfl) (fun _ _ _ h => h) (by rfl) (by assumption) ?_
    try simp only [List.setIfInBounds_toArray, List.set_cons_zero, List.set_cons_succ]
    refine Ord.skip (i := 7) (d := 13) rfl rfl (by as_aux_lemma => kernel_rfl) (by as_aux_lemma => kernel_rfl) (by as_aux_lemma => kernel_rfl) (fun _ _ _ h => h) (by rfl) (by assumption) ?_
    try simp only [List.setIfInBounds_toArray, List.set_cons_zero, List.set_cons_succ]
    refine Ord.skip (i := 8) (d := 14) rfl rfl (by as_aux_lemma => kernel_rfl) (by as_aux_lemma => kernel_rfl) (by as_aux_lemma => kernel_rfl) (fun _ _ _ h => h) (by rfl) (by assumption) ?_
    try simp only [List.setIfInBounds_toArray, List.set_cons_zero, List.set_cons_succ]
    refine Ord.skip (i := 9) (d := 15) rfl rfl (by as_aux_lemma => kernel_rfl) (by as_aux_lemma => kernel_rfl) (by as_aux_lemma => kernel_rfl) (fun _ _ _ h => h) (by rfl) (by assumption) ?_
    try simp only [List.setIfInBounds_toArray, List.set_cons_zero, List.set_cons_succ]
    refine Ord.skip (i := 10) (d := 16) rfl rfl (by as_aux_lemma => kernel_rfl) (by as_aux_lemma => kernel_rfl) (by as_aux_lemma => kernel_rfl) (fun _ _ _ h => h) (by rfl) (by assumption) ?_
    try simp only [List.setIfInBounds_toArray, List.set_cons_zero, List.set_cons_succ]
    refine Ord.take (i := 11) (d := 17) (v := .bool false) rfl rfl (by as_aux_lemma => kernel_rfl) (by as_aux_lemma => kernel_rfl) (by as_aux_lemma => kernel_rfl) (fun _ _ _ h => h) (by rfl) ?hR11 (by assumption) ?_
    case hR11 => intro wx hSw; go_simp; try with_reducible rfl
    try simp only [List.setIfInBounds_toArray, List.set_cons_zero, List.set_cons_succ]
    refine wpAnyH_done (by as_aux_lemma => kernel_rfl) ?_ _
    go_wp2_with fail
    refine wp_region_held_drew (S := fun X => Below W1.heap.size W1 X) (by kernel_rfl) (bel_drewS hS_v0) (fun hS_v2 => ?_)
    generalize v0.drew = v2 at *
    simp only [List.size_toArray, List.length_cons, List.length_nil, Nat.reduceAdd]
    refine Ord.take (i := 0) (d := 20) (v := ?vU0) rfl rfl (by as_aux_lemma => kernel_rfl) (by as_aux_lemma => kernel_rfl) (by as_aux_lemma => kernel_rfl) (fun _ _ _ h => h) (by rfl) ?hU0 (by assumption) ?_
    case hU0 => intro wx hSw; go_simp; try with_reducible rfl
    try simp only [List.setIfInBounds_toArray, List.set_cons_zero, List.set_cons_succ]
    refine Ord.take (i := 1) (d := 21) (v := ?vU1) rfl rfl (by as_aux_lemma => kernel_rfl) (by as_aux_lemma => kernel_rfl) (by as_aux_lemma => kernel_rfl) (fun _ _ _ h => h) (by rfl) ?hU1 (by assumption) ?_
    case hU1 => intro wx hSw; go_simp; try with_reducible rfl
    try simp only [List.setIfInBounds_toArray, List.set_cons_zero, List.set_cons_succ]
    refine Ord.take (i := 2) (d := 22) (v := ?vU2) rfl rfl (by as_aux_lemma => kernel_rfl) (by as_aux_lemma => kernel_rfl) (by as_aux_lemma => kernel_rfl) (fun _ _ _ h => h) (by rfl) ?hU2 (by assumption) ?_
    case hU2 => intro wx hSw; go_simp; try with_reducible rfl
    try simp only [List.setIfInBounds_toArray, List.set_cons_zero, List.set_cons_succ]
    refine Ord.take (i := 3) (d := 23) (v := .bool false) rfl rfl (by as_aux_lemma => kernel_rfl) (by as_aux_lemma => kernel_rfl) (by as_aux_lemma => kernel_rfl) (fun _ _ _ h => h) (by rfl) ?hU3 (by assumption) ?_
    case hU3 => intro wx hSw; go_simp; try with_reducible rfl
    try simp only [List.setIfInBounds_toArray, List.set_cons_zero, List.set_cons_succ]
    refine Ord.take (i := 4) (d := 24) (v := ?vU4) rfl rfl (by as_aux_lemma => kernel_rfl) (by as_aux_lemma => kernel_rfl) (by as_aux_lemma => kernel_rfl) (fun _ _ _ h => h) (by rfl) ?hU4 (by assumption) ?_
    case hU4 => intro wx hSw; go_simp; try with_reducible rfl
    try simp only [List.setIfInBounds_toArray, List.set_cons_zero, List.set_cons_succ]
    refine Ord.skip (i := 5) (d := 25) rfl rfl (by as_aux_lemma => kernel_rfl) (by as_aux_lemma => kernel_rfl) (by as_aux_lemma => kernel_rfl) (fun _ _ _ h => h) (by rfl) (by assumption) ?_
    try simp only [List.setIfInBounds_toArray, List.set_cons_zero, List.set_cons_succ]
    refine Ord.skip (i := 6) (d := 26) rfl rfl (by as_aux_lemma => kernel_rfl) (by as_aux_lemma => kernel_rfl) (by as_aux_lemma => kernel_rfl) (fun _ _ _ h => h) (by rfl) (by assumption) ?_
    try simp only [List.setIfInBounds_toArray, List.set_cons_zero, List.set_cons_succ]
    refine Ord.skip (i := 7) (d := 27) rfl rfl (by as_aux_lemma => kernel_rfl) (by as_aux_lemma => kernel_rfl) (by as_aux_lemma => kernel_rfl) (fun _ _ _ h => h) (by rfl) (by assumption) ?_
    try simp only [List.setIfInBounds_toArray, List.set_cons_zero, List.set_cons_succ]
    refine Ord.skip (i := 8) (d := 28) rfl rfl (by as_aux_lemma => kernel_rfl) (by as_aux_lemma => kernel_rfl) (by as_aux_lemma => kernel_rfl) (fun _ _ _ h => h) (by rfl) (by assumption) ?_
    try simp only [List.setIfInBounds_toArray, List.set_cons_zero, List.set_cons_succ]
    refine Ord.skip (i := 9) (d := 29) rfl rfl (by as_aux_lemma => kernel_rfl) (by as_aux_lemma => kernel_rfl) (by as_aux_lemma => kernel_rfl) (fun _ _ _ h => h) (by rfl) (by assumption) ?_
    try simp only [List.setIfInBounds_toArray, List.set_cons_zero, List.set_cons_succ]
    refine Ord.skip (i := 10) (d := 30) rfl rfl (by as_aux_lemma => kernel_rfl) (by as_aux_lemma => kernel_rfl) (by as_aux_lemma => kernel_rfl) (fun _ _ _ h => h) (by rfl) (by assumption) ?_
    try simp only [List.setIfInBounds_toArray, List.set_cons_zero, List.set_cons_succ]
    refine Ord.take (i := 11) (d := 31) (v := .bool false) rfl rfl (by as_aux_lemma => kernel_rfl) (by as_aux_lemma => kernel_rfl) (by as_aux_lemma => kernel_rfl) (fun _ _ _ h => h) (by rfl) ?hU11 (by assumption) ?_
    case hU11 => intro wx hSw; go_simp; try with_reducible rfl
    try simp only [List.setIfInBounds_toArray, List.set_cons_zero, List.set_cons_succ]
    refine wpAnyH_done (by as_aux_lemma => kernel_rfl) ?_ _
    go_wp2_with fail
    refine wp_region_held_drew (S := fun X => Below W1.heap.size W1 X) (by kernel_rfl) (bel_drewS hS_v2) (fun hS_v3 => ?_)
    generalize v2.drew = v3 at *
    simp only [List.size_toArray, List.length_cons, List.length_nil, Nat.reduceAdd]
    refine Ord.take (i := 1) (d := 34) (v := ?vX1) rfl rfl (by as_aux_lemma => kernel_rfl) (by as_aux_lemma => kernel_rfl) (by as_aux_lemma => kernel_rfl) (fun _ _ _ h => h) (by rfl) ?hX1 (by assumption) ?_
    case hX1 => intro wx hSw; go_simp; try with_reducible rfl
    try simp only [List.setIfInBounds_toArray, List.set_cons_zero, List.set_cons_succ]
    refine Ord.take (i := 2) (d := 35) (v := ?vX2) rfl rfl (by as_aux_lemma => kernel_rfl) (by as_aux_lemma => kernel_rfl) (by as_aux_lemma => kernel_rfl) (fun _ _ _ h => h) (by rfl) ?hX2 (by assumption) ?_
    case hX2 => intro wx hSw; go_simp; try with_reducible rfl
    try simp only [List.setIfInBounds_toArray, List.set_cons_zero, List.set_cons_succ]
    refine Ord.take (i := 3) (d := 36) (v := .slice none 0 0) rfl rfl (by as_aux_lemma => kernel_rfl) (by as_aux_lemma => kernel_rfl) (by as_aux_lemma => kernel_rfl) (fun _ _ _ h => h) (by rfl) ?hX3 (by assumption) ?_
    case hX3 => intro wx hSw; go_simp; try with_reducible rfl
    try simp only [List.setIfInBounds_toArray, List.set_cons_zero, List.set_cons_succ]
    refine Ord.take (i := 5) (d := 38) (v := .agg (dgC D).toArray) rfl rfl (by as_aux_lemma => kernel_rfl) (by as_aux_lemma => kernel_rfl) (by as_aux_lemma => kernel_rfl) (fun _ _ _ h => h) (by rfl) ?hX5 (by assumption) ?_
    case hX5 => intro wx hSw; exact exec_load 32 (.tmp 3) rfl W.heap.size 0 rfl (run_loadVar_mid wx W.heap.size 0 32 (dgC D) _ (HDR.out _ hSw) Try.underlying32 rfl (by rw [dgC_len HDL.out]; exact Try.size32'))
    try simp only [List.setIfInBounds_toArray, List.set_cons_zero, List.set_cons_succ]
    refine Ord.take (i := 8) (d := 41) (v := ?vX8) rfl rfl (by as_aux_lemma => kernel_rfl) (by as_aux_lemma => kernel_rfl) (by as_aux_lemma => kernel_rfl) (fun _ _ _ h => h) (by rfl) ?hX8 (by assumption) ?_
    case hX8 => intro wx hSw; go_simp; try with_reducible rfl
    try simp only [List.setIfInBounds_toArray, List.set_cons_zero, List.set_cons_succ]
    refine Ord.take (i := 9) (d := 42) (v := ?vX9) rfl rfl (by as_aux_lemma => kernel_rfl) (by as_aux_lemma => kernel_rfl) (by as_aux_lemma => kernel_rfl) (fun _ _ _ h => h) (by rfl) ?hX9 (by assumption) ?_
    case hX9 => intro wx hSw; go_simp; try with_reducible rfl
    try simp only [List.setIfInBounds_toArray, List.set_cons_zero, List.set_cons_succ]
    refine Ord.take (i := 10) (d := 43) (v := .slice none 0 0) rfl rfl (by as_aux_lemma => kernel_rfl) (by as_aux_lemma => kernel_rfl) (by as_aux_lemma => kernel_rfl) (fun _ _ _ h => h) (by rfl) ?hX10 (by assumption) ?_
    case hX10 => intro wx hSw; go_simp; try with_reducible rfl
    try simp only [List.setIfInBounds_toArray, List.set_cons_zero, List.set_cons_succ]
    refine wpAnyH_ready (rs := [0, 6]) (by as_aux_lemma => kernel_rfl) (by simp) (AllReadyH.cons rfl (fun K hK => ?_) (AllReadyH.cons rfl (fun K hK => ?_) (AllReadyH.nil)))
    · rw [if_pos (by rfl)]
      refine wp_buildEmptyD rfl W1.heap.size v3.heap.size hS_v3.size rfl (fun va HOE_va HBE_va => ?_)
      have hS_va : Below W1.heap.size W1 va := Bn hS_v3 HBE_va.out
      refine hK.out _ _ hS_va (fun _ => ?_)
      clear hK K
      try simp only [List.setIfInBounds_toArray, List.set_cons_zero, List.set_cons_succ]
      refine wpAnyH_ready (rs := [4, 6]) (by as_aux_lemma => kernel_rfl) (by simp) (AllReadyH.cons rfl (fun K hK => ?_) (AllReadyH.cons rfl (fun K hK => ?_) (AllReadyH.nil)))
      · rw [if_pos (by rfl)]
        refine wp_append_dn _ _ rfl W1.heap.size _ 0 [] rfl HOE_va.out rfl ?_
        refine hK.out _ _ hS_va (fun _ => ?_)
        clear hK K
        try simp only [List.setIfInBounds_toArray, List.set_cons_zero, List.set_cons_succ]
        refine wpAnyH_ready (rs := [6]) (by as_aux_lemma => kernel_rfl) (by simp) (AllReadyH.cons rfl (fun K hK => ?_) (AllReadyH.nil))
        rw [if_pos (by rfl)]
        refine wp_buildOne_W 71 32 _ rfl (dgC D).toArray i0 _ Try.underlying71 hi hz0 (by rw [hz1, List.size_toArray, dgC_len HDL.out]) (by rw [List.size_toArray, dgC_len HDL.out]; decide) (by rw [List.size_toArray, dgC_len HDL.out]; decide) rfl va.heap.size rfl ?_
        intro vc HG_vc HB_vc
        have hS_vc : Below W1.heap.size W1 vc := Bn hS_va HB_vc.out
        refine hK.out _ _ hS_vc (fun _ => ?_)
        clear hK K
        try simp only [List.setIfInBounds_toArray, List.set_cons_zero, List.set_cons_succ]
        refine wpAnyH_ready (rs := [7]) (by as_aux_lemma => kernel_rfl) (by simp) (AllReadyH.cons rfl (fun K hK => ?_) (AllReadyH.nil))
        rw [if_pos (by rfl)]
        refine wp_append_own _ _ _ 71 rfl W1.heap.size 32 i0 _ 32 32 Try.underlying71 hi hz0 hz1 hz2 rfl (by decide) _ 0 _ rfl (own_later HOE_va.out HB_vc.out) ⟨va.heap.size, 0, none⟩ 1 1 (dgC D) rfl (by rw [dgC_len HDL.out]) (fun j u hu => (by rw [add_plain, Nat.zero_add]; exact (Joins.cell_of_block HG_vc.out j).trans (by rw [List.getElem?_toArray]; exact hu))) (dgC_one D) (by unfold maxLen; omega) (by omega) hS_vc.size (fun v40 vx HP_x HB_x _ => ?_)
        have hS_vx : Below W1.heap.size W1 vx := hS_vc.trans ((Below.refl _ _).grown HB_x hS_vc.size (fun j hj => ((own_later HOE_va.out HB_vc.out).lt j hj).1))
        have HO_vx := hid HP_x
        clear HP_x HB_x
        refine hK.out _ _ hS_vx (fun _ => ?_)
        clear hK K
        try simp only [List.setIfInBounds_toArray, List.set_cons_zero, List.set_cons_succ]
        refine wpAnyH_ready (rs := [11]) (by as_aux_lemma => kernel_rfl) (by simp) (AllReadyH.cons rfl (fun K hK => ?_) (AllReadyH.nil))
        rw [if_pos (by rfl)]
        refine wp_append_dn _ _ rfl W1.heap.size _ (0 + 1) ([] ++ dgC D) rfl HO_vx.out rfl ?_
        refine hK.out _ _ hS_vx (fun _ => ?_)
        clear hK K
        try simp only [List.setIfInBounds_toArray, List.set_cons_zero, List.set_cons_succ]
        have HOF : Hid (vx.ownsRow W1.heap.size 32 32 v40 (intoL D []).length ((intoL D []).flatMap dgC)) := by
          have h := HO_vx.out
          show World.ownsRow _ _ _ _ _ _ _
          simpa [intoL] using h
        refine Ord.take (i := 12) (d := 4) (v := ?vXB12) rfl rfl (by as_aux_lemma => kernel_rfl) (by as_aux_lemma => kernel_rfl) (by as_aux_lemma => kernel_rfl) (fun _ _ _ h => h) (by rfl) ?hXB12 (by assumption) ?_
        case hXB12 => intro wx hSw; go_simp; try with_reducible rfl
        try simp only [List.setIfInBounds_toArray, List.set_cons_zero, List.set_cons_succ]
        refine wpAnyH_done (by as_aux_lemma => kernel_rfl) ?_ _
        obtain ⟨a6, cap6, hv6, hrw, _⟩ := Rw.own (z := ([] : List Int)) HOF.out (fun y hy => dgC_len ((into_mem D [] y).1 hy |>.elim (fun e => by rw [e]; exact HDL.out) (fun h => by cases h)))
        subst hv6
        have HRW := hid hrw
        have HS9 := hid (HB0.out.trans (hS_vx.mono HB0.out.size))
        clear hrw HOF
        go_wp2
        go_ret
        exact ⟨a6, cap6, rfl, HRW.out, HS9.out⟩
      · rw [if_pos (by rfl)]
        refine wp_buildOne_W 71 32 _ rfl (dgC D).toArray i0 _ Try.underlying71 hi hz0 (by rw [hz1, List.size_toArray, dgC_len HDL.out]) (by rw [List.size_toArray, dgC_len HDL.out]; decide) (by rw [List.size_toArray, dgC_len HDL.out]; decide) rfl va.heap.size rfl ?_
        intro vb HG_vb HB_vb
        have hS_vb : Below W1.heap.size W1 vb := Bn hS_va HB_vb.out
        refine hK.out _ _ hS_vb (fun _ => ?_)
        clear hK K
        try simp only [List.setIfInBounds_toArray, List.set_cons_zero, List.set_cons_succ]
        refine wpAnyH_ready (rs := [4]) (by as_aux_lemma => kernel_rfl) (by simp) (AllReadyH.cons rfl (fun K hK => ?_) (AllReadyH.nil))
        rw [if_pos (by rfl)]
        refine wp_append_dn _ _ rfl W1.heap.size _ 0 [] rfl (own_later HOE_va.out HB_vb.out) rfl ?_
        refine hK.out _ _ hS_vb (fun _ => ?_)
        clear hK K
        try simp only [List.setIfInBounds_toArray, List.set_cons_zero, List.set_cons_succ]
        refine wpAnyH_ready (rs := [7]) (by as_aux_lemma => kernel_rfl) (by simp) (AllReadyH.cons rfl (fun K hK => ?_) (AllReadyH.nil))
        rw [if_pos (by rfl)]
        refine wp_append_own _ _ _ 71 rfl W1.heap.size 32 i0 _ 32 32 Try.underlying71 hi hz0 hz1 hz2 rfl (by decide) _ 0 _ rfl (own_later HOE_va.out HB_vb.out) ⟨va.heap.size, 0, none⟩ 1 1 (dgC D) rfl (by rw [dgC_len HDL.out]) (fun j u hu => (by rw [add_plain, Nat.zero_add]; exact (Joins.cell_of_block HG_vb.out j).trans (by rw [List.getElem?_toArray]; exact hu))) (dgC_one D) (by unfold maxLen; omega) (by omega) hS_vb.size (fun v40 vx HP_x HB_x _ => ?_)
        have hS_vx : Below W1.heap.size W1 vx := hS_vb.trans ((Below.refl _ _).grown HB_x hS_vb.size (fun j hj => ((own_later HOE_va.out HB_vb.out).lt j hj).1))
        have HO_vx := hid HP_x
        clear HP_x HB_x
        refine hK.out _ _ hS_vx (fun _ => ?_)
        clear hK K
        try simp only [List.setIfInBounds_toArray, List.set_cons_zero, List.set_cons_succ]
        refine wpAnyH_ready (rs := [11]) (by as_aux_lemma => kernel_rfl) (by simp) (AllReadyH.cons rfl (fun K hK => ?_) (AllReadyH.nil))
        rw [if_pos (by rfl)]
        refine wp_append_dn _ _ rfl W1.heap.size _ (0 + 1) ([] ++ dgC D) rfl HO_vx.out rfl ?_
        refine hK.out _ _ hS_vx (fun _ => ?_)
        clear hK K
        try simp only [List.setIfInBounds_toArray, List.set_cons_zero, List.set_cons_succ]
        have HOF : Hid (vx.ownsRow W1.heap.size 32 32 v40 (intoL D []).length ((intoL D []).flatMap dgC)) := by
          have h := HO_vx.out
          show World.ownsRow _ _ _ _ _ _ _
          simpa [intoL] using h
        refine Ord.take (i := 12) (d := 4) (v := ?vXC12) rfl rfl (by as_aux_lemma => kernel_rfl) (by as_aux_lemma => kernel_rfl) (by as_aux_lemma => kernel_rfl) (fun _ _ _ h => h) (by rfl) ?hXC12 (by assumption) ?_
        case hXC12 => intro wx hSw; go_simp; try with_reducible rfl
        try simp only [List.setIfInBounds_toArray, List.set_cons_zero, List.set_cons_succ]
        refine wpAnyH_done (by as_aux_lemma => kernel_rfl) ?_ _
        obtain ⟨a6, cap6, hv6, hrw, _⟩ := Rw.own (z := ([] : List Int)) HOF.out (fun y hy => dgC_len ((into_mem D [] y).1 hy |>.elim (fun e => by rw [e]; exact HDL.out) (fun h => by cases h)))
        subst hv6
        have HRW := hid hrw
        have HS9 := hid (HB0.out.trans (hS_vx.mono HB0.out.size))
        clear hrw HOF
        go_wp2
        go_ret
        exact ⟨a6, cap6, rfl, HRW.out, HS9.out⟩
    · rw [if_pos (by rfl)]
      refine wp_buildOne_W 71 32 _ rfl (dgC D).toArray i0 _ Try.underlying71 hi hz0 (by rw [hz1, List.size_toArray, dgC_len HDL.out]) (by rw [List.size_toArray, dgC_len HDL.out]; decide) (by rw [List.size_toArray, dgC_len HDL.out]; decide) rfl v3.heap.size rfl ?_
      intro va HG_va HB_va
      have hS_va : Below W1.heap.size W1 va := Bn hS_v3 HB_va.out
      refine hK.out _ _ hS_va (fun _ => ?_)
      clear hK K
      try simp only [List.setIfInBounds_toArray, List.set_cons_zero, List.set_cons_succ]
      refine wpAnyH_ready (rs := [0]) (by as_aux_lemma => kernel_rfl) (by simp) (AllReadyH.cons rfl (fun K hK => ?_) (AllReadyH.nil))
      rw [if_pos (by rfl)]
      refine wp_buildEmptyD rfl W1.heap.size va.heap.size hS_va.size rfl (fun vb HOE_vb HBE_vb => ?_)
      have hS_vb : Below W1.heap.size W1 vb := Bn hS_va HBE_vb.out
      refine hK.out _ _ hS_vb (fun _ => ?_)
      clear hK K
      try simp only [List.setIfInBounds_toArray, List.set_cons_zero, List.set_cons_succ]
      refine wpAnyH_ready (rs := [4]) (by as_aux_lemma => kernel_rfl) (by simp) (AllReadyH.cons rfl (fun K hK => ?_) (AllReadyH.nil))
      rw [if_pos (by rfl)]
      refine wp_append_dn _ _ rfl W1.heap.size _ 0 [] rfl HOE_vb.out rfl ?_
      refine hK.out _ _ hS_vb (fun _ => ?_)
      clear hK K
      try simp only [List.setIfInBounds_toArray, List.set_cons_zero, List.set_cons_succ]
      have hne : v3.heap.size < va.heap.size := (Array.getElem?_eq_some_iff.1 HG_va.out).1
      have HGb : Hid (vb.heap[v3.heap.size]? = some (.cells (dgC D).toArray 32)) := (HBE_vb.out.block _ hne).trans HG_va.out
      refine wpAnyH_ready (rs := [7]) (by as_aux_lemma => kernel_rfl) (by simp) (AllReadyH.cons rfl (fun K hK => ?_) (AllReadyH.nil))
      rw [if_pos (by rfl)]
      refine wp_append_own _ _ _ 71 rfl W1.heap.size 32 i0 _ 32 32 Try.underlying71 hi hz0 hz1 hz2 rfl (by decide) _ 0 _ rfl HOE_vb.out ⟨v3.heap.size, 0, none⟩ 1 1 (dgC D) rfl (by rw [dgC_len HDL.out]) (fun j u hu => (by rw [add_plain, Nat.zero_add]; exact (Joins.cell_of_block HGb.out j).trans (by rw [List.getElem?_toArray]; exact hu))) (dgC_one D) (by unfold maxLen; omega) (by omega) hS_vb.size (fun v40 vx HP_x HB_x _ => ?_)
      have hS_vx : Below W1.heap.size W1 vx := hS_vb.trans ((Below.refl _ _).grown HB_x hS_vb.size (fun j hj => (HOE_vb.out.lt j hj).1))
      have HO_vx := hid HP_x
      clear HP_x HB_x
      refine hK.out _ _ hS_vx (fun _ => ?_)
      clear hK K
      try simp only [List.setIfInBounds_toArray, List.set_cons_zero, List.set_cons_succ]
      refine wpAnyH_ready (rs := [11]) (by as_aux_lemma => kernel_rfl) (by simp) (AllReadyH.cons rfl (fun K hK => ?_) (AllReadyH.nil))
      rw [if_pos (by rfl)]
      refine wp_append_dn _ _ rfl W1.heap.size _ (0 + 1) ([] ++ dgC D) rfl HO_vx.out rfl ?_
      refine hK.out _ _ hS_vx (fun _ => ?_)
      clear hK K
      try simp only [List.setIfInBounds_toArray, List.set_cons_zero, List.set_cons_succ]
      have HOF : Hid (vx.ownsRow W1.heap.size 32 32 v40 (intoL D []).length ((intoL D []).flatMap dgC)) := by
        have h := HO_vx.out
        show World.ownsRow _ _ _ _ _ _ _
        simpa [intoL] using h
      refine Ord.take (i := 12) (d := 4) (v := ?vXD12) rfl rfl (by as_aux_lemma => kernel_rfl) (by as_aux_lemma => kernel_rfl) (by as_aux_lemma => kernel_rfl) (fun _ _ _ h => h) (by rfl) ?hXD12 (by assumption) ?_
      case hXD12 => intro wx hSw; go_simp; try with_reducible rfl
      try simp only [List.setIfInBounds_toArray, List.set_cons_zero, List.set_cons_succ]
      refine wpAnyH_done (by as_aux_lemma => kernel_rfl) ?_ _
      obtain ⟨a6, cap6, hv6, hrw, _⟩ := Rw.own (z := ([] : List Int)) HOF.out (fun y hy => dgC_len ((into_mem D [] y).1 hy |>.elim (fun e => by rw [e]; exact HDL.out) (fun h => by cases h)))
      subst hv6
      have HRW := hid hrw
      have HS9 := hid (HB0.out.trans (hS_vx.mono HB0.out.size))
      clear hrw HOF
      go_wp2
      go_ret
      exact ⟨a6, cap6, rfl, HRW.out, HS9.out⟩
/-- At any row: one of no digests is nil. -/
theorem into_any (W : World) (a : Option Addr) (cap : Nat) (A : List (List Int)) (hA : Rw 32 dgC [] W a cap A) (h0 : A.length = 0 → a = none ∧ cap = 0) (h32 : ∀ x ∈ A, x.length = 32) (hn : A.length ≤ 200000) (D : List Int) (hD : D.length = 32) :
    Calls Try.prog 57 #[.slice a A.length cap, .agg (u8A D)] W fun e w' => ∃ a' cap', e = .returned (.slice a' (intoL D A).length cap') ∧ Rw 32 dgC [] w' a' cap' (intoL D A) ∧ Below W.heap.size W w' := by
  by_cases hl : A.length = 0
  · obtain ⟨rfl, rfl⟩ := h0 hl
    obtain rfl := List.eq_nil_of_length_eq_zero hl
    exact into_nil W D hD
  · obtain ⟨b, o, rfl, _⟩ := hA.cells (Nat.pos_of_ne_zero hl)
    exact into_word W b o cap A hA (Nat.pos_of_ne_zero hl) h32 hn D hD
end Go.Proofs.Ytcbjlnabbfkkeaa
