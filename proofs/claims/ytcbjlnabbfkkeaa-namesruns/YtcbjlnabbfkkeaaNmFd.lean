/-
  The document's Into (57), at a row that is not empty.
-/
import Derived.Test.YtcbjlnabbfkkeaaNmFb
namespace Go.Proofs.Ytcbjlnabbfkkeaa
open Go.ChangeShapes Go.WideShapes Go.ChangeAt Go.RowKit Go.Deep Go.Lib

set_option maxHeartbeats 12800000 in
set_option maxRecDepth 100000 in
theorem into_word (W : World) (b o cap : Nat) (A : List (List Int)) (hA : Rw 32 dgC [] W (some ⟨b, o, none⟩) cap A) (h0 : 0 < A.length) (h32 : ∀ x ∈ A, x.length = 32) (hn : A.length ≤ 200000) (D : List Int) (hD : D.length = 32) :
    Calls Try.prog 57 #[.slice (some ⟨b, o, none⟩) A.length cap, .agg (u8A D)] W fun e w' => ∃ a' cap', e = .returned (.slice a' (intoL D A).length cap') ∧ Rw 32 dgC [] w' a' cap' (intoL D A) ∧ Below W.heap.size W w' := by
  obtain ⟨i0, hi, hz0, hz1, hz2⟩ := info_parts Try.info32
  have HDL := hid hD
  have H32 := hid h32
  have hroom := hA.room
  have HA := hid hA
  obtain ⟨W1, hW1⟩ : ∃ W1, W1 = W.alloc (.cells (u8A D) 32) := ⟨_, rfl⟩
  have HW1 := hid hW1
  have hbx : W1.heap[W.heap.size]? = some (.cells (u8A D) 32) := by rw [hW1]; exact heap_alc W _
  have HB0 : Hid (Below W.heap.size W W1) := by show Below _ _ _; rw [hW1]; exact bel_alc W _
  have HDR := hid (fun X (hX : Below W1.heap.size W1 X) => show X.rangeAt W.heap.size 0 (dgC D) from blk_range (blk_later hbx hX))
  have hcs : ∀ j, j < A.length → W1.rangeAt b (o + j * 32) (dgC (A.getD j [])) := fun j hj => by
    obtain ⟨b2, o2, e, hb2, hc2⟩ := hA.cells h0
    injection e with e
    injection e with e1 e2
    subst e1
    subst e2
    exact range_later (hc2 j hj) HB0.out hb2
  have hbl : b < W1.heap.size := by
    obtain ⟨b2, o2, e, hb2, hc2⟩ := hA.cells h0
    injection e with e
    injection e with e1 e2
    subst e1
    exact Nat.lt_of_lt_of_le hb2 HB0.out.size
  have HCS := hid (fun X (hX : Below W1.heap.size W1 X) j (hj : j < A.length) => range_later (hcs j hj) hX hbl)
  obtain ⟨n, hnn⟩ : ∃ n, n = A.length := ⟨_, rfl⟩
  have HN := hid hnn
  rw [← hnn] at hn hroom ⊢
  clear hA h0 h32 hD hW1 hbx hcs hbl hnn
  go_enter Try.func57, Try.ntmps57
  go_wp2
  rw [← HW1.out]
  go_loopw [5] (fun x5 wr => ∃ k : Nat, k ≤ n ∧ x5 = .int .i64 (k : Int) ∧ Hid (∀ j, j < k → ltI (A.getD j []) D = true) ∧ Hid (Below W1.heap.size W1 wr)) (fun x5 _ => n - (intOf x5).toNat)
  case atStart => exact ⟨0, by omega, rfl, (fun j hj => by omega), Below.refl _ _⟩
  case round =>
    obtain ⟨k, hk, rfl, HLT, HB⟩ := hrel
    have hkc : (k : Int) ≤ (cap : Int) := by omega
    have hkn2 : (k : Int) ≤ (n : Int) := by omega
    obtain ⟨oz, hoz⟩ : ∃ oz, oz = if cap = k then 0 else k * 32 := ⟨_, rfl⟩
    have HTL : Hid ((A.take k).length = k) := by show _ = _; rw [List.length_take]; rw [← HN.out]; omega
    have HDN : Hid ((A.drop k).length = n - k) := by show _ = _; rw [List.length_drop, ← HN.out]
    have HTK : Hid (∀ X, Below W1.heap.size W1 X → ∀ j, j < (A.take k).length → ∀ i u, (dgC ((A.take k).getD j []))[i]? = some u → X.cell? ((⟨b, o, none⟩ : Addr).add (j * 32 + i)) = some u) := fun X hX j hj i u hu => by
      rw [HTL.out] at hj
      have e : (A.take k).getD j [] = A.getD j [] := by simp [List.getD, hj]
      rw [e] at hu
      rw [add_plain, show o + (j * 32 + i) = o + j * 32 + i from by omega]
      exact HCS.out X hX j (by rw [← HN.out]; omega) i u hu
    have HDP : Hid (∀ X, Below W1.heap.size W1 X → ∀ j, j < (A.drop k).length → ∀ i u, (dgC ((A.drop k).getD j []))[i]? = some u → X.cell? ((⟨b, o + oz, none⟩ : Addr).add (j * 32 + i)) = some u) := fun X hX j hj i u hu => by
      rw [HDN.out] at hj
      rw [hoz, if_neg (by omega)]
      have e : (A.drop k).getD j [] = A.getD (k + j) [] := by simp [List.getD, List.getElem?_drop]
      rw [e] at hu
      rw [add_plain, show o + k * 32 + (j * 32 + i) = o + (k + j) * 32 + i from by omega]
      exact HCS.out X hX (k + j) (by rw [← HN.out]; omega) i u hu
    have HOZ := hid hoz
    clear hoz
    have HAT := hid (into_at D A k (by rw [← HN.out]; exact hk) HLT.out)
    by_cases hkn : k < n
    · have hkz : (k : Int) < (n : Int) := by omega
      have HXR := hid (fun X (hX : Below W1.heap.size W1 X) => HCS.out X hX k (by rw [← HN.out]; exact hkn))
      have HXL : Hid ((A.getD k []).length = 32) := H32.out _ (by simp [List.getD, List.getElem?_eq_getElem (show k < A.length by rw [← HN.out]; exact hkn)])
      have HDR2 : Hid (A.drop k = A.getD k [] :: A.drop (k + 1)) := by
        show _ = _
        rw [List.drop_eq_getElem_cons (show k < A.length by rw [← HN.out]; exact hkn)]
        simp [List.getD, List.getElem?_eq_getElem (show k < A.length by rw [← HN.out]; exact hkn)]
      obtain ⟨x, hx⟩ : ∃ x, x = A.getD k [] := ⟨_, rfl⟩
      have HXX := hid hx
      rw [← hx] at HXR HXL HDR2
      clear hx
      go_wp2_with fail
      refine wp_region_held_drew (S := fun X => Below W1.heap.size W1 X) (by kernel_rfl) (bel_drewS HB.out) (fun hS_v0 => ?_)
      generalize wr.drew = v0 at *
      simp only [List.size_toArray, List.length_cons, List.length_nil, Nat.reduceAdd]
      refine Ord.take (i := 0) (d := 6) (v := ?vP0) rfl rfl (by as_aux_lemma => kernel_rfl) (by as_aux_lemma => kernel_rfl) (by as_aux_lemma => kernel_rfl) (fun _ _ _ h => h) (by rfl) ?hP0 (by assumption) ?_
      case hP0 => intro wx hSw; go_simp; try with_reducible rfl
      try simp only [List.setIfInBounds_toArray, List.set_cons_zero, List.set_cons_succ]
      refine Ord.take (i := 1) (d := 7) (v := ?vP1) rfl rfl (by as_aux_lemma => kernel_rfl) (by as_aux_lemma => kernel_rfl) (by as_aux_lemma => kernel_rfl) (fun _ _ _ h => h) (by rfl) ?hP1 (by assumption) ?_
      case hP1 => intro wx hSw; go_simp; try with_reducible rfl
      try simp only [List.setIfInBounds_toArray, List.set_cons_zero, List.set_cons_succ]
      refine Ord.take (i := 2) (d := 8) (v := ?vP2) rfl rfl (by as_aux_lemma => kernel_rfl) (by as_aux_lemma => kernel_rfl) (by as_aux_lemma => kernel_rfl) (fun _ _ _ h => h) (by rfl) ?hP2 (by assumption) ?_
      case hP2 => intro wx hSw; go_simp; try with_reducible rfl
      try simp only [List.setIfInBounds_toArray, List.set_cons_zero, List.set_cons_succ]
      refine Ord.take (i := 3) (d := 9) (v := .bool true) rfl rfl (by as_aux_lemma => kernel_rfl) (by as_aux_lemma => kernel_rfl) (by as_aux_lemma => kernel_rfl) (fun _ _ _ h => h) (by rfl) ?hP3 (by assumption) ?_
      case hP3 => intro wx hSw; go_simp; try with_reducible rfl
      try simp only [List.setIfInBounds_toArray, List.set_cons_zero, List.set_cons_succ]
      refine Ord.take (i := 4) (d := 10) (v := ?vP4) rfl rfl (by as_aux_lemma => kernel_rfl) (by as_aux_lemma => kernel_rfl) (by as_aux_lemma => kernel_rfl) (fun _ _ _ h => h) (by rfl) ?hP4 (by assumption) ?_
      case hP4 => intro wx hSw; go_simp; try with_reducible rfl
      try simp only [List.setIfInBounds_toArray, List.set_cons_zero, List.set_cons_succ]
      refine Ord.take (i := 5) (d := 11) (v := ?vP5) rfl rfl (by as_aux_lemma => kernel_rfl) (by as_aux_lemma => kernel_rfl) (by as_aux_lemma => kernel_rfl) (fun _ _ _ h => h) (by rfl) ?hP5 (by assumption) ?_
      case hP5 => intro wx hSw; go_simp; try with_reducible rfl
      try simp only [List.setIfInBounds_toArray, List.set_cons_zero, List.set_cons_succ]
      refine Ord.take (i := 6) (d := 12) (v := ?vP6) rfl rfl (by as_aux_lemma => kernel_rfl) (by as_aux_lemma => kernel_rfl) (by as_aux_lemma => kernel_rfl) (fun _ _ _ h => h) (by rfl) ?hP6 (by assumption) ?_
      case hP6 => intro wx hSw; go_simp; try with_reducible rfl
      try simp only [List.setIfInBounds_toArray, List.set_cons_zero, List.set_cons_succ]
      refine Ord.take (i := 7) (d := 13) (v := .pointer (some ⟨b, o + k * 32, none⟩)) rfl rfl (by as_aux_lemma => kernel_rfl) (by as_aux_lemma => kernel_rfl) (by as_aux_lemma => kernel_rfl) (fun _ _ _ h => h) (by rfl) ?hP7 (by assumption) ?_
      case hP7 => intro wx hSw; go_simp; try with_reducible rfl
      try simp only [List.setIfInBounds_toArray, List.set_cons_zero, List.set_cons_succ]
      refine Ord.take (i := 8) (d := 14) (v := .agg (dgC x).toArray) rfl rfl (by as_aux_lemma => kernel_rfl) (by as_aux_lemma => kernel_rfl) (by as_aux_lemma => kernel_rfl) (fun _ _ _ h => h) (by rfl) ?hP8 (by assumption) ?_
      case hP8 => intro wx hSw; exact exec_load 32 (.tmp 13) rfl b (o + k * 32) rfl (run_loadVar_mid wx b (o + k * 32) 32 (dgC x) _ (HXR.out _ hSw) Try.underlying32 rfl (by rw [dgC_len HXL.out]; exact Try.size32'))
      try simp only [List.setIfInBounds_toArray, List.set_cons_zero, List.set_cons_succ]
      refine Ord.take (i := 9) (d := 15) (v := .agg (dgC D).toArray) rfl rfl (by as_aux_lemma => kernel_rfl) (by as_aux_lemma => kernel_rfl) (by as_aux_lemma => kernel_rfl) (fun _ _ _ h => h) (by rfl) ?hP9 (by assumption) ?_
      case hP9 => intro wx hSw; exact exec_load 32 (.tmp 3) rfl W.heap.size 0 rfl (run_loadVar_mid wx W.heap.size 0 32 (dgC D) _ (HDR.out _ hSw) Try.underlying32 rfl (by rw [dgC_len HDL.out]; exact Try.size32'))
      try simp only [List.setIfInBounds_toArray, List.set_cons_zero, List.set_cons_succ]
      refine wpAnyH_ready (rs := [10]) (by as_aux_lemma => kernel_rfl) (by simp) (AllReadyH.cons rfl (fun K hK => ?_) AllReadyH.nil)
      go_simp
      refine (less_word x D HXL.out HDL.out v0).mono ?_
      rintro _ v1 ⟨rfl, hb1⟩
      have hS_v1 : Below W1.heap.size W1 v1 := Bn hS_v0 hb1
      clear hb1
      refine hK.out _ _ hS_v1 (fun _ => ?_)
      clear hK K
      try simp only [List.setIfInBounds_toArray, List.set_cons_zero, List.set_cons_succ]
      refine Ord.take (i := 11) (d := 17) (v := .bool (ltI x D)) rfl rfl (by as_aux_lemma => kernel_rfl) (by as_aux_lemma => kernel_rfl) (by as_aux_lemma => kernel_rfl) (fun _ _ _ h => h) (by rfl) ?hP11 (by assumption) ?_
      case hP11 => intro wx hSw; go_simp; try with_reducible rfl
      try simp only [List.setIfInBounds_toArray, List.set_cons_zero, List.set_cons_succ]
      refine wpAnyH_done (by as_aux_lemma => kernel_rfl) ?_ _
      obtain ⟨q, hq⟩ : ∃ q, q = ltI x D := ⟨_, rfl⟩
      rw [← hq]
      have HQ := hid hq
      clear hq
      cases q with
      | true =>
        have HSB := hid hS_v1
        go_wp2
        go_roundw
        case rel => exact ⟨k + 1, by omega, by go_num, (fun j hj => by
          by_cases hjk : j < k
          · exact HLT.out j hjk
          · have : j = k := by omega
            subst this
            rw [← HXX.out, ← HQ.out]), HSB.out⟩
        case measure => simp [intOf]; omega
      | false =>
        go_wp2_with fail
        refine wp_region_held_drew (S := fun X => Below W1.heap.size W1 X) (by kernel_rfl) (bel_drewS hS_v1) (fun hS_v2 => ?_)
        generalize v1.drew = v2 at *
        simp only [List.size_toArray, List.length_cons, List.length_nil, Nat.reduceAdd]
        refine Ord.take (i := 0) (d := 20) (v := ?vQ0) rfl rfl (by as_aux_lemma => kernel_rfl) (by as_aux_lemma => kernel_rfl) (by as_aux_lemma => kernel_rfl) (fun _ _ _ h => h) (by rfl) ?hQ0 (by assumption) ?_
        case hQ0 => intro wx hSw; go_simp; try with_reducible rfl
        try simp only [List.setIfInBounds_toArray, List.set_cons_zero, List.set_cons_succ]
        refine Ord.take (i := 1) (d := 21) (v := ?vQ1) rfl rfl (by as_aux_lemma => kernel_rfl) (by as_aux_lemma => kernel_rfl) (by as_aux_lemma => kernel_rfl) (fun _ _ _ h => h) (by rfl) ?hQ1 (by assumption) ?_
        case hQ1 => intro wx hSw; go_simp; try with_reducible rfl
        try simp only [List.setIfInBounds_toArray, List.set_cons_zero, List.set_cons_succ]
        refine Ord.take (i := 2) (d := 22) (v := ?vQ2) rfl rfl (by as_aux_lemma => kernel_rfl) (by as_aux_lemma => kernel_rfl) (by as_aux_lemma => kernel_rfl) (fun _ _ _ h => h) (by rfl) ?hQ2 (by assumption) ?_
        case hQ2 => intro wx hSw; go_simp; try with_reducible rfl
        try simp only [List.setIfInBounds_toArray, List.set_cons_zero, List.set_cons_succ]
        refine Ord.take (i := 3) (d := 23) (v := .bool true) rfl rfl (by as_aux_lemma => kernel_rfl) (by as_aux_lemma => kernel_rfl) (by as_aux_lemma => kernel_rfl) (fun _ _ _ h => h) (by rfl) ?hQ3 (by assumption) ?_
        case hQ3 => intro wx hSw; go_simp; try with_reducible rfl
        try simp only [List.setIfInBounds_toArray, List.set_cons_zero, List.set_cons_succ]
        refine Ord.take (i := 4) (d := 24) (v := ?vQ4) rfl rfl (by as_aux_lemma => kernel_rfl) (by as_aux_lemma => kernel_rfl) (by as_aux_lemma => kernel_rfl) (fun _ _ _ h => h) (by rfl) ?hQ4 (by assumption) ?_
        case hQ4 => intro wx hSw; go_simp; try with_reducible rfl
        try simp only [List.setIfInBounds_toArray, List.set_cons_zero, List.set_cons_succ]
        refine Ord.take (i := 5) (d := 25) (v := ?vQ5) rfl rfl (by as_aux_lemma => kernel_rfl) (by as_aux_lemma => kernel_rfl) (by as_aux_lemma => kernel_rfl) (fun _ _ _ h => h) (by rfl) ?hQ5 (by assumption) ?_
        case hQ5 => intro wx hSw; go_simp; try with_reducible rfl
        try simp only [List.setIfInBounds_toArray, List.set_cons_zero, List.set_cons_succ]
        refine Ord.take (i := 6) (d := 26) (v := ?vQ6) rfl rfl (by as_aux_lemma => kernel_rfl) (by as_aux_lemma => kernel_rfl) (by as_aux_lemma => kernel_rfl) (fun _ _ _ h => h) (by rfl) ?hQ6 (by assumption) ?_
        case hQ6 => intro wx hSw; go_simp; try with_reducible rfl
        try simp only [List.setIfInBounds_toArray, List.set_cons_zero, List.set_cons_succ]
        refine Ord.take (i := 7) (d := 27) (v := .pointer (some ⟨b, o + k * 32, none⟩)) rfl rfl (by as_aux_lemma => kernel_rfl) (by as_aux_lemma => kernel_rfl) (by as_aux_lemma => kernel_rfl) (fun _ _ _ h => h) (by rfl) ?hQ7 (by assumption) ?_
        case hQ7 => intro wx hSw; go_simp; try with_reducible rfl
        try simp only [List.setIfInBounds_toArray, List.set_cons_zero, List.set_cons_succ]
        refine Ord.take (i := 8) (d := 28) (v := .agg (dgC x).toArray) rfl rfl (by as_aux_lemma => kernel_rfl) (by as_aux_lemma => kernel_rfl) (by as_aux_lemma => kernel_rfl) (fun _ _ _ h => h) (by rfl) ?hQ8 (by assumption) ?_
        case hQ8 => intro wx hSw; exact exec_load 32 (.tmp 27) rfl b (o + k * 32) rfl (run_loadVar_mid wx b (o + k * 32) 32 (dgC x) _ (HXR.out _ hSw) Try.underlying32 rfl (by rw [dgC_len HXL.out]; exact Try.size32'))
        try simp only [List.setIfInBounds_toArray, List.set_cons_zero, List.set_cons_succ]
        refine Ord.take (i := 9) (d := 29) (v := .agg (dgC D).toArray) rfl rfl (by as_aux_lemma => kernel_rfl) (by as_aux_lemma => kernel_rfl) (by as_aux_lemma => kernel_rfl) (fun _ _ _ h => h) (by rfl) ?hQ9 (by assumption) ?_
        case hQ9 => intro wx hSw; exact exec_load 32 (.tmp 3) rfl W.heap.size 0 rfl (run_loadVar_mid wx W.heap.size 0 32 (dgC D) _ (HDR.out _ hSw) Try.underlying32 rfl (by rw [dgC_len HDL.out]; exact Try.size32'))
        try simp only [List.setIfInBounds_toArray, List.set_cons_zero, List.set_cons_succ]
        refine Ord.take (i := 10) (d := 30) (v := .bool (decide (x = D))) rfl rfl (by as_aux_lemma => kernel_rfl) (by as_aux_lemma => kernel_rfl) (by as_aux_lemma => kernel_rfl) (fun _ _ _ h => h) (by rfl) ?hQ10 (by assumption) ?_
        case hQ10 => intro wx hSw; exact run_eql_op rfl rfl rfl guard32 (eqD 9998 x D HXL.out HDL.out wx)
        try simp only [List.setIfInBounds_toArray, List.set_cons_zero, List.set_cons_succ]
        refine Ord.take (i := 11) (d := 31) (v := .bool (decide (x = D))) rfl rfl (by as_aux_lemma => kernel_rfl) (by as_aux_lemma => kernel_rfl) (by as_aux_lemma => kernel_rfl) (fun _ _ _ h => h) (by rfl) ?hQ11 (by assumption) ?_
        case hQ11 => intro wx hSw; go_simp; try with_reducible rfl
        try simp only [List.setIfInBounds_toArray, List.set_cons_zero, List.set_cons_succ]
        refine wpAnyH_done (by as_aux_lemma => kernel_rfl) ?_ _
        by_cases hxd : x = D
        · have HRES : Hid (intoL D A = A) := by
            show _ = _
            rw [HAT.out, HDR2.out, intoL, ← HQ.out, if_neg (by decide), if_pos hxd, ← HDR2.out, List.take_append_drop]
          have HXD : Hid (decide (x = D) = true) := decide_eq_true hxd
          rw [HXD.out]
          have HS9 := hid (HB0.out.trans (hS_v2.mono HB0.out.size))
          clear hxd
          go_wp2
          go_ret
          refine ⟨some ⟨b, o, none⟩, cap, ?_, ?_, HS9.out⟩
          · rw [HRES.out, ← HN.out]; rfl
          · rw [HRES.out]; exact HA.out.later HS9.out
        · have HRES : Hid (intoL D A = A.take k ++ ([D] ++ A.drop k)) := by
            show _ = _
            rw [HAT.out, HDR2.out, intoL, ← HQ.out, if_neg (by decide), if_neg hxd]
            rfl
          have HXD : Hid (decide (x = D) = false) := decide_eq_false hxd
          rw [HXD.out]
          clear hxd
          go_wp2_with fail
          refine wp_region_held_drew (S := fun X => Below W1.heap.size W1 X) (by kernel_rfl) (bel_drewS hS_v2) (fun hS_v3 => ?_)
          generalize v2.drew = v3 at *
          simp only [List.size_toArray, List.length_cons, List.length_nil, Nat.reduceAdd]
          refine Ord.take (i := 1) (d := 34) (v := ?vX1) rfl rfl (by as_aux_lemma => kernel_rfl) (by as_aux_lemma => kernel_rfl) (by as_aux_lemma => kernel_rfl) (fun _ _ _ h => h) (by rfl) ?hX1 (by assumption) ?_
          case hX1 => intro wx hSw; go_simp; try with_reducible rfl
          try simp only [List.setIfInBounds_toArray, List.set_cons_zero, List.set_cons_succ]
          refine Ord.take (i := 2) (d := 35) (v := ?vX2) rfl rfl (by as_aux_lemma => kernel_rfl) (by as_aux_lemma => kernel_rfl) (by as_aux_lemma => kernel_rfl) (fun _ _ _ h => h) (by rfl) ?hX2 (by assumption) ?_
          case hX2 => intro wx hSw; go_simp; try with_reducible rfl
          try simp only [List.setIfInBounds_toArray, List.set_cons_zero, List.set_cons_succ]
          refine Ord.take (i := 3) (d := 36) (v := .slice (some ⟨b, o, none⟩) k cap) rfl rfl (by as_aux_lemma => kernel_rfl) (by as_aux_lemma => kernel_rfl) (by as_aux_lemma => kernel_rfl) (fun _ _ _ h => h) (by rfl) ?hX3 (by assumption) ?_
          case hX3 => intro wx hSw; go_simp; try with_reducible rfl
          try simp only [List.setIfInBounds_toArray, List.set_cons_zero, List.set_cons_succ]
          refine Ord.take (i := 5) (d := 38) (v := .agg (dgC D).toArray) rfl rfl (by as_aux_lemma => kernel_rfl) (by as_aux_lemma => kernel_rfl) (by as_aux_lemma => kernel_rfl) (fun _ _ _ h => h) (by rfl) ?hX5 (by assumption) ?_
          case hX5 => intro wx hSw; exact exec_load 32 (.tmp 3) rfl W.heap.size 0 rfl (run_loadVar_mid wx W.heap.size 0 32 (dgC D) _ (HDR.out _ hSw) Try.underlying32 rfl (by rw [dgC_len HDL.out]; exact Try.size32'))
          try simp only [List.setIfInBounds_toArray, List.set_cons_zero, List.set_cons_succ]
          refine Ord.take (i := 8) (d := 41) (v := ?vX8) rfl rfl (by as_aux_lemma => kernel_rfl) (by as_aux_lemma => kernel_rfl) (by as_aux_lemma => kernel_rfl) (fun _ _ _ h => h) (by rfl) ?hX8 (by assumption) ?_
          case hX8 => intro wx hSw; go_simp; try with_reducible rfl
          try simp only [List.setIfInBounds_toArray, List.set_cons_zero, List.set_cons_succ]
          refine Ord.take (i := 9) (d := 42) (v := ?vX9) rfl rfl (by as_aux_lemma => kernel_rfl) (by as_aux_lemma => kernel_rfl) (by as_aux_lemma => kernel_rfl) (fun _ _ _ h => h) (by rfl) ?hX9 (by assumption) ?_
          case hX9 => intro wx hSw; go_simp; try with_reducible rfl
          try simp only [List.setIfInBounds_toArray, List.set_cons_zero, List.set_cons_succ]
          refine Ord.take (i := 10) (d := 43) (v := .slice (some ⟨b, o + oz, none⟩) (n - k) (cap - k)) rfl rfl (by as_aux_lemma => kernel_rfl) (by as_aux_lemma => kernel_rfl) (by as_aux_lemma => kernel_rfl) (fun _ _ _ h => h) (by rfl) ?hX10 (by assumption) ?_
          case hX10 => intro wx hSw; go_simp; try (rw [HOZ.out]; split <;> simp_all)
          try simp only [List.setIfInBounds_toArray, List.set_cons_zero, List.set_cons_succ]
          refine wpAnyH_ready (rs := [0, 6]) (by as_aux_lemma => kernel_rfl) (by simp) (AllReadyH.cons rfl (fun K hK => ?_) (AllReadyH.cons rfl (fun K hK => ?_) (AllReadyH.nil)))
          · rw [if_pos (by rfl)]
            refine wp_buildEmptyD rfl W1.heap.size v3.heap.size hS_v3.size rfl (fun va HOE_va HBE_va => ?_)
            have hS_va : Below W1.heap.size W1 va := Bn hS_v3 HBE_va.out
            refine hK.out _ _ hS_va (fun _ => ?_)
            clear hK K
            try simp only [List.setIfInBounds_toArray, List.set_cons_zero, List.set_cons_succ]
            refine wpAnyH_ready (rs := [4, 6]) (by as_aux_lemma => kernel_rfl) (by simp) (AllReadyH.cons rfl (fun K hK => ?_) (AllReadyH.cons rfl (fun K hK => ?_) (AllReadyH.nil)))
            · rw [if_pos (by rfl)]
              refine wp_append_dg _ _ rfl W1.heap.size _ 0 ([]) rfl HOE_va.out ⟨b, o, none⟩ (cap) (A.take k) (by rw [HTL.out]; rfl) (fun y hy => H32.out y (List.mem_of_mem_take hy)) (fun j hj i u hu => HTK.out _ hS_va j hj i u hu) (by simp; omega) hS_va.size (fun v37 vb HP_vb HB_vb => ?_)
              have HO_vb : Hid (vb.ownsRow W1.heap.size 32 32 v37 k ((A.take k).flatMap dgC)) := by
                have h := HP_vb.out
                rw [HTL.out] at h
                show World.ownsRow _ _ _ _ _ _ _
                simpa using h
              have hS_vb : Below W1.heap.size W1 vb := hS_va.trans ((Below.refl _ _).grown HB_vb.out hS_va.size (fun j hj => (HOE_va.out.lt j hj).1))
              refine hK.out _ _ hS_vb (fun _ => ?_)
              clear hK K
              try simp only [List.setIfInBounds_toArray, List.set_cons_zero, List.set_cons_succ]
              refine wpAnyH_ready (rs := [6]) (by as_aux_lemma => kernel_rfl) (by simp) (AllReadyH.cons rfl (fun K hK => ?_) (AllReadyH.nil))
              rw [if_pos (by rfl)]
              refine wp_buildOne_W 71 32 _ rfl (dgC D).toArray i0 _ Try.underlying71 hi hz0 (by rw [hz1, List.size_toArray, dgC_len HDL.out]) (by rw [List.size_toArray, dgC_len HDL.out]; decide) (by rw [List.size_toArray, dgC_len HDL.out]; decide) rfl vb.heap.size rfl ?_
              intro vc HG_vc HB_vc
              have hS_vc : Below W1.heap.size W1 vc := Bn hS_vb HB_vc.out
              refine hK.out _ _ hS_vc (fun _ => ?_)
              clear hK K
              try simp only [List.setIfInBounds_toArray, List.set_cons_zero, List.set_cons_succ]
              refine wpAnyH_ready (rs := [7]) (by as_aux_lemma => kernel_rfl) (by simp) (AllReadyH.cons rfl (fun K hK => ?_) (AllReadyH.nil))
              rw [if_pos (by rfl)]
              refine wp_append_own _ _ _ 71 rfl W1.heap.size 32 i0 _ 32 32 Try.underlying71 hi hz0 hz1 hz2 rfl (by decide) _ k _ rfl (own_later HO_vb.out HB_vc.out) ⟨vb.heap.size, 0, none⟩ 1 1 (dgC D) rfl (by rw [dgC_len HDL.out]) (fun j u hu => (by rw [add_plain, Nat.zero_add]; exact (Joins.cell_of_block HG_vc.out j).trans (by rw [List.getElem?_toArray]; exact hu))) (dgC_one D) (by unfold maxLen; omega) (by omega) hS_vc.size (fun v40 vx HP_x HB_x _ => ?_)
              have hS_vx : Below W1.heap.size W1 vx := hS_vc.trans ((Below.refl _ _).grown HB_x hS_vc.size (fun j hj => ((own_later HO_vb.out HB_vc.out).lt j hj).1))
              have HO_vx := hid HP_x
              clear HP_x HB_x
              refine hK.out _ _ hS_vx (fun _ => ?_)
              clear hK K
              try simp only [List.setIfInBounds_toArray, List.set_cons_zero, List.set_cons_succ]
              refine wpAnyH_ready (rs := [11]) (by as_aux_lemma => kernel_rfl) (by simp) (AllReadyH.cons rfl (fun K hK => ?_) (AllReadyH.nil))
              rw [if_pos (by rfl)]
              refine wp_append_dg _ _ rfl W1.heap.size _ (k + 1) ((A.take k).flatMap dgC ++ dgC D) rfl HO_vx.out ⟨b, o + oz, none⟩ (cap - k) (A.drop k) (by rw [HDN.out]; rfl) (fun y hy => H32.out y (List.mem_of_mem_drop hy)) (fun j hj i u hu => HDP.out _ hS_vx j hj i u hu) (by rw [HDN.out]; omega) hS_vx.size (fun v44 vy HP_vy HB_vy => ?_)
              have hS_vy : Below W1.heap.size W1 vy := hS_vx.trans ((Below.refl _ _).grown HB_vy.out hS_vx.size (fun j hj => (HO_vx.out.lt j hj).1))
              refine hK.out _ _ hS_vy (fun _ => ?_)
              clear hK K
              try simp only [List.setIfInBounds_toArray, List.set_cons_zero, List.set_cons_succ]
              have HOF : Hid (vy.ownsRow W1.heap.size 32 32 v44 (intoL D A).length ((intoL D A).flatMap dgC)) := by
                have h := HP_vy.out
                show World.ownsRow _ _ _ _ _ _ _
                rw [HRES.out]
                simp only [List.flatMap_append, List.flatMap_cons, List.flatMap_nil, List.append_nil, List.length_append, List.length_cons, List.length_nil]
                rw [HTL.out, HDN.out]
                rw [HDN.out] at h
                simpa [Nat.add_assoc, List.append_assoc] using h
              refine Ord.take (i := 12) (d := 4) (v := ?vXB12) rfl rfl (by as_aux_lemma => kernel_rfl) (by as_aux_lemma => kernel_rfl) (by as_aux_lemma => kernel_rfl) (fun _ _ _ h => h) (by rfl) ?hXB12 (by assumption) ?_
              case hXB12 => intro wx hSw; go_simp; try with_reducible rfl
              try simp only [List.setIfInBounds_toArray, List.set_cons_zero, List.set_cons_succ]
              refine wpAnyH_done (by as_aux_lemma => kernel_rfl) ?_ _
              obtain ⟨a6, cap6, hv6, hrw, _⟩ := Rw.own (z := ([] : List Int)) HOF.out (fun y hy => dgC_len ((into_mem D A y).1 hy |>.elim (fun e => by rw [e]; exact HDL.out) (H32.out y)))
              subst hv6
              have HRW := hid hrw
              have HS9 := hid (HB0.out.trans (hS_vy.mono HB0.out.size))
              clear hrw HOF
              go_wp2
              go_ret
              exact ⟨a6, cap6, rfl, HRW.out, HS9.out⟩
            · rw [if_pos (by rfl)]
              refine wp_buildOne_W 71 32 _ rfl (dgC D).toArray i0 _ Try.underlying71 hi hz0 (by rw [hz1, List.size_toArray, dgC_len HDL.out]) (by rw [List.size_toArray, dgC_len HDL.out]; decide) (by rw [List.size_toArray, dgC_len HDL.out]; decide) rfl va.heap.size rfl ?_
              intro vb HG_vb HB_vb
              have hS_vb : Below W1.heap.size W1 vb := Bn hS_va HB_vb.out
              refine hK.out _ _ hS_vb (fun _ => ?_)
              clear hK K
              try simp only [List.setIfInBounds_toArray, List.set_cons_zero, List.set_cons_succ]
              refine wpAnyH_ready (rs := [4]) (by as_aux_lemma => kernel_rfl) (by simp) (AllReadyH.cons rfl (fun K hK => ?_) (AllReadyH.nil))
              rw [if_pos (by rfl)]
              refine wp_append_dg _ _ rfl W1.heap.size _ 0 ([]) rfl (own_later HOE_va.out HB_vb.out) ⟨b, o, none⟩ (cap) (A.take k) (by rw [HTL.out]; rfl) (fun y hy => H32.out y (List.mem_of_mem_take hy)) (fun j hj i u hu => HTK.out _ hS_vb j hj i u hu) (by simp; omega) hS_vb.size (fun v37 vc HP_vc HB_vc => ?_)
              have HO_vc : Hid (vc.ownsRow W1.heap.size 32 32 v37 k ((A.take k).flatMap dgC)) := by
                have h := HP_vc.out
                rw [HTL.out] at h
                show World.ownsRow _ _ _ _ _ _ _
                simpa using h
              have hS_vc : Below W1.heap.size W1 vc := hS_vb.trans ((Below.refl _ _).grown HB_vc.out hS_vb.size (fun j hj => ((own_later HOE_va.out HB_vb.out).lt j hj).1))
              refine hK.out _ _ hS_vc (fun _ => ?_)
              clear hK K
              try simp only [List.setIfInBounds_toArray, List.set_cons_zero, List.set_cons_succ]
              have hne : v3.heap.size < va.heap.size := (HOE_va.out.lt _ rfl).2
              have HGc : Hid (vc.heap[va.heap.size]? = some (.cells (dgC D).toArray 32)) := (HB_vc.out.block _ (Array.getElem?_eq_some_iff.1 HG_vb.out).1 (fun e => by injection e with e; exact Nat.ne_of_gt hne e)).trans HG_vb.out
              refine wpAnyH_ready (rs := [7]) (by as_aux_lemma => kernel_rfl) (by simp) (AllReadyH.cons rfl (fun K hK => ?_) (AllReadyH.nil))
              rw [if_pos (by rfl)]
              refine wp_append_own _ _ _ 71 rfl W1.heap.size 32 i0 _ 32 32 Try.underlying71 hi hz0 hz1 hz2 rfl (by decide) _ k _ rfl HO_vc.out ⟨va.heap.size, 0, none⟩ 1 1 (dgC D) rfl (by rw [dgC_len HDL.out]) (fun j u hu => (by rw [add_plain, Nat.zero_add]; exact (Joins.cell_of_block HGc.out j).trans (by rw [List.getElem?_toArray]; exact hu))) (dgC_one D) (by unfold maxLen; omega) (by omega) hS_vc.size (fun v40 vx HP_x HB_x _ => ?_)
              have hS_vx : Below W1.heap.size W1 vx := hS_vc.trans ((Below.refl _ _).grown HB_x hS_vc.size (fun j hj => (HO_vc.out.lt j hj).1))
              have HO_vx := hid HP_x
              clear HP_x HB_x
              refine hK.out _ _ hS_vx (fun _ => ?_)
              clear hK K
              try simp only [List.setIfInBounds_toArray, List.set_cons_zero, List.set_cons_succ]
              refine wpAnyH_ready (rs := [11]) (by as_aux_lemma => kernel_rfl) (by simp) (AllReadyH.cons rfl (fun K hK => ?_) (AllReadyH.nil))
              rw [if_pos (by rfl)]
              refine wp_append_dg _ _ rfl W1.heap.size _ (k + 1) ((A.take k).flatMap dgC ++ dgC D) rfl HO_vx.out ⟨b, o + oz, none⟩ (cap - k) (A.drop k) (by rw [HDN.out]; rfl) (fun y hy => H32.out y (List.mem_of_mem_drop hy)) (fun j hj i u hu => HDP.out _ hS_vx j hj i u hu) (by rw [HDN.out]; omega) hS_vx.size (fun v44 vy HP_vy HB_vy => ?_)
              have hS_vy : Below W1.heap.size W1 vy := hS_vx.trans ((Below.refl _ _).grown HB_vy.out hS_vx.size (fun j hj => (HO_vx.out.lt j hj).1))
              refine hK.out _ _ hS_vy (fun _ => ?_)
              clear hK K
              try simp only [List.setIfInBounds_toArray, List.set_cons_zero, List.set_cons_succ]
              have HOF : Hid (vy.ownsRow W1.heap.size 32 32 v44 (intoL D A).length ((intoL D A).flatMap dgC)) := by
                have h := HP_vy.out
                show World.ownsRow _ _ _ _ _ _ _
                rw [HRES.out]
                simp only [List.flatMap_append, List.flatMap_cons, List.flatMap_nil, List.append_nil, List.length_append, List.length_cons, List.length_nil]
                rw [HTL.out, HDN.out]
                rw [HDN.out] at h
                simpa [Nat.add_assoc, List.append_assoc] using h
              refine Ord.take (i := 12) (d := 4) (v := ?vXC12) rfl rfl (by as_aux_lemma => kernel_rfl) (by as_aux_lemma => kernel_rfl) (by as_aux_lemma => kernel_rfl) (fun _ _ _ h => h) (by rfl) ?hXC12 (by assumption) ?_
              case hXC12 => intro wx hSw; go_simp; try with_reducible rfl
              try simp only [List.setIfInBounds_toArray, List.set_cons_zero, List.set_cons_succ]
              refine wpAnyH_done (by as_aux_lemma => kernel_rfl) ?_ _
              obtain ⟨a6, cap6, hv6, hrw, _⟩ := Rw.own (z := ([] : List Int)) HOF.out (fun y hy => dgC_len ((into_mem D A y).1 hy |>.elim (fun e => by rw [e]; exact HDL.out) (H32.out y)))
              subst hv6
              have HRW := hid hrw
              have HS9 := hid (HB0.out.trans (hS_vy.mono HB0.out.size))
              clear hrw HOF
              go_wp2
              go_ret
              exact ⟨a6, cap6, rfl, HRW.out, HS9.out⟩
          · rw [if_pos (by rfl)]
            refine wp_buildOne_W 71 32 _ rfl (dgC D).toArray i0 _ Try.underlying71 hi hz0 (by rw [hz1, List.size_toArray, dgC_len HDL.out]) (by rw [List.size_toArray, dgC_len HDL.out]; decide) (by rw [List.size_toArray, dgC_len HDL.out]; decide) rfl v3.heap.size rfl ?_
            intro va HG_va HB_va
            have hS_va : Below W1.heap.size W1 va := Bn hS_v3 HB_va.out
            refine hK.out _ _ hS_va (fun _ => ?_)
            clear hK K
            try simp only [List.setIfInBounds_toArray, List.set_cons_zero, List.set_cons_succ]
            refine wpAnyH_ready (rs := [0]) (by as_aux_lemma => kernel_rfl) (by simp) (AllReadyH.cons rfl (fun K hK => ?_) (AllReadyH.nil))
            rw [if_pos (by rfl)]
            refine wp_buildEmptyD rfl W1.heap.size va.heap.size hS_va.size rfl (fun vb HOE_vb HBE_vb => ?_)
            have hS_vb : Below W1.heap.size W1 vb := Bn hS_va HBE_vb.out
            refine hK.out _ _ hS_vb (fun _ => ?_)
            clear hK K
            try simp only [List.setIfInBounds_toArray, List.set_cons_zero, List.set_cons_succ]
            refine wpAnyH_ready (rs := [4]) (by as_aux_lemma => kernel_rfl) (by simp) (AllReadyH.cons rfl (fun K hK => ?_) (AllReadyH.nil))
            rw [if_pos (by rfl)]
            refine wp_append_dg _ _ rfl W1.heap.size _ 0 ([]) rfl HOE_vb.out ⟨b, o, none⟩ (cap) (A.take k) (by rw [HTL.out]; rfl) (fun y hy => H32.out y (List.mem_of_mem_take hy)) (fun j hj i u hu => HTK.out _ hS_vb j hj i u hu) (by simp; omega) hS_vb.size (fun v37 vc HP_vc HB_vc => ?_)
            have HO_vc : Hid (vc.ownsRow W1.heap.size 32 32 v37 k ((A.take k).flatMap dgC)) := by
              have h := HP_vc.out
              rw [HTL.out] at h
              show World.ownsRow _ _ _ _ _ _ _
              simpa using h
            have hS_vc : Below W1.heap.size W1 vc := hS_vb.trans ((Below.refl _ _).grown HB_vc.out hS_vb.size (fun j hj => (HOE_vb.out.lt j hj).1))
            refine hK.out _ _ hS_vc (fun _ => ?_)
            clear hK K
            try simp only [List.setIfInBounds_toArray, List.set_cons_zero, List.set_cons_succ]
            have hne : v3.heap.size < va.heap.size := (Array.getElem?_eq_some_iff.1 HG_va.out).1
            have HGb : Hid (vb.heap[v3.heap.size]? = some (.cells (dgC D).toArray 32)) := (HBE_vb.out.block _ hne).trans HG_va.out
            have HGc : Hid (vc.heap[v3.heap.size]? = some (.cells (dgC D).toArray 32)) := (HB_vc.out.block _ (Array.getElem?_eq_some_iff.1 HGb.out).1 (fun e => by injection e with e; exact Nat.ne_of_lt hne e)).trans HGb.out
            refine wpAnyH_ready (rs := [7]) (by as_aux_lemma => kernel_rfl) (by simp) (AllReadyH.cons rfl (fun K hK => ?_) (AllReadyH.nil))
            rw [if_pos (by rfl)]
            refine wp_append_own _ _ _ 71 rfl W1.heap.size 32 i0 _ 32 32 Try.underlying71 hi hz0 hz1 hz2 rfl (by decide) _ k _ rfl HO_vc.out ⟨v3.heap.size, 0, none⟩ 1 1 (dgC D) rfl (by rw [dgC_len HDL.out]) (fun j u hu => (by rw [add_plain, Nat.zero_add]; exact (Joins.cell_of_block HGc.out j).trans (by rw [List.getElem?_toArray]; exact hu))) (dgC_one D) (by unfold maxLen; omega) (by omega) hS_vc.size (fun v40 vx HP_x HB_x _ => ?_)
            have hS_vx : Below W1.heap.size W1 vx := hS_vc.trans ((Below.refl _ _).grown HB_x hS_vc.size (fun j hj => (HO_vc.out.lt j hj).1))
            have HO_vx := hid HP_x
            clear HP_x HB_x
            refine hK.out _ _ hS_vx (fun _ => ?_)
            clear hK K
            try simp only [List.setIfInBounds_toArray, List.set_cons_zero, List.set_cons_succ]
            refine wpAnyH_ready (rs := [11]) (by as_aux_lemma => kernel_rfl) (by simp) (AllReadyH.cons rfl (fun K hK => ?_) (AllReadyH.nil))
            rw [if_pos (by rfl)]
            refine wp_append_dg _ _ rfl W1.heap.size _ (k + 1) ((A.take k).flatMap dgC ++ dgC D) rfl HO_vx.out ⟨b, o + oz, none⟩ (cap - k) (A.drop k) (by rw [HDN.out]; rfl) (fun y hy => H32.out y (List.mem_of_mem_drop hy)) (fun j hj i u hu => HDP.out _ hS_vx j hj i u hu) (by rw [HDN.out]; omega) hS_vx.size (fun v44 vy HP_vy HB_vy => ?_)
            have hS_vy : Below W1.heap.size W1 vy := hS_vx.trans ((Below.refl _ _).grown HB_vy.out hS_vx.size (fun j hj => (HO_vx.out.lt j hj).1))
            refine hK.out _ _ hS_vy (fun _ => ?_)
            clear hK K
            try simp only [List.setIfInBounds_toArray, List.set_cons_zero, List.set_cons_succ]
            have HOF : Hid (vy.ownsRow W1.heap.size 32 32 v44 (intoL D A).length ((intoL D A).flatMap dgC)) := by
              have h := HP_vy.out
              show World.ownsRow _ _ _ _ _ _ _
              rw [HRES.out]
              simp only [List.flatMap_append, List.flatMap_cons, List.flatMap_nil, List.append_nil, List.length_append, List.length_cons, List.length_nil]
              rw [HTL.out, HDN.out]
              rw [HDN.out] at h
              simpa [Nat.add_assoc, List.append_assoc] using h
            refine Ord.take (i := 12) (d := 4) (v := ?vXD12) rfl rfl (by as_aux_lemma => kernel_rfl) (by as_aux_lemma => kernel_rfl) (by as_aux_lemma => kernel_rfl) (fun _ _ _ h => h) (by rfl) ?hXD12 (by assumption) ?_
            case hXD12 => intro wx hSw; go_simp; try with_reducible rfl
            try simp only [List.setIfInBounds_toArray, List.set_cons_zero, List.set_cons_succ]
            refine wpAnyH_done (by as_aux_lemma => kernel_rfl) ?_ _
            obtain ⟨a6, cap6, hv6, hrw, _⟩ := Rw.own (z := ([] : List Int)) HOF.out (fun y hy => dgC_len ((into_mem D A y).1 hy |>.elim (fun e => by rw [e]; exact HDL.out) (H32.out y)))
            subst hv6
            have HRW := hid hrw
            have HS9 := hid (HB0.out.trans (hS_vy.mono HB0.out.size))
            clear hrw HOF
            go_wp2
            go_ret
            exact ⟨a6, cap6, rfl, HRW.out, HS9.out⟩
    · have hke : k = n := by omega
      have hkz : ¬ (k : Int) < (n : Int) := by omega
      have HRES : Hid (intoL D A = A.take k ++ ([D] ++ A.drop k)) := by
        show _ = _
        rw [HAT.out, List.drop_eq_nil_of_le (by rw [← HN.out]; omega)]
        rfl
      go_wp2_with fail
      refine wp_region_held_drew (S := fun X => Below W1.heap.size W1 X) (by kernel_rfl) (bel_drewS HB.out) (fun hS_v0 => ?_)
      generalize wr.drew = v0 at *
      simp only [List.size_toArray, List.length_cons, List.length_nil, Nat.reduceAdd]
      refine Ord.take (i := 0) (d := 6) (v := ?vR0) rfl rfl (by as_aux_lemma => kernel_rfl) (by as_aux_lemma => kernel_rfl) (by as_aux_lemma => kernel_rfl) (fun _ _ _ h => h) (by rfl) ?hR0 (by assumption) ?_
      case hR0 => intro wx hSw; go_simp; try with_reducible rfl
      try simp only [List.setIfInBounds_toArray, List.set_cons_zero, List.set_cons_succ]
      refine Ord.take (i := 1) (d := 7) (v := ?vR1) rfl rfl (by as_aux_lemma => kernel_rfl) (by as_aux_lemma => kernel_rfl) (by as_aux_lemma => kernel_rfl) (fun _ _ _ h => h) (by rfl) ?hR1 (by assumption) ?_
      case hR1 => intro wx hSw; go_simp; try with_reducible rfl
      try simp only [List.setIfInBounds_toArray, List.set_cons_zero, List.set_cons_succ]
      refine Ord.take (i := 2) (d := 8) (v := ?vR2) rfl rfl (by as_aux_lemma => kernel_rfl) (by as_aux_lemma => kernel_rfl) (by as_aux_lemma => kernel_rfl) (fun _ _ _ h => h) (by rfl) ?hR2 (by assumption) ?_
      case hR2 => intro wx hSw; go_simp; try with_reducible rfl
      try simp only [List.setIfInBounds_toArray, List.set_cons_zero, List.set_cons_succ]
      refine Ord.take (i := 3) (d := 9) (v := .bool false) rfl rfl (by as_aux_lemma => kernel_rfl) (by as_aux_lemma => kernel_rfl) (by as_aux_lemma => kernel_rfl) (fun _ _ _ h => h) (by rfl) ?hR3 (by assumption) ?_
      case hR3 => intro wx hSw; go_simp; try with_reducible rfl
      try simp only [List.setIfInBounds_toArray, List.set_cons_zero, List.set_cons_succ]
      refine Ord.take (i := 4) (d := 10) (v := ?vR4) rfl rfl (by as_aux_lemma => kernel_rfl) (by as_aux_lemma => kernel_rfl) (by as_aux_lemma => kernel_rfl) (fun _ _ _ h => h) (by rfl) ?hR4 (by assumption) ?_
      case hR4 => intro wx hSw; go_simp; try with_reducible rfl
      try simp only [List.setIfInBounds_toArray, List.set_cons_zero, List.set_cons_succ]
      refine Ord.skip (i := 5) (d := 11) rfl rfl (by as_aux_lemma => kernel_rfl) (by as_aux_lemma => kernel_rfl) (by as_aux_lemma => kernel_rfl) (fun _ _ _ h => h) (by rfl) (by assumption) ?_
      try simp only [List.setIfInBounds_toArray, List.set_cons_zero, List.set_cons_succ]
      refine Ord.skip (i := 6) (d := 12) rfl rfl (by as_aux_lemma => kernel_rfl) (by as_aux_lemma => kernel_rfl) (by as_aux_lemma => kernel_rfl) (fun _ _ _ h => h) (by rfl) (by assumption) ?_
      try simp only [List.setIfInBounds_toArray, List.set_cons_zero, List.set_cons_succ]
      refine Ord.skip (i := 7) (d := 13) rfl rfl (by as_aux_lemma => kernel_rfl) (by as_aux_lemma => kernel_rfl) (by as_aux_lemma => kernel_rfl) (fun _ _ _ h => h) (by rfl) (by assumption) ?_
      try simp only [List.setIfInBounds_toArray, List.set_cons_zero, List.set_cons_succ]
      refine Ord.skip (i := 8) (d := 14) rfl rfl (by as_aux_lemma => kernel_rfl) (by as_aux_lemma => kernel_rfl) (by as_aux_lemma => kernel_rfl) (fun _ _ _ h => h) (by rfl) (by assumption) ?_
      try simp only [List.setIfInBounds_toArray, List.set_cons_zero, List.set_cons_succ]
      refine Ord.skip (i := 9) (d := 15) rfl rfl (by as_aux_lemma => kernel_rfl) (by as_aux_lemma => kernel_rfl) (by as_aux_lemma => kernel_rfl) (fun _ _ _ h => h) (by rfl) (by assumption) ?_
      try simp only [List.setIfInBounds_toArray, List.set_cons_zero, List.set_cons_succ]
      refine Ord.skip (i := 10) (d := 16) rfl rfl (by as_aux_lemma => kernel_rfl) (by as_aux_lemma => kernel_rfl) (by as_aux_lemma => kernel_rfl) (fun _ _ _ h => h) (by rfl) (by assumption) ?_
      try simp only [List.setIfInBounds_toArray, List.set_cons_zero, List.set_cons_succ]
      refine Ord.take (i := 11) (d := 17) (v := .bool false) rfl rfl (by as_aux_lemma => kernel_rfl) (by as_aux_lemma => kernel_rfl) (by as_aux_lemma => kernel_rfl) (fun _ _ _ h => h) (by rfl) ?hR11 (by assumption) ?_
      case hR11 => intro wx hSw; go_simp; try with_reducible rfl
      try simp only [List.setIfInBounds_toArray, List.set_cons_zero, List.set_cons_succ]
      refine wpAnyH_done (by as_aux_lemma => kernel_rfl) ?_ _
      go_wp2_with fail
      refine wp_region_held_drew (S := fun X => Below W1.heap.size W1 X) (by kernel_rfl) (bel_drewS hS_v0) (fun hS_v2 => ?_)
      generalize v0.drew = v2 at *
      simp only [List.size_toArray, List.length_cons, List.length_nil, Nat.reduceAdd]
      refine Ord.take (i := 0) (d := 20) (v := ?vU0) rfl rfl (by as_aux_lemma => kernel_rfl) (by as_aux_lemma => kernel_rfl) (by as_aux_lemma => kernel_rfl) (fun _ _ _ h => h) (by rfl) ?hU0 (by assumption) ?_
      case hU0 => intro wx hSw; go_simp; try with_reducible rfl
      try simp only [List.setIfInBounds_toArray, List.set_cons_zero, List.set_cons_succ]
      refine Ord.take (i := 1) (d := 21) (v := ?vU1) rfl rfl (by as_aux_lemma => kernel_rfl) (by as_aux_lemma => kernel_rfl) (by as_aux_lemma => kernel_rfl) (fun _ _ _ h => h) (by rfl) ?hU1 (by assumption) ?_
      case hU1 => intro wx hSw; go_simp; try with_reducible rfl
      try simp only [List.setIfInBounds_toArray, List.set_cons_zero, List.set_cons_succ]
      refine Ord.take (i := 2) (d := 22) (v := ?vU2) rfl rfl (by as_aux_lemma => kernel_rfl) (by as_aux_lemma => kernel_rfl) (by as_aux_lemma => kernel_rfl) (fun _ _ _ h => h) (by rfl) ?hU2 (by assumption) ?_
      case hU2 => intro wx hSw; go_simp; try with_reducible rfl
      try simp only [List.setIfInBounds_toArray, List.set_cons_zero, List.set_cons_succ]
      refine Ord.take (i := 3) (d := 23) (v := .bool false) rfl rfl (by as_aux_lemma => kernel_rfl) (by as_aux_lemma => kernel_rfl) (by as_aux_lemma => kernel_rfl) (fun _ _ _ h => h) (by rfl) ?hU3 (by assumption) ?_
      case hU3 => intro wx hSw; go_simp; try with_reducible rfl
      try simp only [List.setIfInBounds_toArray, List.set_cons_zero, List.set_cons_succ]
      refine Ord.take (i := 4) (d := 24) (v := ?vU4) rfl rfl (by as_aux_lemma => kernel_rfl) (by as_aux_lemma => kernel_rfl) (by as_aux_lemma => kernel_rfl) (fun _ _ _ h => h) (by rfl) ?hU4 (by assumption) ?_
      case hU4 => intro wx hSw; go_simp; try with_reducible rfl
      try simp only [List.setIfInBounds_toArray, List.set_cons_zero, List.set_cons_succ]
      refine Ord.skip (i := 5) (d := 25) rfl rfl (by as_aux_lemma => kernel_rfl) (by as_aux_lemma => kernel_rfl) (by as_aux_lemma => kernel_rfl) (fun _ _ _ h => h) (by rfl) (by assumption) ?_
      try simp only [List.setIfInBounds_toArray, List.set_cons_zero, List.set_cons_succ]
      refine Ord.skip (i := 6) (d := 26) rfl rfl (by as_aux_lemma => kernel_rfl) (by as_aux_lemma => kernel_rfl) (by as_aux_lemma => kernel_rfl) (fun _ _ _ h => h) (by rfl) (by assumption) ?_
      try simp only [List.setIfInBounds_toArray, List.set_cons_zero, List.set_cons_succ]
      refine Ord.skip (i := 7) (d := 27) rfl rfl (by as_aux_lemma => kernel_rfl) (by as_aux_lemma => kernel_rfl) (by as_aux_lemma => kernel_rfl) (fun _ _ _ h => h) (by rfl) (by assumption) ?_
      try simp only [List.setIfInBounds_toArray, List.set_cons_zero, List.set_cons_succ]
      refine Ord.skip (i := 8) (d := 28) rfl rfl (by as_aux_lemma => kernel_rfl) (by as_aux_lemma => kernel_rfl) (by as_aux_lemma => kernel_rfl) (fun _ _ _ h => h) (by rfl) (by assumption) ?_
      try simp only [List.setIfInBounds_toArray, List.set_cons_zero, List.set_cons_succ]
      refine Ord.skip (i := 9) (d := 29) rfl rfl (by as_aux_lemma => kernel_rfl) (by as_aux_lemma => kernel_rfl) (by as_aux_lemma => kernel_rfl) (fun _ _ _ h => h) (by rfl) (by assumption) ?_
      try simp only [List.setIfInBounds_toArray, List.set_cons_zero, List.set_cons_succ]
      refine Ord.skip (i := 10) (d := 30) rfl rfl (by as_aux_lemma => kernel_rfl) (by as_aux_lemma => kernel_rfl) (by as_aux_lemma => kernel_rfl) (fun _ _ _ h => h) (by rfl) (by assumption) ?_
      try simp only [List.setIfInBounds_toArray, List.set_cons_zero, List.set_cons_succ]
      refine Ord.take (i := 11) (d := 31) (v := .bool false) rfl rfl (by as_aux_lemma => kernel_rfl) (by as_aux_lemma => kernel_rfl) (by as_aux_lemma => kernel_rfl) (fun _ _ _ h => h) (by rfl) ?hU11 (by assumption) ?_
      case hU11 => intro wx hSw; go_simp; try with_reducible rfl
      try simp only [List.setIfInBounds_toArray, List.set_cons_zero, List.set_cons_succ]
      refine wpAnyH_done (by as_aux_lemma => kernel_rfl) ?_ _
      go_wp2_with fail
      refine wp_region_held_drew (S := fun X => Below W1.heap.size W1 X) (by kernel_rfl) (bel_drewS hS_v2) (fun hS_v3 => ?_)
      generalize v2.drew = v3 at *
      simp only [List.size_toArray, List.length_cons, List.length_nil, Nat.reduceAdd]
      refine Ord.take (i := 1) (d := 34) (v := ?vY1) rfl rfl (by as_aux_lemma => kernel_rfl) (by as_aux_lemma => kernel_rfl) (by as_aux_lemma => kernel_rfl) (fun _ _ _ h => h) (by rfl) ?hY1 (by assumption) ?_
      case hY1 => intro wx hSw; go_simp; try with_reducible rfl
      try simp only [List.setIfInBounds_toArray, List.set_cons_zero, List.set_cons_succ]
      refine Ord.take (i := 2) (d := 35) (v := ?vY2) rfl rfl (by as_aux_lemma => kernel_rfl) (by as_aux_lemma => kernel_rfl) (by as_aux_lemma => kernel_rfl) (fun _ _ _ h => h) (by rfl) ?hY2 (by assumption) ?_
      case hY2 => intro wx hSw; go_simp; try with_reducible rfl
      try simp only [List.setIfInBounds_toArray, List.set_cons_zero, List.set_cons_succ]
      refine Ord.take (i := 3) (d := 36) (v := .slice (some ⟨b, o, none⟩) k cap) rfl rfl (by as_aux_lemma => kernel_rfl) (by as_aux_lemma => kernel_rfl) (by as_aux_lemma => kernel_rfl) (fun _ _ _ h => h) (by rfl) ?hY3 (by assumption) ?_
      case hY3 => intro wx hSw; go_simp; try with_reducible rfl
      try simp only [List.setIfInBounds_toArray, List.set_cons_zero, List.set_cons_succ]
      refine Ord.take (i := 5) (d := 38) (v := .agg (dgC D).toArray) rfl rfl (by as_aux_lemma => kernel_rfl) (by as_aux_lemma => kernel_rfl) (by as_aux_lemma => kernel_rfl) (fun _ _ _ h => h) (by rfl) ?hY5 (by assumption) ?_
      case hY5 => intro wx hSw; exact exec_load 32 (.tmp 3) rfl W.heap.size 0 rfl (run_loadVar_mid wx W.heap.size 0 32 (dgC D) _ (HDR.out _ hSw) Try.underlying32 rfl (by rw [dgC_len HDL.out]; exact Try.size32'))
      try simp only [List.setIfInBounds_toArray, List.set_cons_zero, List.set_cons_succ]
      refine Ord.take (i := 8) (d := 41) (v := ?vY8) rfl rfl (by as_aux_lemma => kernel_rfl) (by as_aux_lemma => kernel_rfl) (by as_aux_lemma => kernel_rfl) (fun _ _ _ h => h) (by rfl) ?hY8 (by assumption) ?_
      case hY8 => intro wx hSw; go_simp; try with_reducible rfl
      try simp only [List.setIfInBounds_toArray, List.set_cons_zero, List.set_cons_succ]
      refine Ord.take (i := 9) (d := 42) (v := ?vY9) rfl rfl (by as_aux_lemma => kernel_rfl) (by as_aux_lemma => kernel_rfl) (by as_aux_lemma => kernel_rfl) (fun _ _ _ h => h) (by rfl) ?hY9 (by assumption) ?_
      case hY9 => intro wx hSw; go_simp; try with_reducible rfl
      try simp only [List.setIfInBounds_toArray, List.set_cons_zero, List.set_cons_succ]
      refine Ord.take (i := 10) (d := 43) (v := .slice (some ⟨b, o + oz, none⟩) (n - k) (cap - k)) rfl rfl (by as_aux_lemma => kernel_rfl) (by as_aux_lemma => kernel_rfl) (by as_aux_lemma => kernel_rfl) (fun _ _ _ h => h) (by rfl) ?hY10 (by assumption) ?_
      case hY10 => intro wx hSw; go_simp; try (rw [HOZ.out]; split <;> simp_all)
      try simp only [List.setIfInBounds_toArray, List.set_cons_zero, List.set_cons_succ]
      refine wpAnyH_ready (rs := [0, 6]) (by as_aux_lemma => kernel_rfl) (by simp) (AllReadyH.cons rfl (fun K hK => ?_) (AllReadyH.cons rfl (fun K hK => ?_) (AllReadyH.nil)))
      · rw [if_pos (by rfl)]
        refine wp_buildEmptyD rfl W1.heap.size v3.heap.size hS_v3.size rfl (fun va HOE_va HBE_va => ?_)
        have hS_va : Below W1.heap.size W1 va := Bn hS_v3 HBE_va.out
        refine hK.out _ _ hS_va (fun _ => ?_)
        clear hK K
        try simp only [List.setIfInBounds_toArray, List.set_cons_zero, List.set_cons_succ]
        refine wpAnyH_ready (rs := [4, 6]) (by as_aux_lemma => kernel_rfl) (by simp) (AllReadyH.cons rfl (fun K hK => ?_) (AllReadyH.cons rfl (fun K hK => ?_) (AllReadyH.nil)))
        · rw [if_pos (by rfl)]
          refine wp_append_dg _ _ rfl W1.heap.size _ 0 ([]) rfl HOE_va.out ⟨b, o, none⟩ (cap) (A.take k) (by rw [HTL.out]; rfl) (fun y hy => H32.out y (List.mem_of_mem_take hy)) (fun j hj i u hu => HTK.out _ hS_va j hj i u hu) (by simp; omega) hS_va.size (fun v37 vb HP_vb HB_vb => ?_)
          have HO_vb : Hid (vb.ownsRow W1.heap.size 32 32 v37 k ((A.take k).flatMap dgC)) := by
            have h := HP_vb.out
            rw [HTL.out] at h
            show World.ownsRow _ _ _ _ _ _ _
            simpa using h
          have hS_vb : Below W1.heap.size W1 vb := hS_va.trans ((Below.refl _ _).grown HB_vb.out hS_va.size (fun j hj => (HOE_va.out.lt j hj).1))
          refine hK.out _ _ hS_vb (fun _ => ?_)
          clear hK K
          try simp only [List.setIfInBounds_toArray, List.set_cons_zero, List.set_cons_succ]
          refine wpAnyH_ready (rs := [6]) (by as_aux_lemma => kernel_rfl) (by simp) (AllReadyH.cons rfl (fun K hK => ?_) (AllReadyH.nil))
          rw [if_pos (by rfl)]
          refine wp_buildOne_W 71 32 _ rfl (dgC D).toArray i0 _ Try.underlying71 hi hz0 (by rw [hz1, List.size_toArray, dgC_len HDL.out]) (by rw [List.size_toArray, dgC_len HDL.out]; decide) (by rw [List.size_toArray, dgC_len HDL.out]; decide) rfl vb.heap.size rfl ?_
          intro vc HG_vc HB_vc
          have hS_vc : Below W1.heap.size W1 vc := Bn hS_vb HB_vc.out
          refine hK.out _ _ hS_vc (fun _ => ?_)
          clear hK K
          try simp only [List.setIfInBounds_toArray, List.set_cons_zero, List.set_cons_succ]
          refine wpAnyH_ready (rs := [7]) (by as_aux_lemma => kernel_rfl) (by simp) (AllReadyH.cons rfl (fun K hK => ?_) (AllReadyH.nil))
          rw [if_pos (by rfl)]
          refine wp_append_own _ _ _ 71 rfl W1.heap.size 32 i0 _ 32 32 Try.underlying71 hi hz0 hz1 hz2 rfl (by decide) _ k _ rfl (own_later HO_vb.out HB_vc.out) ⟨vb.heap.size, 0, none⟩ 1 1 (dgC D) rfl (by rw [dgC_len HDL.out]) (fun j u hu => (by rw [add_plain, Nat.zero_add]; exact (Joins.cell_of_block HG_vc.out j).trans (by rw [List.getElem?_toArray]; exact hu))) (dgC_one D) (by unfold maxLen; omega) (by omega) hS_vc.size (fun v40 vx HP_x HB_x _ => ?_)
          have hS_vx : Below W1.heap.size W1 vx := hS_vc.trans ((Below.refl _ _).grown HB_x hS_vc.size (fun j hj => ((own_later HO_vb.out HB_vc.out).lt j hj).1))
          have HO_vx := hid HP_x
          clear HP_x HB_x
          refine hK.out _ _ hS_vx (fun _ => ?_)
          clear hK K
          try simp only [List.setIfInBounds_toArray, List.set_cons_zero, List.set_cons_succ]
          refine wpAnyH_ready (rs := [11]) (by as_aux_lemma => kernel_rfl) (by simp) (AllReadyH.cons rfl (fun K hK => ?_) (AllReadyH.nil))
          rw [if_pos (by rfl)]
          refine wp_append_dg _ _ rfl W1.heap.size _ (k + 1) ((A.take k).flatMap dgC ++ dgC D) rfl HO_vx.out ⟨b, o + oz, none⟩ (cap - k) (A.drop k) (by rw [HDN.out]; rfl) (fun y hy => H32.out y (List.mem_of_mem_drop hy)) (fun j hj i u hu => HDP.out _ hS_vx j hj i u hu) (by rw [HDN.out]; omega) hS_vx.size (fun v44 vy HP_vy HB_vy => ?_)
          have hS_vy : Below W1.heap.size W1 vy := hS_vx.trans ((Below.refl _ _).grown HB_vy.out hS_vx.size (fun j hj => (HO_vx.out.lt j hj).1))
          refine hK.out _ _ hS_vy (fun _ => ?_)
          clear hK K
          try simp only [List.setIfInBounds_toArray, List.set_cons_zero, List.set_cons_succ]
          have HOF : Hid (vy.ownsRow W1.heap.size 32 32 v44 (intoL D A).length ((intoL D A).flatMap dgC)) := by
            have h := HP_vy.out
            show World.ownsRow _ _ _ _ _ _ _
            rw [HRES.out]
            simp only [List.flatMap_append, List.flatMap_cons, List.flatMap_nil, List.append_nil, List.length_append, List.length_cons, List.length_nil]
            rw [HTL.out, HDN.out]
            rw [HDN.out] at h
            simpa [Nat.add_assoc, List.append_assoc] using h
          refine Ord.take (i := 12) (d := 4) (v := ?vYB12) rfl rfl (by as_aux_lemma => kernel_rfl) (by as_aux_lemma => kernel_rfl) (by as_aux_lemma => kernel_rfl) (fun _ _ _ h => h) (by rfl) ?hYB12 (by assumption) ?_
          case hYB12 => intro wx hSw; go_simp; try with_reducible rfl
          try simp only [List.setIfInBounds_toArray, List.set_cons_zero, List.set_cons_succ]
          refine wpAnyH_done (by as_aux_lemma => kernel_rfl) ?_ _
          obtain ⟨a6, cap6, hv6, hrw, _⟩ := Rw.own (z := ([] : List Int)) HOF.out (fun y hy => dgC_len ((into_mem D A y).1 hy |>.elim (fun e => by rw [e]; exact HDL.out) (H32.out y)))
          subst hv6
          have HRW := hid hrw
          have HS9 := hid (HB0.out.trans (hS_vy.mono HB0.out.size))
          clear hrw HOF
          go_wp2
          go_ret
          exact ⟨a6, cap6, rfl, HRW.out, HS9.out⟩
        · rw [if_pos (by rfl)]
          refine wp_buildOne_W 71 32 _ rfl (dgC D).toArray i0 _ Try.underlying71 hi hz0 (by rw [hz1, List.size_toArray, dgC_len HDL.out]) (by rw [List.size_toArray, dgC_len HDL.out]; decide) (by rw [List.size_toArray, dgC_len HDL.out]; decide) rfl va.heap.size rfl ?_
          intro vb HG_vb HB_vb
          have hS_vb : Below W1.heap.size W1 vb := Bn hS_va HB_vb.out
          refine hK.out _ _ hS_vb (fun _ => ?_)
          clear hK K
          try simp only [List.setIfInBounds_toArray, List.set_cons_zero, List.set_cons_succ]
          refine wpAnyH_ready (rs := [4]) (by as_aux_lemma => kernel_rfl) (by simp) (AllReadyH.cons rfl (fun K hK => ?_) (AllReadyH.nil))
          rw [if_pos (by rfl)]
          refine wp_append_dg _ _ rfl W1.heap.size _ 0 ([]) rfl (own_later HOE_va.out HB_vb.out) ⟨b, o, none⟩ (cap) (A.take k) (by rw [HTL.out]; rfl) (fun y hy => H32.out y (List.mem_of_mem_take hy)) (fun j hj i u hu => HTK.out _ hS_vb j hj i u hu) (by simp; omega) hS_vb.size (fun v37 vc HP_vc HB_vc => ?_)
          have HO_vc : Hid (vc.ownsRow W1.heap.size 32 32 v37 k ((A.take k).flatMap dgC)) := by
            have h := HP_vc.out
            rw [HTL.out] at h
            show World.ownsRow _ _ _ _ _ _ _
            simpa using h
          have hS_vc : Below W1.heap.size W1 vc := hS_vb.trans ((Below.refl _ _).grown HB_vc.out hS_vb.size (fun j hj => ((own_later HOE_va.out HB_vb.out).lt j hj).1))
          refine hK.out _ _ hS_vc (fun _ => ?_)
          clear hK K
          try simp only [List.setIfInBounds_toArray, List.set_cons_zero, List.set_cons_succ]
          have hne : v3.heap.size < va.heap.size := (HOE_va.out.lt _ rfl).2
          have HGc : Hid (vc.heap[va.heap.size]? = some (.cells (dgC D).toArray 32)) := (HB_vc.out.block _ (Array.getElem?_eq_some_iff.1 HG_vb.out).1 (fun e => by injection e with e; exact Nat.ne_of_gt hne e)).trans HG_vb.out
          refine wpAnyH_ready (rs := [7]) (by as_aux_lemma => kernel_rfl) (by simp) (AllReadyH.cons rfl (fun K hK => ?_) (AllReadyH.nil))
          rw [if_pos (by rfl)]
          refine wp_append_own _ _ _ 71 rfl W1.heap.size 32 i0 _ 32 32 Try.underlying71 hi hz0 hz1 hz2 rfl (by decide) _ k _ rfl HO_vc.out ⟨va.heap.size, 0, none⟩ 1 1 (dgC D) rfl (by rw [dgC_len HDL.out]) (fun j u hu => (by rw [add_plain, Nat.zero_add]; exact (Joins.cell_of_block HGc.out j).trans (by rw [List.getElem?_toArray]; exact hu))) (dgC_one D) (by unfold maxLen; omega) (by omega) hS_vc.size (fun v40 vx HP_x HB_x _ => ?_)
          have hS_vx : Below W1.heap.size W1 vx := hS_vc.trans ((Below.refl _ _).grown HB_x hS_vc.size (fun j hj => (HO_vc.out.lt j hj).1))
          have HO_vx := hid HP_x
          clear HP_x HB_x
          refine hK.out _ _ hS_vx (fun _ => ?_)
          clear hK K
          try simp only [List.setIfInBounds_toArray, List.set_cons_zero, List.set_cons_succ]
          refine wpAnyH_ready (rs := [11]) (by as_aux_lemma => kernel_rfl) (by simp) (AllReadyH.cons rfl (fun K hK => ?_) (AllReadyH.nil))
          rw [if_pos (by rfl)]
          refine wp_append_dg _ _ rfl W1.heap.size _ (k + 1) ((A.take k).flatMap dgC ++ dgC D) rfl HO_vx.out ⟨b, o + oz, none⟩ (cap - k) (A.drop k) (by rw [HDN.out]; rfl) (fun y hy => H32.out y (List.mem_of_mem_drop hy)) (fun j hj i u hu => HDP.out _ hS_vx j hj i u hu) (by rw [HDN.out]; omega) hS_vx.size (fun v44 vy HP_vy HB_vy => ?_)
          have hS_vy : Below W1.heap.size W1 vy := hS_vx.trans ((Below.refl _ _).grown HB_vy.out hS_vx.size (fun j hj => (HO_vx.out.lt j hj).1))
          refine hK.out _ _ hS_vy (fun _ => ?_)
          clear hK K
          try simp only [List.setIfInBounds_toArray, List.set_cons_zero, List.set_cons_succ]
          have HOF : Hid (vy.ownsRow W1.heap.size 32 32 v44 (intoL D A).length ((intoL D A).flatMap dgC)) := by
            have h := HP_vy.out
            show World.ownsRow _ _ _ _ _ _ _
            rw [HRES.out]
            simp only [List.flatMap_append, List.flatMap_cons, List.flatMap_nil, List.append_nil, List.length_append, List.length_cons, List.length_nil]
            rw [HTL.out, HDN.out]
            rw [HDN.out] at h
            simpa [Nat.add_assoc, List.append_assoc] using h
          refine Ord.take (i := 12) (d := 4) (v := ?vYC12) rfl rfl (by as_aux_lemma => kernel_rfl) (by as_aux_lemma => kernel_rfl) (by as_aux_lemma => kernel_rfl) (fun _ _ _ h => h) (by rfl) ?hYC12 (by assumption) ?_
          case hYC12 => intro wx hSw; go_simp; try with_reducible rfl
          try simp only [List.setIfInBounds_toArray, List.set_cons_zero, List.set_cons_succ]
          refine wpAnyH_done (by as_aux_lemma => kernel_rfl) ?_ _
          obtain ⟨a6, cap6, hv6, hrw, _⟩ := Rw.own (z := ([] : List Int)) HOF.out (fun y hy => dgC_len ((into_mem D A y).1 hy |>.elim (fun e => by rw [e]; exact HDL.out) (H32.out y)))
          subst hv6
          have HRW := hid hrw
          have HS9 := hid (HB0.out.trans (hS_vy.mono HB0.out.size))
          clear hrw HOF
          go_wp2
          go_ret
          exact ⟨a6, cap6, rfl, HRW.out, HS9.out⟩
      · rw [if_pos (by rfl)]
        refine wp_buildOne_W 71 32 _ rfl (dgC D).toArray i0 _ Try.underlying71 hi hz0 (by rw [hz1, List.size_toArray, dgC_len HDL.out]) (by rw [List.size_toArray, dgC_len HDL.out]; decide) (by rw [List.size_toArray, dgC_len HDL.out]; decide) rfl v3.heap.size rfl ?_
        intro va HG_va HB_va
        have hS_va : Below W1.heap.size W1 va := Bn hS_v3 HB_va.out
        refine hK.out _ _ hS_va (fun _ => ?_)
        clear hK K
        try simp only [List.setIfInBounds_toArray, List.set_cons_zero, List.set_cons_succ]
        refine wpAnyH_ready (rs := [0]) (by as_aux_lemma => kernel_rfl) (by simp) (AllReadyH.cons rfl (fun K hK => ?_) (AllReadyH.nil))
        rw [if_pos (by rfl)]
        refine wp_buildEmptyD rfl W1.heap.size va.heap.size hS_va.size rfl (fun vb HOE_vb HBE_vb => ?_)
        have hS_vb : Below W1.heap.size W1 vb := Bn hS_va HBE_vb.out
        refine hK.out _ _ hS_vb (fun _ => ?_)
        clear hK K
        try simp only [List.setIfInBounds_toArray, List.set_cons_zero, List.set_cons_succ]
        refine wpAnyH_ready (rs := [4]) (by as_aux_lemma => kernel_rfl) (by simp) (AllReadyH.cons rfl (fun K hK => ?_) (AllReadyH.nil))
        rw [if_pos (by rfl)]
        refine wp_append_dg _ _ rfl W1.heap.size _ 0 ([]) rfl HOE_vb.out ⟨b, o, none⟩ (cap) (A.take k) (by rw [HTL.out]; rfl) (fun y hy => H32.out y (List.mem_of_mem_take hy)) (fun j hj i u hu => HTK.out _ hS_vb j hj i u hu) (by simp; omega) hS_vb.size (fun v37 vc HP_vc HB_vc => ?_)
        have HO_vc : Hid (vc.ownsRow W1.heap.size 32 32 v37 k ((A.take k).flatMap dgC)) := by
          have h := HP_vc.out
          rw [HTL.out] at h
          show World.ownsRow _ _ _ _ _ _ _
          simpa using h
        have hS_vc : Below W1.heap.size W1 vc := hS_vb.trans ((Below.refl _ _).grown HB_vc.out hS_vb.size (fun j hj => (HOE_vb.out.lt j hj).1))
        refine hK.out _ _ hS_vc (fun _ => ?_)
        clear hK K
        try simp only [List.setIfInBounds_toArray, List.set_cons_zero, List.set_cons_succ]
        have hne : v3.heap.size < va.heap.size := (Array.getElem?_eq_some_iff.1 HG_va.out).1
        have HGb : Hid (vb.heap[v3.heap.size]? = some (.cells (dgC D).toArray 32)) := (HBE_vb.out.block _ hne).trans HG_va.out
        have HGc : Hid (vc.heap[v3.heap.size]? = some (.cells (dgC D).toArray 32)) := (HB_vc.out.block _ (Array.getElem?_eq_some_iff.1 HGb.out).1 (fun e => by injection e with e; exact Nat.ne_of_lt hne e)).trans HGb.out
        refine wpAnyH_ready (rs := [7]) (by as_aux_lemma => kernel_rfl) (by simp) (AllReadyH.cons rfl (fun K hK => ?_) (AllReadyH.nil))
        rw [if_pos (by rfl)]
        refine wp_append_own _ _ _ 71 rfl W1.heap.size 32 i0 _ 32 32 Try.underlying71 hi hz0 hz1 hz2 rfl (by decide) _ k _ rfl HO_vc.out ⟨v3.heap.size, 0, none⟩ 1 1 (dgC D) rfl (by rw [dgC_len HDL.out]) (fun j u hu => (by rw [add_plain, Nat.zero_add]; exact (Joins.cell_of_block HGc.out j).trans (by rw [List.getElem?_toArray]; exact hu))) (dgC_one D) (by unfold maxLen; omega) (by omega) hS_vc.size (fun v40 vx HP_x HB_x _ => ?_)
        have hS_vx : Below W1.heap.size W1 vx := hS_vc.trans ((Below.refl _ _).grown HB_x hS_vc.size (fun j hj => (HO_vc.out.lt j hj).1))
        have HO_vx := hid HP_x
        clear HP_x HB_x
        refine hK.out _ _ hS_vx (fun _ => ?_)
        clear hK K
        try simp only [List.setIfInBounds_toArray, List.set_cons_zero, List.set_cons_succ]
        refine wpAnyH_ready (rs := [11]) (by as_aux_lemma => kernel_rfl) (by simp) (AllReadyH.cons rfl (fun K hK => ?_) (AllReadyH.nil))
        rw [if_pos (by rfl)]
        refine wp_append_dg _ _ rfl W1.heap.size _ (k + 1) ((A.take k).flatMap dgC ++ dgC D) rfl HO_vx.out ⟨b, o + oz, none⟩ (cap - k) (A.drop k) (by rw [HDN.out]; rfl) (fun y hy => H32.out y (List.mem_of_mem_drop hy)) (fun j hj i u hu => HDP.out _ hS_vx j hj i u hu) (by rw [HDN.out]; omega) hS_vx.size (fun v44 vy HP_vy HB_vy => ?_)
        have hS_vy : Below W1.heap.size W1 vy := hS_vx.trans ((Below.refl _ _).grown HB_vy.out hS_vx.size (fun j hj => (HO_vx.out.lt j hj).1))
        refine hK.out _ _ hS_vy (fun _ => ?_)
        clear hK K
        try simp only [List.setIfInBounds_toArray, List.set_cons_zero, List.set_cons_succ]
        have HOF : Hid (vy.ownsRow W1.heap.size 32 32 v44 (intoL D A).length ((intoL D A).flatMap dgC)) := by
          have h := HP_vy.out
          show World.ownsRow _ _ _ _ _ _ _
          rw [HRES.out]
          simp only [List.flatMap_append, List.flatMap_cons, List.flatMap_nil, List.append_nil, List.length_append, List.length_cons, List.length_nil]
          rw [HTL.out, HDN.out]
          rw [HDN.out] at h
          simpa [Nat.add_assoc, List.append_assoc] using h
        refine Ord.take (i := 12) (d := 4) (v := ?vYD12) rfl rfl (by as_aux_lemma => kernel_rfl) (by as_aux_lemma => kernel_rfl) (by as_aux_lemma => kernel_rfl) (fun _ _ _ h => h) (by rfl) ?hYD12 (by assumption) ?_
        case hYD12 => intro wx hSw; go_simp; try with_reducible rfl
        try simp only [List.setIfInBounds_toArray, List.set_cons_zero, List.set_cons_succ]
        refine wpAnyH_done (by as_aux_lemma => kernel_rfl) ?_ _
        obtain ⟨a6, cap6, hv6, hrw, _⟩ := Rw.own (z := ([] : List Int)) HOF.out (fun y hy => dgC_len ((into_mem D A y).1 hy |>.elim (fun e => by rw [e]; exact HDL.out) (H32.out y)))
        subst hv6
        have HRW := hid hrw
        have HS9 := hid (HB0.out.trans (hS_vy.mono HB0.out.size))
        clear hrw HOF
        go_wp2
        go_ret
        exact ⟨a6, cap6, rfl, HRW.out, HS9.out⟩
end Go.Proofs.Ytcbjlnabbfkkeaa
