/-
  The contracts of slices.Clone at []int and of huff.Lengths where the tree of counts is not too deep.
-/
import Derived.Test.YtgecoiakhmnilaaDepths
import Derived.Test.YtgecoiakhmnilaaCounts
import Derived.Lib.SliceRun
namespace Go.Proofs.Ytgecoiakhmnilaa
open Go.RowKit Hf

theorem lengths_no (a : Option Addr) (cap : Nat) (cs : List Int) (w : World) (hr : Ri w .i64 a cap cs) (hc : areC cs = false) :
    Calls Try.prog 10 #[.slice a cs.length cap] w fun e w' => e = .returned (.tuple #[.slice none 0 0, .int .i64 50]) ∧ w' = w := by
  have HA := hid (are_word a cap cs w hr)
  rw [hc] at HA
  clear hr hc
  generalize cs.length = len at *
  go_enter Try.func10, Try.ntmps10
  go_wp2_with fail
  refine HA.out.mono ?_
  rintro _ w1 ⟨rfl, hw⟩
  obtain rfl := hw.symm
  clear hw
  go_wp2
  go_ret2
  exact ⟨rfl, rfl⟩

/-- slices.Clone of a row that is not nil. -/
theorem clone_word (ad : Addr) (cap : Nat) (cs : List Int) (w : World) (hr : Ri w .i64 (some ad) cap cs) (hn : cs.length ≤ 1000) :
    Calls Try.prog 26 #[.slice (some ad) cs.length cap] w fun e w' => ∃ v, e = .returned v ∧ w'.ownsRow w.heap.size 3 1 v cs.length (cs.map (Value.int .i64)) ∧ Below w.heap.size w w' := by
  obtain ⟨i0, hi, hz0, hz1, hz2⟩ := info_parts Try.info3'
  have HR := hid hr
  have ho := World.ownsRow_lit (base := w.heap.size) (e := 3) (size := 1) w #[] 0 (Nat.le_refl _) (by unfold maxLen; omega) rfl
  have hb := bel_alloc w (.cells #[] 3)
  have HRA := hid (hr.later hb)
  have HNW : Hid (∀ j u, (cs.map (Value.int .i64))[j]? = some u → (w.alloc (.cells #[] 3)).cell? (ad.add j) = some u) := by
    intro j u hj
    have hjl : j < cs.length := by
      have := (List.getElem?_eq_some_iff.1 hj).1
      simpa using this
    obtain ⟨b, off, hbe, _, hc⟩ := HRA.out.cells (by omega)
    injection hbe with hbe
    subst hbe
    rw [Go.WideShapes.add_plain, hc j hjl, ← hj]
    simp [List.getD, List.getElem?_eq_getElem hjl]
  have HON : Hid (∀ u ∈ cs.map (Value.int .i64), u.oneCell' = true) := by
    intro u hu
    rw [List.mem_map] at hu
    obtain ⟨x, _, rfl⟩ := hu
    rfl
  have HNL : Hid ((cs.map (Value.int .i64)).length = cs.length * 1) := by show _ = _; simp
  have q22 : ∀ (w : World) (a : Option Addr) (n c n' c' : Nat), (binOp .eql 22 (.slice a n c) (.slice none n' c')).run Try.prog w = .ok (.bool a.isNone) w := fun w a n c n' c' => Lib.run_eql_slice_nil w _ _ a n c n' c' Try.underlying22
  have HOS := hid ho
  have HBS := hid hb
  have hmx : 0 + cs.length ≤ maxLen := by unfold maxLen; omega
  have HMX := hid hmx
  generalize cs.map (Value.int .i64) = news at *
  generalize cs.length = len at *
  clear hr ho hb hmx
  go_enter Try.func26, Try.ntmps26
  go_wp2_with (first
    | (at_builtin; refine wpList_append_own _ rfl _ _ 22 rfl w.heap.size 3 i0 (.int .i64 0) 1 8 Try.underlying22 hi hz0 hz1 hz2 rfl (by decide) _ _ _ rfl HOS.out ad len cap news rfl HNL.out HNW.out HON.out HMX.out (by omega) (by simp) ?_))
  have ho := HOS.out
  have hb := HBS.out
  clear HOS HBS
  intro v1 w1 hown1 hgrow _
  have HB := hid (hb.grown hgrow (by simp) (fun j hj => (ho.lt j hj).1))
  have HO : Hid (w1.ownsRow w.heap.size 3 1 v1 len news) := by
    show World.ownsRow _ _ _ _ _ _ _
    simpa using hown1
  clear hown1 hgrow ho hb
  go_wp2
  go_ret
  exact ⟨_, rfl, HO.out, HB.out⟩

set_option maxHeartbeats 800000 in
/-- huff.Lengths of counts whose tree is not too deep. -/
theorem lengths_flat (ad : Addr) (cap : Nat) (cs : List Int) (w : World) (hr : Ri w .i64 (some ad) cap cs) (hc : areC cs = true) (hm : (nz cs cs.length).length ≤ mostS) (hd : (depthsL cs).any deepC = false) (hdf : ∀ j, (Lit.int .i64 ((depthsL cs).getD j 0)).wf = true) :
    Calls Try.prog 10 #[.slice (some ad) cs.length cap] w fun e w' => ∃ v, e = .returned (.tuple #[v, .int .i64 0]) ∧ w'.ownsRow w.heap.size 3 1 v (depthsL cs).length ((depthsL cs).map (Value.int .i64)) ∧ Below w.heap.size w w' := by
  have hcr := areC_rng hc
  have HA := hid (are_word (some ad) cap cs w hr)
  rw [hc] at HA
  have HC := hid (clone_word ad cap cs w hr (by omega))
  have HF := hid hr.fits
  have HD : Hid (∀ (W : World) (a2 : Option Addr) (c2 : Nat), Ri W .i64 a2 c2 cs → Calls Try.prog 27 #[.slice a2 cs.length c2] W fun e w' => ∃ v, e = .returned v ∧ w'.ownsRow W.heap.size 3 1 v (depthsL cs).length ((depthsL cs).map (Value.int .i64)) ∧ Below W.heap.size W w') := fun W a2 c2 h2 => depths_word a2 c2 cs W h2 hcr.1 hcr.2 hm
  have HDF := hid hdf
  have HDD := hid hd
  clear hr hc hcr hm hd hdf
  obtain ⟨len, hl⟩ : ∃ n, n = cs.length := ⟨_, rfl⟩
  rw [← hl] at HA HC HD ⊢
  have HL := hid hl
  clear hl
  go_enter Try.func10, Try.ntmps10
  go_wp2_with fail
  refine HA.out.mono ?_
  rintro _ w1 ⟨rfl, hw⟩
  obtain rfl := hw.symm
  clear hw
  go_wp2_with fail
  refine HC.out.mono ?_
  rintro _ w1 ⟨v1, rfl, ho1, hb1⟩
  rw [HL.out] at ho1
  obtain ⟨a1, c1, rfl, hr1⟩ := Ri.own ho1 HF.out
  rw [← HL.out]
  have HD1 := hid (HD.out w1 a1 c1 hr1)
  clear ho1 hr1 HA HC HD
  go_wp2_with fail
  refine HD1.out.mono ?_
  rintro _ w2 ⟨v2, rfl, ho2, hb2⟩
  obtain ⟨a2, c2, rfl, hr2⟩ := Ri.own ho2 HDF.out
  have HX := hid (contains_29 a2 c2 (depthsL cs) w2 hr2)
  rw [HDD.out] at HX
  have HO2 := hid (own_low ho2 hb1.size)
  have HB2 := hid (Bn hb1 hb2)
  clear ho2 hb1 hb2 hr2 HD1
  go_wp2
  refine wp_loop_rounds 1 ?_
  rw [rounds_succ]
  go_wp2_with fail
  refine HX.out.mono ?_
  rintro _ w3 ⟨rfl, hw⟩
  obtain rfl := hw.symm
  clear hw
  go_wp2
  go_ret2
  exact ⟨_, rfl, HO2.out, HB2.out⟩
end Go.Proofs.Ytgecoiakhmnilaa
