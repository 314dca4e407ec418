/-
  The contract of the statements' awake.
-/
import Derived.Test.YtcapkkldjgmhfaaPart02
import Derived.Lib.SlBytesConst
namespace Go.Proofs.Ytcapkkldjgmhfaa
open Go.RowKit

theorem lit_ri (w : World) (zs : List Int) (m : Nat × Nat) (n : Nat) (hn : n = zs.length) (hm : n ≤ 1000) (hf : ∀ z ∈ zs, 0 ≤ z ∧ z ≤ 255) : Ri (w.alloc (.cells (zs.map (Value.int .u8)).toArray 5 m)) .u8 (some ⟨w.heap.size, 0, none⟩) n zs := by
  subst hn
  refine ⟨Nat.le_refl _, by unfold maxLen; omega, fun _ => ⟨w.heap.size, 0, rfl, by simp, fun j hj => ?_⟩, fun j => ?_⟩
  · have := Joins.cell_of_block (heap_new w (.cells (zs.map (Value.int .u8)).toArray 5 m)) j
    rw [Nat.zero_add]
    refine this.trans ?_
    simp [List.getD, List.getElem?_eq_getElem hj]
  · by_cases hj : j < zs.length
    · have hm : zs.getD j 0 ∈ zs := by
        simp only [List.getD, List.getElem?_eq_getElem hj, Option.getD_some]
        exact List.getElem_mem hj
      have := hf _ hm
      exact wf_mk_u8 this.1 this.2
    · rw [getD_out _ _ (by omega)]; exact wf_zero _
def s7 : List Int := [49, 50, 51, 52, 53, 54, 55]
theorem s7_cut : cutO 2 3 0 s7 = ([2, 2, 2, 1], 0) := by decide +kernel

set_option maxHeartbeats 3200000 in
set_option maxRecDepth 100000 in
theorem awake_any (w : World) : Calls Try.prog 16 #[] w fun e w' => e = .returned (.bool true) ∧ Below w.heap.size w w' := by
  have hC := cuts_word 2 3 0 (some ⟨w.heap.size, 0, none⟩) 7 s7 _ (lit_ri w s7 (7, 8) 7 rfl (by omega) (by decide))
  unfold CutPost at hC
  rw [s7_cut] at hC
  have HC : Hid (Calls Try.prog 19 #[.agg #[.int .i64 2, .int .i64 3, .int .i64 0], .slice (some ⟨w.heap.size, 0, none⟩) 7 7] (w.alloc (.cells #[.int .u8 49, .int .u8 50, .int .u8 51, .int .u8 52, .int .u8 53, .int .u8 54, .int .u8 55] 5 (7, 8))) fun e w' =>
    ∃ v, e = .returned (.tuple #[v, .int .i64 0]) ∧ w'.ownsRow (w.heap.size + 1) 3 1 v 4 [.int .i64 2, .int .i64 2, .int .i64 2, .int .i64 1] ∧ Below w.heap.size w w') := by
    refine Calls.mono hC ?_
    rintro e w' ⟨v, h1, h2, h3⟩
    rw [World.size_alloc] at h2
    exact ⟨v, h1, h2, Bn (bel_alloc w _) h3⟩
  have kc := Lib.run_convert_bytes_const (P := Try.prog) w 25 5 #[.int .u8 49, .int .u8 50, .int .u8 51, .int .u8 52, .int .u8 53, .int .u8 54, .int .u8 55] 7 7 Try.underlying25 Try.underlying5
  simp only [List.size_toArray, List.length_cons, List.length_nil, Nat.reduceAdd] at kc
  have HG := hid (fun W => gear_word 0 W (by omega) (by omega))
  have HGR := hid (fun W => gear_ref 0 W (by omega) (by omega))
  clear hC
  go_enter Try.func16, Try.ntmps16
  go_wp2_with fail
  refine HC.out.mono ?_
  rintro _ w1 ⟨v, rfl, hown, hb⟩
  obtain ⟨g, cap, rfl⟩ := ownsRow_succ hown
  have c0 := hown.cellAt 0 (by omega)
  have c3 := hown.cellAt 3 (by omega)
  simp only [List.getElem?_cons_zero, List.getElem?_cons_succ] at c0 c3
  have HB := hid hb
  clear hown hb HC kc
  generalize gearZ 0 = gz at *
  have hgg : (gz == gz) = true := by simp
  go_wp2_with fail
  refine (HG.out w1).mono ?_
  rintro _ w2 ⟨rfl, hw⟩
  obtain rfl := hw.symm
  go_wp2_with fail
  refine (HGR.out w1).mono ?_
  rintro _ w3 ⟨rfl, hw3⟩
  obtain rfl := hw3.symm
  go_wp2_with fail
  go_ret
  exact ⟨rfl, HB.out⟩
end Go.Proofs.Ytcapkkldjgmhfaa
/-
  Arguments that are settings.
-/
namespace Go.Proofs.Ytcapkkldjgmhfaa
open Go.ChangeShapes Go.WideShapes Go.ChangeAt Go.RowKit

theorem wf_u64 {x : Int} (h : (Lit.int .u64 x).wf = true) : 0 ≤ x ∧ x < 18446744073709551616 := by
  have h1 : IntKind.u64.min = 0 := rfl
  have h2 : IntKind.u64.max = 18446744073709551615 := rfl
  simp only [Lit.wf, Bool.and_eq_true, decide_eq_true_eq] at h
  omega
theorem Try.cells23 : Try.prog.cellsOf 23 = 3 := by kernel_rfl
theorem open_conf {H : Type} {enc : TypeId × Value → H} {W : World} {base : Nat} {v : Value} {d : DataW H} {p : List MemPlace} (hv : Value.okWide Try.prog W .any base 23 v) (h : DataW.Trod enc Try.prog W 0 (fun _ => true) true 23 v d p) : ∃ l m b : Int, v = .agg #[.int .i64 l, .int .i64 m, .int .i64 b] := by
  obtain ⟨v0, v1, v2, y0, y1, y2, n, rfl, _, _, g0, g1, g2⟩ := Joins.open_agg3 Try.underlying23 (by kernel_rfl) Try.cells23 hv h
  obtain ⟨z0, e0, _, _⟩ := DataW.trod_int Try.underlying3 g0
  obtain ⟨z1, e1, _, _⟩ := DataW.trod_int Try.underlying3 g1
  obtain ⟨z2, e2, _, _⟩ := DataW.trod_int Try.underlying3 g2
  have e0' : v0 = .int .i64 z0 := by simpa using e0
  have e1' : v1 = .int .i64 z1 := by simpa using e1
  have e2' : v2 = .int .i64 z2 := by simpa using e2
  subst e0' e1' e2'
  exact ⟨z0, z1, z2, rfl⟩
end Go.Proofs.Ytcapkkldjgmhfaa
