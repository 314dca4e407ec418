/-
  RollNobody is proved for every input: a cutter that is nil or that New did not make refuses all; no condition.
-/
import Derived.Test.YtcapkkldjgmhfabPart02
import Derived.Great.BuildSlice
import Derived.Great.Ranges
namespace Go.Proofs.Ytcapkkldjgmhfab.rollNobody
open Go.ChangeShapes Go.WideShapes Go.ChangeAt Go.RowKit

theorem own : ownKnob Try.prog.godebug = none := by kernel_rfl
theorem zeros : (Try.prog.info? 31).map (fun i => i.zero.map (fun v => match v with | .agg Z => (Z[0]?, Z[1]?, Z[2]?) | _ => (none, none, none))) = some (some (some (.int .i64 0), some (.int .i64 0), some (.int .i64 0))) := by kernel_rfl
/-- Behind the two pointers: the zero cutter, and the row of both. -/
structure Good (w wB : World) : Prop where
  bel : Below w.heap.size w wB
  lt : w.heap.size + 1 < wB.heap.size
  p0 : wB.cell? ⟨w.heap.size + 1, 0, none⟩ = some (.pointer none)
  p1 : wB.cell? ⟨w.heap.size + 1, 1, none⟩ = some (.pointer (some ⟨w.heap.size, 0, none⟩))
  nob : Nob wB (some ⟨w.heap.size, 0, none⟩)
theorem good_of (w : World) (Z : Array Value) (z0 : Z[0]? = some (.int .i64 0)) (z1 : Z[1]? = some (.int .i64 0)) (z2 : Z[2]? = some (.int .i64 0)) : Good w ((w.alloc (.cells Z 31)).alloc (.cells #[.pointer none, .pointer (some ⟨w.heap.size, 0, none⟩)] 23)) := by
  have eZ := heap_old _ (.cells #[.pointer none, .pointer (some ⟨w.heap.size, 0, none⟩)] 23) (heap_new w (.cells Z 31))
  have eP := heap_new (w.alloc (.cells Z 31)) (.cells #[.pointer none, .pointer (some ⟨w.heap.size, 0, none⟩)] 23)
  simp only [World.size_alloc] at eP
  exact ⟨Bn (bel_alloc w (.cells Z 31)) (bel_alloc _ _), (Array.getElem?_eq_some_iff.1 eP).1, Joins.cell_of_block eP 0, Joins.cell_of_block eP 1, .inr ⟨w.heap.size, rfl, (Array.getElem?_eq_some_iff.1 eZ).1, (Joins.cell_of_block eZ 0).trans z0, (Joins.cell_of_block eZ 1).trans z1, (Joins.cell_of_block eZ 2).trans z2⟩⟩
set_option maxHeartbeats 6400000 in
set_option maxRecDepth 100000 in
theorem walk (a : Option Addr) (cap : Nat) (zs : List Int) (w : World) (_hr : Ri w .u8 a cap zs) :
    Calls Try.prog 3 #[.slice a zs.length cap] w fun e w' => e = .returned (.bool true) ∧ Below w.heap.size w w' := by
  obtain ⟨Z, hZ, z0, z1, z2⟩ : ∃ Z, (∀ w : World, (zeroValue 31).run Try.prog w = .ok (.agg Z) w) ∧ Z[0]? = some (.int .i64 0) ∧ Z[1]? = some (.int .i64 0) ∧ Z[2]? = some (.int .i64 0) := by
    have h := zeros
    cases hi : Try.prog.info? 31 with
    | none => rw [hi] at h; cases h
    | some i =>
      rw [hi] at h
      simp only [Option.map_some, Option.some.injEq] at h
      cases hz : i.zero with
      | none => rw [hz] at h; cases h
      | some v =>
        rw [hz] at h
        cases v with
        | agg Z =>
          simp only [Option.map_some, Option.some.injEq, Prod.mk.injEq] at h
          exact ⟨Z, fun w => by simp [zeroValue, typeInfo, hi, hz], h.1, h.2.1, h.2.2⟩
        | _ => simp at h
  have HGZ := hid (good_of w Z z0 z1 z2)
  clear z0 z1 z2
  generalize zs.length = len
  go_enter Try.func3, Try.ntmps3
  go_wp2_with fail
  go_loopw [15] (fun y wr => ∃ (k : Nat) (wB : World), k ≤ 2 ∧ y = .int .i64 (k : Int) ∧ Hid (Good w wB) ∧ Hid (Below wB.heap.size wB wr)) (fun y _ => 2 - (intOf y).toNat)
  case atStart =>
    first
      | exact ⟨0, _, by omega, rfl, HGZ, Below.refl _ _⟩
      | exact ⟨0, _, by omega, rfl, good_of w Try.zeroCells31 (by kernel_rfl) (by kernel_rfl) (by kernel_rfl), Below.refl _ _⟩
  case round =>
    obtain ⟨k, wB, hk, rfl, HGD, HBK⟩ := hrel
    have cp0 := HGD.out.p0
    have cp1 := HGD.out.p1
    have hlt1 := HGD.out.lt
    have hNob := HGD.out.nob
    have HB0 := hid HGD.out.bel
    clear hZ
    have hk3 : k = 0 ∨ k = 1 ∨ k = 2 := by omega
    rcases hk3 with rfl | rfl | rfl
    · simp only [Int.natCast_zero]
      have q := (HBK.out.cell (p := ⟨w.heap.size + 1, 0, none⟩) hlt1).trans cp0
      have hno : Nob wr (none) := .inl rfl
      have HW := hid (write_no (none) (.slice a len cap) wr hno)
      have HNO := hid hno
      clear hno
      go_wp2_with fail
      refine HW.out.mono ?_
      rintro _ w1 ⟨rfl, hb1⟩
      have HCL := hid (close_no (none) w1 (HNO.out.later hb1))
      have HB1 := hid (Bn HBK.out hb1)
      have HNO1 := hid (HNO.out.later hb1)
      clear hb1 HW q
      go_wp2_with fail
      refine HCL.out.mono ?_
      rintro _ w2 ⟨rfl, hb2⟩
      have HLF := hid (left_no (none) w2 (HNO1.out.later hb2))
      have HB2 := hid (Bn HB1.out hb2)
      clear hb2 HCL
      go_wp2_with fail
      refine HLF.out.mono ?_
      rintro _ w3 ⟨rfl, hb3⟩
      have HB3 := hid (Bn HB2.out hb3)
      clear hb3 HLF
      go_wp2_with fail
      exact ⟨⟨1, wB, by omega, rfl, HGD, HB3.out⟩, by simp [intOf]⟩
    · simp only [Int.natCast_one]
      have q := (HBK.out.cell (p := ⟨w.heap.size + 1, 1, none⟩) hlt1).trans cp1
      have hno : Nob wr (some ⟨w.heap.size, 0, none⟩) := hNob.later HBK.out
      have HW := hid (write_no (some ⟨w.heap.size, 0, none⟩) (.slice a len cap) wr hno)
      have HNO := hid hno
      clear hno
      go_wp2_with fail
      refine HW.out.mono ?_
      rintro _ w1 ⟨rfl, hb1⟩
      have HCL := hid (close_no (some ⟨w.heap.size, 0, none⟩) w1 (HNO.out.later hb1))
      have HB1 := hid (Bn HBK.out hb1)
      have HNO1 := hid (HNO.out.later hb1)
      clear hb1 HW q
      go_wp2_with fail
      refine HCL.out.mono ?_
      rintro _ w2 ⟨rfl, hb2⟩
      have HLF := hid (left_no (some ⟨w.heap.size, 0, none⟩) w2 (HNO1.out.later hb2))
      have HB2 := hid (Bn HB1.out hb2)
      clear hb2 HCL
      go_wp2_with fail
      refine HLF.out.mono ?_
      rintro _ w3 ⟨rfl, hb3⟩
      have HB3 := hid (Bn HB2.out hb3)
      clear hb3 HLF
      go_wp2_with fail
      exact ⟨⟨2, wB, by omega, rfl, HGD, HB3.out⟩, by simp [intOf]⟩
    · have h22 : ((2 : Nat) : Int) = 2 := rfl
      simp only [h22]
      go_wp2_with fail
      refine (awake_any _).mono ?_
      rintro _ w6 ⟨rfl, hb6⟩
      have HB6 := hid (Bn (Bn HB0.out HBK.out) hb6)
      clear hb6
      go_wp2_with fail
      go_ret
      exact ⟨rfl, HB6.out⟩

set_option maxRecDepth 100000 in
theorem lifted (os : Os) (started : os.Started) (H : Type) (enc : TypeId × Value → H) :
    ReturnsInHanded {} Try.checked os 3 .any (Rows.rollNobodySpec.pre6 enc Try.prog Try.f3 Rows.rollNobodyRow.domain false) (Rows.rollNobodySpec.post enc Try.prog Try.f3 false true false false) := by
  refine returnsInHanded_of_change (C := Try.checked) own started (by kernel_rfl) Try.func3
    (ChangeSpec.witness6 (enc := enc) (C := Try.checked) false ⟨#[], #[.slice none 0 0], []⟩ 8 (by kernel_rfl) (by kernel_rfl) (by kernel_rfl) (by kernel_rfl)) ?_
  intro W base args ds gs before hval0 hW _ _
  have hval : ∀ (j : Nat) t v, Try.f3.params[j]? = some t → args[j]? = some v → Value.okWide Try.prog W .any base t v := hval0
  have hW' := hW
  obtain ⟨p, q, hA0, hV, rfl, _, _⟩ := hW
  have hA : DataW.TrodAll enc Try.prog W 0 (fun _ => true) true Try.f3.params.toList args.toList ds p := hA0
  rw [Try.params3] at hA hval
  obtain ⟨v0, vs0, d0, ds0, p0, q0, hargs, rfl, rfl, h0, r0⟩ := trodAll_cons hA
  obtain ⟨rfl, rfl, rfl⟩ := trodAll_nil r0
  obtain rfl : args = #[v0] := by cases args; simp_all
  obtain ⟨rfl, rfl⟩ := trodVars_none hV
  clear hA0
  simp only [List.append_nil] at hW'
  have hlt0 : ∀ x ∈ p0, x.block < W.heap.size := fun x hx => hW'.lt x (by simp [hx])
  have hk0 := h0
  obtain ⟨a0, cap0, zs0, rfl, hr0⟩ := open_ri Try.underlying22 Try.underlying5 Try.cells5 (hval 0 22 v0 rfl rfl) h0 hlt0
  clear hval0
  refine (walk a0 cap0 zs0 W hr0).mono fun e W' ⟨he, hb⟩ => ?_
  subst he
  exact ⟨_, rfl, _, _, _, [] ++ [], _, [], hW', trodAll_cons_mk (shut_bool Try.underlying4 _) trodAll_mk0, (trodAll_cons_mk (Below.trod Try.laidOut (by kernel_rfl) (of_decide_eq_true (by kernel_rfl)) hk0 hb hlt0) trodAll_mk0), rfl, hb.frame _, fun h => by cases h⟩

theorem over : Rows.rollNobodyRow.holds Try.pinned (OpenSpec.ofChange Rows.rollNobodySpec) :=
  OpenClaim.holds_of_wide 3 Try.f3 rfl rfl rfl rfl rfl rfl rfl ⟨rfl, rfl, rfl, rfl, rfl⟩ rfl rfl rfl rfl rfl (by kernel_rfl) Try.func3 (by kernel_rfl)
    (of_decide_eq_true (by kernel_rfl)) (by unfold Func.isWrapper; first | (rw [if_pos (by decide +kernel)]; kernel_rfl) | (rw [if_neg (by decide +kernel)]; exact ⟨rfl, rfl⟩))
    (fun os started H enc _ => lifted os started H enc)

end Go.Proofs.Ytcapkkldjgmhfab.rollNobody
namespace Go.Proofs.Ytcapkkldjgmhfab
theorem rollNobody_holds : Rows.RollNobodySaid := rollNobody.over
#print axioms rollNobody_holds
end Go.Proofs.Ytcapkkldjgmhfab
