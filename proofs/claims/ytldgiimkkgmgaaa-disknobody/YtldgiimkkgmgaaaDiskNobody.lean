/-
  DiskNobody is proved for every input: a device that is nil, and one that neither New nor Lose made, refuses all; no condition.
-/
import Derived.Test.YtldgiimkkgmgaaaPart05
namespace Go.Proofs.Ytldgiimkkgmgaaa.diskNobody
open Go.ChangeShapes Go.WideShapes Go.ChangeAt Go.RowKit

theorem own : ownKnob Try.prog.godebug = none := by kernel_rfl

set_option maxHeartbeats 6400000 in
set_option maxRecDepth 100000 in
theorem walk (z : OpZ) (ab : Option Addr) (cb : Nat) (ak : Option Addr) (ck : Nat) (w : World) (_ : OpR w z ab cb ak ck) :
    Calls Try.prog 7 #[.agg (opV z ab cb ak ck).toArray] w fun e w' => e = .returned (.bool true) ∧ Below w.heap.size w w' := by
  have HB1 := hid (bel_alloc w (.cells (opV z ab cb ak ck).toArray 36))
  have HB2 := hid (bel_alloc (w.alloc (.cells (opV z ab cb ak ck).toArray 36)) (.cells #[.pointer none] 52))
  have HB3 := hid (bel_alloc ((w.alloc (.cells (opV z ab cb ak ck).toArray 36)).alloc (.cells #[.pointer none] 52)) (.cells #[.pointer none, .pointer (some ⟨w.heap.size + 1, 0, none⟩)] 23))
  have HE1 := hid (heap_new w (.cells (opV z ab cb ak ck).toArray 36))
  have HE2 := hid (heap_new (w.alloc (.cells (opV z ab cb ak ck).toArray 36)) (.cells #[.pointer none] 52))
  have HE3 := hid (heap_new ((w.alloc (.cells (opV z ab cb ak ck).toArray 36)).alloc (.cells #[.pointer none] 52)) (.cells #[.pointer none, .pointer (some ⟨w.heap.size + 1, 0, none⟩)] 23))
  have hs1 : (w.alloc (.cells (opV z ab cb ak ck).toArray 36)).heap.size = w.heap.size + 1 := World.size_alloc ..
  have hs2 : ((w.alloc (.cells (opV z ab cb ak ck).toArray 36)).alloc (.cells #[.pointer none] 52)).heap.size = w.heap.size + 1 + 1 := by rw [World.size_alloc, hs1]
  rw [hs1] at HE2
  rw [hs2] at HE3
  have F1 := hid (((Bn (Bn HB1.out HB2.out) HB3.out)))
  have G2 := hid ((HB3.out.block (w.heap.size + 1) (by rw [hs2]; omega)).trans HE2.out)
  have G1 := hid ((HB3.out.block w.heap.size (by rw [hs2]; omega)).trans ((HB2.out.block w.heap.size (by rw [hs1]; omega)).trans HE1.out))
  clear hs1 hs2 HB1 HB2 HB3 HE1 HE2
  unfold opV at *
  go_enter Try.func7, Try.ntmps7
  go_wp2_with fail
  have c0 := Joins.cell_of_block G1.out 1
  have c1 := Joins.cell_of_block G1.out 2
  have c2 := Joins.cell_of_block G1.out 3
  have c3 := Joins.cell_of_block G1.out 4
  have c4 := Joins.cell_of_block G1.out 5
  have c5 := Joins.cell_of_block G1.out 6
  have d0 := Joins.cell_of_block HE3.out 0
  have d1 := Joins.cell_of_block HE3.out 1
  have e0 := Joins.cell_of_block G2.out 0
  simp only [List.getElem?_toArray, List.getElem?_cons_zero, List.getElem?_cons_succ] at c0 c1 c2 c3 c4 c5 d0 d1 e0
  clear G1 G2 HE3
  generalize ((w.alloc (.cells [.int .i64 z.kind, .int .i64 z.i, .int .i64 z.at_, .int .i64 z.torn, .int .u8 z.mask, .slice ab z.b.length cb, .slice ak z.keep.length ck].toArray 36)).alloc (.cells #[.pointer none] 52)).alloc (.cells #[.pointer none, .pointer (some ⟨w.heap.size + 1, 0, none⟩)] 23) = W at *
  have HNO : Hid (∀ p, p = .pointer none ∨ p = .pointer (some ⟨w.heap.size + 1, 0, none⟩) → Nob W p) := fun p hp => by
    rcases hp with rfl | rfl
    · exact .inl rfl
    · exact .inr ⟨_, rfl, e0⟩
  clear e0
  go_loopw [17] (fun i wr => ∃ q : Nat, i = .int .i64 (q : Int) ∧ q ≤ 2 ∧ wr = W) (fun i _ => 2 - (intOf i).toNat)
  case atStart => exact ⟨0, rfl, by omega, rfl⟩
  case round =>
    obtain ⟨q, rfl, hq, hwr⟩ := hrel
    obtain rfl := hwr.symm
    clear hwr
    by_cases h2 : q = 2
    · subst h2
      go_wp2_with fail
      refine (alive_any W).mono ?_
      rintro _ w9 ⟨rfl, hb9⟩
      have HB9 := hid (Bn F1.out hb9)
      clear hb9 c0 c1 c2 c3 c4 c5 d0 d1
      go_wp2_with fail
      go_ret
      exact ⟨rfl, HB9.out⟩
    by_cases h1 : q = 1
    · subst h1
      have hno := HNO.out (.pointer (some ⟨w.heap.size + 1, 0, none⟩)) (by simp)
      have hup := up_no _ _ hno
      have K1 := hid (read_e _ z.i 4 W (by decide) hup)
      have K2 := hid (sync_e _ 4 W (by decide) hup)
      have K3 := hid (lose_e _ (.slice ak z.keep.length ck) z.torn z.at_ 4 W (by decide) hup)
      have K4 := hid (write_e _ z.i (.slice ab z.b.length cb) 4 W (by decide) hup)
      have K5 := hid (rot_e _ z.i z.at_ z.mask 4 W (by decide) hup)
      have K6 := hid (fuse_e _ z.i 4 W (by decide) hup)
      have K7 := hid (size_no _ _ hno)
      have K8 := hid (open_no _ _ hno)
      have K9 := hid (down_no _ _ hno)
      clear hno hup HNO
      go_wp2_with fail
      refine K1.out.mono ?_
      rintro _ u1 ⟨rfl, hu⟩
      obtain rfl := hu.symm
      clear hu K1
      go_wp2_with fail
      refine K2.out.mono ?_
      rintro _ u2 ⟨rfl, hu⟩
      obtain rfl := hu.symm
      clear hu K2
      go_wp2_with fail
      refine K3.out.mono ?_
      rintro _ u3 ⟨rfl, hu⟩
      obtain rfl := hu.symm
      clear hu K3
      go_wp2_with fail
      refine K4.out.mono ?_
      rintro _ u4 ⟨rfl, hu⟩
      obtain rfl := hu.symm
      clear hu K4
      go_wp2_with fail
      refine K5.out.mono ?_
      rintro _ u5 ⟨rfl, hu⟩
      obtain rfl := hu.symm
      clear hu K5
      go_wp2_with fail
      refine K6.out.mono ?_
      rintro _ u6 ⟨rfl, hu⟩
      obtain rfl := hu.symm
      clear hu K6
      go_wp2_with fail
      refine K7.out.mono ?_
      rintro _ u7 ⟨rfl, hu⟩
      obtain rfl := hu.symm
      clear hu K7
      go_wp2_with fail
      refine K8.out.mono ?_
      rintro _ u8 ⟨rfl, hu⟩
      obtain rfl := hu.symm
      clear hu K8
      go_wp2_with fail
      refine K9.out.mono ?_
      rintro _ u9 ⟨rfl, hu⟩
      obtain rfl := hu.symm
      clear hu K9
      go_wp2_with fail
      exact ⟨⟨2, rfl, by omega, trivial⟩, by simp [intOf]⟩
    · have h0 : q = 0 := by omega
      subst h0
      have hno := HNO.out (.pointer none) (by simp)
      have hup := up_no _ _ hno
      have K1 := hid (read_e _ z.i 4 W (by decide) hup)
      have K2 := hid (sync_e _ 4 W (by decide) hup)
      have K3 := hid (lose_e _ (.slice ak z.keep.length ck) z.torn z.at_ 4 W (by decide) hup)
      have K4 := hid (write_e _ z.i (.slice ab z.b.length cb) 4 W (by decide) hup)
      have K5 := hid (rot_e _ z.i z.at_ z.mask 4 W (by decide) hup)
      have K6 := hid (fuse_e _ z.i 4 W (by decide) hup)
      have K7 := hid (size_no _ _ hno)
      have K8 := hid (open_no _ _ hno)
      have K9 := hid (down_no _ _ hno)
      clear hno hup HNO
      go_wp2_with fail
      refine K1.out.mono ?_
      rintro _ u1 ⟨rfl, hu⟩
      obtain rfl := hu.symm
      clear hu K1
      go_wp2_with fail
      refine K2.out.mono ?_
      rintro _ u2 ⟨rfl, hu⟩
      obtain rfl := hu.symm
      clear hu K2
      go_wp2_with fail
      refine K3.out.mono ?_
      rintro _ u3 ⟨rfl, hu⟩
      obtain rfl := hu.symm
      clear hu K3
      go_wp2_with fail
      refine K4.out.mono ?_
      rintro _ u4 ⟨rfl, hu⟩
      obtain rfl := hu.symm
      clear hu K4
      go_wp2_with fail
      refine K5.out.mono ?_
      rintro _ u5 ⟨rfl, hu⟩
      obtain rfl := hu.symm
      clear hu K5
      go_wp2_with fail
      refine K6.out.mono ?_
      rintro _ u6 ⟨rfl, hu⟩
      obtain rfl := hu.symm
      clear hu K6
      go_wp2_with fail
      refine K7.out.mono ?_
      rintro _ u7 ⟨rfl, hu⟩
      obtain rfl := hu.symm
      clear hu K7
      go_wp2_with fail
      refine K8.out.mono ?_
      rintro _ u8 ⟨rfl, hu⟩
      obtain rfl := hu.symm
      clear hu K8
      go_wp2_with fail
      refine K9.out.mono ?_
      rintro _ u9 ⟨rfl, hu⟩
      obtain rfl := hu.symm
      clear hu K9
      go_wp2_with fail
      exact ⟨⟨1, rfl, by omega, trivial⟩, by simp [intOf]⟩

set_option maxRecDepth 100000 in
theorem lifted (os : Os) (started : os.Started) (H : Type) (enc : TypeId × Value → H) :
    ReturnsInHanded {} Try.checked os 7 .any (Rows.diskNobodySpec.pre6 enc Try.prog Try.f7 Rows.diskNobodyRow.domain false) (Rows.diskNobodySpec.post enc Try.prog Try.f7 false true false false) := by
  refine returnsInHanded_of_change (C := Try.checked) own started (by kernel_rfl) Try.func7
    (ChangeSpec.witness6 (enc := enc) (C := Try.checked) false ⟨#[], #[.agg #[.int .i64 0, .int .i64 0, .int .i64 0, .int .i64 0, .int .u8 0, .slice none 0 0, .slice none 0 0]], []⟩ 8 (by kernel_rfl) (by kernel_rfl) (by kernel_rfl) (by kernel_rfl)) ?_
  intro W base args ds gs before hval0 hW _ _
  have hval : ∀ (j : Nat) t v, Try.f7.params[j]? = some t → args[j]? = some v → Value.okWide Try.prog W .any base t v := hval0
  have hW' := hW
  obtain ⟨p, q, hA0, hV, rfl, _, _⟩ := hW
  have hA : DataW.TrodAll enc Try.prog W 0 (fun _ => true) true Try.f7.params.toList args.toList ds p := hA0
  rw [Try.params7] at hA hval
  obtain ⟨v0, vs0, d0, ds0, p0, q0, hargs, rfl, rfl, h0, r0⟩ := trodAll_cons hA
  obtain ⟨rfl, rfl, rfl⟩ := trodAll_nil r0
  obtain rfl : args = #[v0] := by cases args; simp_all
  obtain ⟨rfl, rfl⟩ := trodVars_none hV
  clear hA0
  simp only [List.append_nil] at hW'
  have hlt0 : ∀ x ∈ p0, x.block < W.heap.size := fun x hx => hW'.lt x (by simp [hx])
  have hk0 := h0
  obtain ⟨z0, ab0, cb0, ak0, ck0, rfl, hr0⟩ := open_op (hval 0 36 v0 rfl rfl) h0 hlt0
  clear hval0
  refine (walk z0 ab0 cb0 ak0 ck0 W hr0).mono fun e W' ⟨he, hb⟩ => ?_
  subst he
  exact ⟨_, rfl, _, _, _, [] ++ [], _, [], hW', trodAll_cons_mk (shut_bool Try.underlying4 _) trodAll_mk0, (trodAll_cons_mk (Below.trod Try.laidOut (by kernel_rfl) (of_decide_eq_true (by kernel_rfl)) hk0 hb hlt0) trodAll_mk0), rfl, hb.frame _, fun h => by cases h⟩

theorem over : Rows.diskNobodyRow.holds Try.pinned (OpenSpec.ofChange Rows.diskNobodySpec) :=
  OpenClaim.holds_of_wide 7 Try.f7 rfl rfl rfl rfl rfl rfl rfl ⟨rfl, rfl, rfl, rfl, rfl⟩ rfl rfl rfl rfl rfl (by kernel_rfl) Try.func7 (by kernel_rfl)
    (of_decide_eq_true (by kernel_rfl)) (by unfold Func.isWrapper; first | (rw [if_pos (by decide +kernel)]; kernel_rfl) | (rw [if_neg (by decide +kernel)]; exact ⟨rfl, rfl⟩))
    (fun os started H enc _ => lifted os started H enc)

end Go.Proofs.Ytldgiimkkgmgaaa.diskNobody
namespace Go.Proofs.Ytldgiimkkgmgaaa
theorem diskNobody_holds : Rows.DiskNobodySaid := diskNobody.over
#print axioms diskNobody_holds
end Go.Proofs.Ytldgiimkkgmgaaa
