/-
  HuffDecodes is proved for every input: Decode answers as the document says, whatever the lengths, the bytes and the number; no condition.
-/
import Derived.Test.YtgecoiakhmnilaaDecW
import Derived.Test.YtgecoiakhmnilaaDecR
namespace Go.Proofs.Ytgecoiakhmnilaa.huffDecodes
open Go.ChangeShapes Go.WideShapes Go.ChangeAt Go.RowKit Hf

theorem own : ownKnob Try.prog.godebug = none := by kernel_rfl

set_option maxHeartbeats 1600000 in
set_option maxRecDepth 100000 in
theorem walk_rd (a : Option Addr) (cap : Nat) (zs : List Int) (b : Option Addr) (cap2 : Nat) (ys : List Int) (n : Int) (w : World) (hr : Ri w .i64 a cap zs) (hr2 : Ri w .u8 b cap2 ys) :
    Calls Try.prog 6 #[.slice a zs.length cap, .slice b ys.length cap2, .int .i64 n] w fun e w' => e = .returned (.bool true) ∧ Below w.heap.size w w' := by
  have C1 := hid (few_any a cap zs w hr)
  have r1 := hr.take 60
  have r2 := hr2.take 120
  have hl2 : (ys.take 120).length ≤ 1000 := Nat.le_trans (List.length_take_le _ _) (by decide)
  have hcap := hr2.room
  have hmax := hr2.most
  unfold maxLen at hmax
  have hcells := hr2.cells
  have hcase : (120 < ys.length ∧ (ys.take 120).length = 120) ∨ (¬ 120 < ys.length ∧ (ys.take 120).length = ys.length) := by
    rw [List.length_take]; omega
  generalize zs.take 60 = z1 at *
  generalize ys.take 120 = y1 at *
  have E1 := hid (decode_word a cap z1 b cap2 y1 n w r1 r2 hl2)
  have E2 : Hid (∀ W, Below w.heap.size w W → Calls Try.prog 24 #[.slice a z1.length cap, .slice b y1.length cap2, .int .i64 n] W (DecPost z1 y1 n W)) := fun W hW => decode_ref a cap z1 b cap2 y1 n W (r1.later hW) (r2.later hW) hl2
  clear r1 r2 hr hr2 hl2
  generalize z1.length = n1 at *
  generalize zs.length = m1 at *
  rcases hcase with ⟨hlt, he⟩ | ⟨hlt, he⟩
  · obtain ⟨bb, off, rfl, hbw, hc⟩ := hcells (by omega)
    clear hcells hc hbw
    rw [he] at E1 E2
    clear he
    generalize ys.length = m2 at *
    go_enter Try.func6, Try.ntmps6
    go_wp2_with fail
    go_at_call 9
    refine C1.out.mono ?_
    rintro _ w1 ⟨rfl, hw⟩
    obtain rfl := hw.symm
    clear hw
    go_wp2_with fail
    go_at_call 23
    refine E1.out.mono ?_
    rintro _ w1 ⟨a1, c1, rfl, hr1, hb1⟩
    have HE2 := hid (E2.out w1 hb1)
    have HR1 := hid hr1
    have HB1 := hid hb1
    clear hr1 hb1 E1 E2 C1
    go_wp2_with fail
    go_at_call 24
    refine HE2.out.mono ?_
    rintro _ w2 ⟨a2, c2, rfl, hr2, hb2⟩
    have HS := hid (same_any a1 c1 _ a2 c2 _ w2 (HR1.out.later hb2) hr2)
    have HB2 := hid (Bn HB1.out hb2)
    clear hr2 hb2 HR1 HB1 HE2
    generalize (decO z1 y1 n).1 = L at *
    have hLL : (L == L) = true := by simp
    rw [hLL] at HS
    generalize L.length = lL at *
    generalize (decO z1 y1 n).2.1 = x at *
    generalize (decO z1 y1 n).2.2 = f at *
    clear hLL
    have e1 : (x == x) = true := by simp
    have e2 : (f == f) = true := by simp
    go_wp2_with fail
    go_at_call 12
    refine HS.out.mono ?_
    rintro _ w3 ⟨rfl, hb3⟩
    have HB3 := hid (Bn HB2.out hb3)
    clear hb3 HS HB2
    go_wp2_with fail
    go_at_call 13
    refine (alive_any _).mono ?_
    rintro _ w4 ⟨rfl, hb4⟩
    have HB4 := hid (Bn HB3.out hb4)
    clear hb4
    go_wp2
    go_ret
    exact ⟨rfl, HB4.out⟩
  · rw [he] at E1 E2
    clear he hcells
    generalize ys.length = m2 at *
    go_enter Try.func6, Try.ntmps6
    go_wp2_with fail
    go_at_call 9
    refine C1.out.mono ?_
    rintro _ w1 ⟨rfl, hw⟩
    obtain rfl := hw.symm
    clear hw
    go_wp2_with fail
    go_at_call 23
    refine E1.out.mono ?_
    rintro _ w1 ⟨a1, c1, rfl, hr1, hb1⟩
    have HE2 := hid (E2.out w1 hb1)
    have HR1 := hid hr1
    have HB1 := hid hb1
    clear hr1 hb1 E1 E2 C1
    go_wp2_with fail
    go_at_call 24
    refine HE2.out.mono ?_
    rintro _ w2 ⟨a2, c2, rfl, hr2, hb2⟩
    have HS := hid (same_any a1 c1 _ a2 c2 _ w2 (HR1.out.later hb2) hr2)
    have HB2 := hid (Bn HB1.out hb2)
    clear hr2 hb2 HR1 HB1 HE2
    generalize (decO z1 y1 n).1 = L at *
    have hLL : (L == L) = true := by simp
    rw [hLL] at HS
    generalize L.length = lL at *
    generalize (decO z1 y1 n).2.1 = x at *
    generalize (decO z1 y1 n).2.2 = f at *
    clear hLL
    have e1 : (x == x) = true := by simp
    have e2 : (f == f) = true := by simp
    go_wp2_with fail
    go_at_call 12
    refine HS.out.mono ?_
    rintro _ w3 ⟨rfl, hb3⟩
    have HB3 := hid (Bn HB2.out hb3)
    clear hb3 HS HB2
    go_wp2_with fail
    go_at_call 13
    refine (alive_any _).mono ?_
    rintro _ w4 ⟨rfl, hb4⟩
    have HB4 := hid (Bn HB3.out hb4)
    clear hb4
    go_wp2
    go_ret
    exact ⟨rfl, HB4.out⟩

set_option maxRecDepth 100000 in
theorem lifted (os : Os) (started : os.Started) (H : Type) (enc : TypeId × Value → H) :
    ReturnsInHanded {} Try.checked os 6 .any (Rows.huffDecodesSpec.pre6 enc Try.prog Try.f6 Rows.huffDecodesRow.domain false) (Rows.huffDecodesSpec.post enc Try.prog Try.f6 false true false false) := by
  refine returnsInHanded_of_change (C := Try.checked) own started (by kernel_rfl) Try.func6
    (ChangeSpec.witness6 (enc := enc) (C := Try.checked) false ⟨#[], #[.slice none 0 0, .slice none 0 0, .int .i64 0], []⟩ 8 (by kernel_rfl) (by kernel_rfl) (by kernel_rfl) (by kernel_rfl)) ?_
  intro W base args ds gs before hval0 hW _ _
  have hval : ∀ (j : Nat) t v, Try.f6.params[j]? = some t → args[j]? = some v → Value.okWide Try.prog W .any base t v := hval0
  have hW' := hW
  obtain ⟨p, q, hA0, hV, rfl, _, _⟩ := hW
  have hA : DataW.TrodAll enc Try.prog W 0 (fun _ => true) true Try.f6.params.toList args.toList ds p := hA0
  rw [Try.params6] at hA hval
  obtain ⟨v0, vs0, d0, ds0, p0, q0, hargs, rfl, rfl, h0, r0⟩ := trodAll_cons hA
  obtain ⟨v1, vs1, d1, ds1, p1, q1, rfl, rfl, rfl, h1, r1⟩ := trodAll_cons r0
  obtain ⟨v2, vs2, d2, ds2, p2, q2, rfl, rfl, rfl, h2, r2⟩ := trodAll_cons r1
  obtain ⟨rfl, rfl, rfl⟩ := trodAll_nil r2
  obtain rfl : args = #[v0, v1, v2] := by cases args; simp_all
  obtain ⟨rfl, rfl⟩ := trodVars_none hV
  obtain ⟨a2, rfl, rfl, rfl, w2⟩ := open_int Try.underlying3 (hval 2 3 v2 rfl rfl) h2
  clear hA0
  simp only [List.append_nil] at hW'
  have hlt0 : ∀ x ∈ p0, x.block < W.heap.size := fun x hx => hW'.lt x (by simp [hx])
  have hk0 := h0
  obtain ⟨a0, cap0, zs0, rfl, hr0⟩ := open_ri Try.underlying22 Try.underlying3 Try.cells3 (hval 0 22 v0 rfl rfl) h0 hlt0
  have hlt1 : ∀ x ∈ p1, x.block < W.heap.size := fun x hx => hW'.lt x (by simp [hx])
  have hk1 := h1
  obtain ⟨a1, cap1, zs1, rfl, hr1⟩ := open_ri Try.underlying44 Try.underlying5 Try.cells5 (hval 1 44 v1 rfl rfl) h1 hlt1
  clear hval0
  refine (walk_rd a0 cap0 zs0 a1 cap1 zs1 a2 W hr0 hr1).mono fun e W' ⟨he, hb⟩ => ?_
  subst he
  exact ⟨_, rfl, _, _, _, [] ++ [], _, [], hW', trodAll_cons_mk (shut_bool Try.underlying4 _) trodAll_mk0, (trodAll_cons_mk (Below.trod Try.laidOut (by kernel_rfl) (of_decide_eq_true (by kernel_rfl)) hk0 hb hlt0) (trodAll_cons_mk (Below.trod Try.laidOut (by kernel_rfl) (of_decide_eq_true (by kernel_rfl)) hk1 hb hlt1) (trodAll_cons_mk (shut_int Try.underlying3 w2) trodAll_mk0))), rfl, hb.frame _, fun h => by cases h⟩

theorem over : Rows.huffDecodesRow.holds Try.pinned (OpenSpec.ofChange Rows.huffDecodesSpec) :=
  OpenClaim.holds_of_wide 6 Try.f6 rfl rfl rfl rfl rfl rfl rfl ⟨rfl, rfl, rfl, rfl, rfl⟩ rfl rfl rfl rfl rfl (by kernel_rfl) Try.func6 (by kernel_rfl)
    (of_decide_eq_true (by kernel_rfl)) (by unfold Func.isWrapper; first | (rw [if_pos (by decide +kernel)]; kernel_rfl) | (rw [if_neg (by decide +kernel)]; exact ⟨rfl, rfl⟩))
    (fun os started H enc _ => lifted os started H enc)

end Go.Proofs.Ytgecoiakhmnilaa.huffDecodes
namespace Go.Proofs.Ytgecoiakhmnilaa
theorem huffDecodes_holds : Rows.HuffDecodesSaid := huffDecodes.over
#print axioms huffDecodes_holds
end Go.Proofs.Ytgecoiakhmnilaa
