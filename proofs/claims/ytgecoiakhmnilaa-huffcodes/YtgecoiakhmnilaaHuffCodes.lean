/-
  HuffCodes is proved for every input: Check, Codes and Cost answer as the document says, whatever the lengths and the counts; no condition.
-/
import Derived.Test.YtgecoiakhmnilaaBoth
namespace Go.Proofs.Ytgecoiakhmnilaa.huffCodes
open Go.ChangeShapes Go.WideShapes Go.ChangeAt Go.RowKit Hf

theorem own : ownKnob Try.prog.godebug = none := by kernel_rfl

set_option maxHeartbeats 6400000 in
set_option maxRecDepth 100000 in
theorem walk_main (a b : Option Addr) (cap cap2 m1 m2 N1 N2 nO : Nat) (z1 y1 : List Int) (w : World) (hc1 : m1 ≤ cap) (hc2 : m2 ≤ cap2) (hm1 : cap ≤ 9223372036854775807) (hm2 : cap2 ≤ 9223372036854775807)
    (h1 : (520 < m1 ∧ N1 = 520 ∧ ∃ c o, a = some ⟨c, o, none⟩) ∨ (m1 ≤ 520 ∧ N1 = m1)) (h2 : (520 < m2 ∧ N2 = 520 ∧ ∃ c o, b = some ⟨c, o, none⟩) ∨ (m2 ≤ 520 ∧ N2 = m2))
    (E1 : Hid (Calls Try.prog 14 #[.slice a N1 cap] w (CodesPost z1 w)))
    (E2 : Hid (∀ W, Below w.heap.size w W → Calls Try.prog 15 #[.slice a N1 cap] W (CodesPost z1 W)))
    (E3 : Hid (∀ W, Below w.heap.size w W → Calls Try.prog 16 #[.slice a N1 cap] W fun e w' => e = .returned (.int .i64 (checkF z1)) ∧ Below W.heap.size W w'))
    (E4 : Hid (∀ W, Below w.heap.size w W → Calls Try.prog 17 #[.slice a N1 cap] W fun e w' => e = .returned (.int .i64 (checkF z1)) ∧ w' = W))
    (E5 : Hid (∀ W, Below w.heap.size w W → Calls Try.prog 18 #[.slice a N1 cap, .slice b N2 cap2] W fun e w' => e = .returned (.tuple #[.int .i64 (costV z1 y1).1, .int .i64 (costV z1 y1).2]) ∧ Below W.heap.size W w'))
    (E6 : Hid (∀ W, Below w.heap.size w W → Calls Try.prog 19 #[.slice a N1 cap, .slice b N2 cap2] W fun e w' => e = .returned (.tuple #[.int .i64 (costV z1 y1).1, .int .i64 (costV z1 y1).2]) ∧ Below W.heap.size W w'))
    (hO : (codesO z1).length = nO) (hO2 : nO ≤ 520) :
    Calls Try.prog 4 #[.slice a m1 cap, .slice b m2 cap2] w fun e w' => e = .returned (.bool true) ∧ Below w.heap.size w w' := by
  have HO := hid hO
  have HCO : Hid (∀ j, (codesO z1).getD j 0 = (codesO z1).getD j 0) := fun _ => rfl
  clear hO HCO
  rcases h1 with ⟨h1, rfl, ab, ao, rfl⟩ | ⟨h1, rfl⟩ <;> rcases h2 with ⟨h2, rfl, bb, bo, rfl⟩ | ⟨h2, rfl⟩
  all_goals
    go_enter Try.func4, Try.ntmps4
    go_wp2_with fail
    go_at_call 14
    refine E1.out.mono ?_
    rintro _ w1 ⟨a1, c1, rfl, hr1, hb1⟩
    have HE2 := hid (E2.out w1 hb1)
    have HR1 := hid hr1
    have HB1 := hid hb1
    clear hr1 hb1
    rw [HO.out]
    go_wp2_with fail
    go_at_call 15
    refine HE2.out.mono ?_
    rintro _ w2 ⟨a2, c2, rfl, hr2, hb2⟩
    have HR2 := hid hr2
    have HR1' := hid (HR1.out.later hb2)
    have HB2 := hid (Bn HB1.out hb2)
    have HE3 := hid (E3.out w2 HB2.out)
    clear hr2 hb2 HE2 HR1 HB1
    rw [HO.out]
    have e0 : ((nO : Int) != (nO : Int)) = false := by simp
    generalize checkF z1 = f at *
    have e1 : (f != f) = false := by simp
    go_wp2_with fail
    go_at_call 16
    refine HE3.out.mono ?_
    rintro _ w3 ⟨rfl, hb3⟩
    have HR2' := hid (HR2.out.later hb3)
    have HR1'' := hid (HR1'.out.later hb3)
    have HB3 := hid (Bn HB2.out hb3)
    have HE4 := hid (E4.out w3 HB3.out)
    clear hb3 HE3 HR2 HR1' HB2
    go_wp2_with fail
    go_at_call 17
    refine HE4.out.mono ?_
    rintro _ w4 ⟨rfl, hw⟩
    obtain rfl := hw.symm
    clear hw HE4
    go_wp2_with fail
    go_loopw [9] (fun y wr => ∃ k : Nat, k ≤ nO ∧ y = .int .i64 k ∧ Below w3.heap.size w3 wr) (fun y _ => nO - (intOf y).toNat)
    case atStart => exact ⟨0, by omega, rfl, Below.refl _ _⟩
    case round =>
      obtain ⟨k, hk, rfl, hbel⟩ := hrel
      by_cases hlt : k < nO
      · have hkl : (k : Int) < (nO : Int) := by omega
        obtain ⟨g1, o1, rfl, hg1, hq1⟩ := HR1''.out.cells (by rw [HO.out]; omega)
        obtain ⟨g2, o2, rfl, hg2, hq2⟩ := HR2'.out.cells (by rw [HO.out]; omega)
        have d1 : wr.cell? ⟨g1, o1 + k, none⟩ = some (.int .u16 ((codesO z1).getD k 0)) := (hbel.cell (p := ⟨g1, o1 + k, none⟩) hg1).trans (hq1 k (by rw [HO.out]; exact hlt))
        have d2 : wr.cell? ⟨g2, o2 + k, none⟩ = some (.int .u16 ((codesO z1).getD k 0)) := (hbel.cell (p := ⟨g2, o2 + k, none⟩) hg2).trans (hq2 k (by rw [HO.out]; exact hlt))
        have HBE := hid hbel.drew
        clear hq1 hq2 hbel
        generalize (codesO z1).getD k 0 = z at *
        have hbz : (z != z) = false := by simp
        go_wp2_with fail
        go_region
        clear d1 d2
        generalize wr.drew = W at *
        go_wp2
        exact ⟨⟨k + 1, by omega, by go_num, HBE.out⟩, by simp [intOf]; omega⟩
      · have HB5 := hid (Bn HB3.out hbel)
        have HE5 := hid (E5.out wr HB5.out)
        clear hbel HR1'' HR2'
        go_wp2_with fail
        go_at_call 18
        refine HE5.out.mono ?_
        rintro _ w6 ⟨rfl, hb6⟩
        have HB6 := hid (Bn HB5.out hb6)
        have HE6 := hid (E6.out w6 HB6.out)
        clear hb6
        go_wp2_with fail
        go_at_call 19
        refine HE6.out.mono ?_
        rintro _ w7 ⟨rfl, hb7⟩
        have HB7 := hid (Bn HB6.out hb7)
        clear hb7
        generalize (costV z1 y1).1 = x at *
        generalize (costV z1 y1).2 = g at *
        have e3 : (x == x) = true := by simp
        have e4 : (g == g) = true := by simp
        go_wp2_with fail
        go_at_call 13
        refine (alive_any _).mono ?_
        rintro _ w8 ⟨rfl, hb8⟩
        have HB8 := hid (Bn HB7.out hb8)
        clear hb8
        go_wp2
        go_ret
        exact ⟨rfl, HB8.out⟩

theorem take520 {w : World} {a : Option Addr} {cap : Nat} {zs : List Int} (hr : Ri w .i64 a cap zs) : (520 < zs.length ∧ (zs.take 520).length = 520 ∧ ∃ c o, a = some ⟨c, o, none⟩) ∨ (zs.length ≤ 520 ∧ (zs.take 520).length = zs.length) := by
  by_cases h : 520 < zs.length
  · obtain ⟨b, o, ha, _⟩ := hr.cells (by omega)
    exact Or.inl ⟨h, by rw [List.length_take]; omega, b, o, ha⟩
  · exact Or.inr ⟨by omega, by rw [List.length_take]; omega⟩

theorem walk_rd (a : Option Addr) (cap : Nat) (zs : List Int) (b : Option Addr) (cap2 : Nat) (ys : List Int) (w : World) (hr : Ri w .i64 a cap zs) (hr2 : Ri w .i64 b cap2 ys) :
    Calls Try.prog 4 #[.slice a zs.length cap, .slice b ys.length cap2] w fun e w' => e = .returned (.bool true) ∧ Below w.heap.size w w' := by
  have r1 := hr.take 520
  have r2 := hr2.take 520
  have hm1 := hr.most
  have hm2 := hr2.most
  unfold maxLen at hm1 hm2
  refine walk_main a b cap cap2 zs.length ys.length (zs.take 520).length (ys.take 520).length (codesO (zs.take 520)).length (zs.take 520) (ys.take 520) w hr.room hr2.room (by omega) (by omega)
    (take520 hr) (take520 hr2)
    (codes_w a cap _ w r1) (fun W hW => codes_r a cap _ W (r1.later hW)) (fun W hW => check_word a cap _ W (r1.later hW)) (fun W hW => check_ref a cap _ W (r1.later hW))
    (fun W hW => cost_word a cap _ b cap2 _ W (r1.later hW) (r2.later hW)) (fun W hW => cost_ref a cap _ b cap2 _ W (r1.later hW) (r2.later hW)) rfl ?_
  unfold codesO; split
  · rw [codesL_length, List.length_take]; omega
  · simp

set_option maxRecDepth 100000 in
theorem lifted (os : Os) (started : os.Started) (H : Type) (enc : TypeId × Value → H) :
    ReturnsInHanded {} Try.checked os 4 .any (Rows.huffCodesSpec.pre6 enc Try.prog Try.f4 Rows.huffCodesRow.domain false) (Rows.huffCodesSpec.post enc Try.prog Try.f4 false true false false) := by
  refine returnsInHanded_of_change (C := Try.checked) own started (by kernel_rfl) Try.func4
    (ChangeSpec.witness6 (enc := enc) (C := Try.checked) false ⟨#[], #[.slice none 0 0, .slice none 0 0], []⟩ 8 (by kernel_rfl) (by kernel_rfl) (by kernel_rfl) (by kernel_rfl)) ?_
  intro W base args ds gs before hval0 hW _ _
  have hval : ∀ (j : Nat) t v, Try.f4.params[j]? = some t → args[j]? = some v → Value.okWide Try.prog W .any base t v := hval0
  have hW' := hW
  obtain ⟨p, q, hA0, hV, rfl, _, _⟩ := hW
  have hA : DataW.TrodAll enc Try.prog W 0 (fun _ => true) true Try.f4.params.toList args.toList ds p := hA0
  rw [Try.params4] at hA hval
  obtain ⟨v0, vs0, d0, ds0, p0, q0, hargs, rfl, rfl, h0, r0⟩ := trodAll_cons hA
  obtain ⟨v1, vs1, d1, ds1, p1, q1, rfl, rfl, rfl, h1, r1⟩ := trodAll_cons r0
  obtain ⟨rfl, rfl, rfl⟩ := trodAll_nil r1
  obtain rfl : args = #[v0, v1] := by cases args; simp_all
  obtain ⟨rfl, rfl⟩ := trodVars_none hV
  clear hA0
  simp only [List.append_nil] at hW'
  have hlt0 : ∀ x ∈ p0, x.block < W.heap.size := fun x hx => hW'.lt x (by simp [hx])
  have hk0 := h0
  obtain ⟨a0, cap0, zs0, rfl, hr0⟩ := open_ri Try.underlying22 Try.underlying3 Try.cells3 (hval 0 22 v0 rfl rfl) h0 hlt0
  have hlt1 : ∀ x ∈ p1, x.block < W.heap.size := fun x hx => hW'.lt x (by simp [hx])
  have hk1 := h1
  obtain ⟨a1, cap1, zs1, rfl, hr1⟩ := open_ri Try.underlying22 Try.underlying3 Try.cells3 (hval 1 22 v1 rfl rfl) h1 hlt1
  clear hval0
  refine (walk_rd a0 cap0 zs0 a1 cap1 zs1 W hr0 hr1).mono fun e W' ⟨he, hb⟩ => ?_
  subst he
  exact ⟨_, rfl, _, _, _, [] ++ [], _, [], hW', trodAll_cons_mk (shut_bool Try.underlying4 _) trodAll_mk0, (trodAll_cons_mk (Below.trod Try.laidOut (by kernel_rfl) (of_decide_eq_true (by kernel_rfl)) hk0 hb hlt0) (trodAll_cons_mk (Below.trod Try.laidOut (by kernel_rfl) (of_decide_eq_true (by kernel_rfl)) hk1 hb hlt1) trodAll_mk0)), rfl, hb.frame _, fun h => by cases h⟩

theorem over : Rows.huffCodesRow.holds Try.pinned (OpenSpec.ofChange Rows.huffCodesSpec) :=
  OpenClaim.holds_of_wide 4 Try.f4 rfl rfl rfl rfl rfl rfl rfl ⟨rfl, rfl, rfl, rfl, rfl⟩ rfl rfl rfl rfl rfl (by kernel_rfl) Try.func4 (by kernel_rfl)
    (of_decide_eq_true (by kernel_rfl)) (by unfold Func.isWrapper; first | (rw [if_pos (by decide +kernel)]; kernel_rfl) | (rw [if_neg (by decide +kernel)]; exact ⟨rfl, rfl⟩))
    (fun os started H enc _ => lifted os started H enc)

end Go.Proofs.Ytgecoiakhmnilaa.huffCodes
namespace Go.Proofs.Ytgecoiakhmnilaa
theorem huffCodes_holds : Rows.HuffCodesSaid := huffCodes.over
#print axioms huffCodes_holds
end Go.Proofs.Ytgecoiakhmnilaa
