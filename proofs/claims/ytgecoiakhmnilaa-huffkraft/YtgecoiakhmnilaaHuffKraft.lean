/-
  HuffKraft is proved for every input: the lengths of counts are a code's, for just the symbols that come; no condition.
-/
import Derived.Test.YtgecoiakhmnilaaLenAny
import Derived.Test.YtgecoiakhmnilaaAlive
namespace Go.Proofs.Ytgecoiakhmnilaa.huffKraft
open Go.ChangeShapes Go.WideShapes Go.ChangeAt Go.RowKit Hf

theorem own : ownKnob Try.prog.godebug = none := by kernel_rfl

theorem dep_both {cs : List Int} (hc : areC cs = true) (k p : Nat) (hp : p < cs.length) : ((depthsL (flats cs k)).getD p 0 = 0 ∧ cs.getD p 0 = 0) ∨ (((depthsL (flats cs k)).getD p 0 == 0) = false ∧ (cs.getD p 0 == 0) = false) := by
  have hcr := areC_rng hc
  have h1 := dep_cases (flats cs k) (flats_rng hcr.2 k) p (by rw [flats_length]; exact hp)
  have h2 := flats_zero hcr.2 k p
  rcases h1 with h1 | h1
  · exact Or.inl ⟨h1.2, h2.1 h1.1⟩
  · right
    have h3 : ¬ cs.getD p 0 = 0 := fun h => by have := h2.2 h; omega
    exact ⟨by rw [beq_eq_false_iff_ne]; omega, by rw [beq_eq_false_iff_ne]; exact h3⟩

set_option maxHeartbeats 3200000 in
set_option maxRecDepth 100000 in
theorem walk_rd (a : Option Addr) (cap : Nat) (zs : List Int) (w : World) (hr : Ri w .i64 a cap zs) :
    Calls Try.prog 8 #[.slice a zs.length cap] w fun e w' => e = .returned (.bool true) ∧ Below w.heap.size w w' := by
  have C1 := hid (few_any a cap zs w hr)
  have r1 := hr.take 60
  have hl1 : (zs.take 60).length ≤ 60 := List.length_take_le _ _
  generalize zs.take 60 = z1 at *
  have E1 := hid (lengths_any a cap z1 w r1 hl1)
  have HR0 := hid r1
  have HB0 : Hid (∀ k, areC z1 = true → ∀ p, p < z1.length → ((depthsL (flats z1 k)).getD p 0 = 0 ∧ z1.getD p 0 = 0) ∨ (((depthsL (flats z1 k)).getD p 0 == 0) = false ∧ (z1.getD p 0 == 0) = false)) := fun k hc p hp => dep_both hc k p hp
  have HDL : Hid (∀ k, (depthsL (flats z1 k)).length = z1.length) := fun k => by rw [dep_long, flats_length]
  have HCK : Hid (∀ k, areC z1 = true → (depthsL (flats z1 k)).any deepC = false → checkF (depthsL (flats z1 k)) = 0) := fun k hc hd => by
    unfold checkF
    rw [dep_code (flats z1 k) (by rw [flats_length]; omega) (flats_rng (areC_rng hc).2 k) hd]; rfl
  clear r1 hr
  obtain ⟨n1, hn1⟩ : ∃ n, n = z1.length := ⟨_, rfl⟩
  have HN1 := hid hn1
  rw [← hn1] at C1 E1 HB0 HDL hl1
  clear hn1
  generalize zs.length = m1 at *
  go_enter Try.func8, Try.ntmps8
  go_wp2_with fail
  go_at_call 9
  refine C1.out.mono ?_
  rintro _ w1 ⟨rfl, hw⟩
  obtain rfl := hw.symm
  clear hw
  go_wp2_with fail
  go_at_call 10
  refine E1.out.mono ?_
  rintro _ w1 (⟨_, rfl, hb1⟩ | ⟨hc, k, a2, c2, rfl, _, hd, hr2, hb1⟩)
  · have HB1 := hid hb1
    clear hb1 E1 C1
    go_wp2_with fail
    go_at_call 13
    refine (alive_any _).mono ?_
    rintro _ w3 ⟨rfl, hb3⟩
    have HB3 := hid (Bn HB1.out hb3)
    clear hb3
    go_wp2
    go_ret
    exact ⟨rfl, HB3.out⟩
  · have HZ := hid (HB0.out k hc)
    have HF := hid (HCK.out k hc hd)
    have HR2 := hid hr2
    have HB1 := hid hb1
    have HD2 := hid (HDL.out k)
    clear hb1 E1 C1 hc hd hr2 HB0 HCK HDL
    generalize depthsL (flats z1 k) = D at *
    have HE3 : Hid (Calls Try.prog 16 #[.slice a2 n1 c2] w1 fun e w' => e = .returned (.int .i64 0) ∧ Below w1.heap.size w1 w') := by
      have h := check_word a2 c2 D w1 HR2.out
      rw [HD2.out, HF.out] at h
      exact h
    have HE4 : Hid (∀ W, Below w1.heap.size w1 W → Calls Try.prog 17 #[.slice a2 n1 c2] W fun e w' => e = .returned (.int .i64 0) ∧ w' = W) := fun W hW => by
      have h := check_ref a2 c2 D W (HR2.out.later hW)
      rw [HD2.out, HF.out] at h
      exact h
    rw [← HN1.out]
    have e0 : ((n1 : Int) != (n1 : Int)) = false := by simp
    go_wp2_with fail
    go_at_call 16
    refine HE3.out.mono ?_
    rintro _ w3 ⟨rfl, hb3⟩
    have HR3 := hid (HR2.out.later hb3)
    have HB3 := hid (Bn HB1.out hb3)
    have HE5 := hid (HE4.out w3 hb3)
    clear hb3 HE3 HE4 HR2 HB1
    go_wp2_with fail
    go_at_call 17
    refine HE5.out.mono ?_
    rintro _ w4 ⟨rfl, hw⟩
    obtain rfl := hw.symm
    clear hw HE5
    go_wp2_with fail
    go_loopw [5] (fun y wr => ∃ k : Nat, k ≤ n1 ∧ y = .int .i64 k ∧ Below w3.heap.size w3 wr) (fun y _ => n1 - (intOf y).toNat)
    case atStart => exact ⟨0, by omega, rfl, Below.refl _ _⟩
    case round =>
      obtain ⟨p, hp, rfl, hbel⟩ := hrel
      by_cases hlt : p < n1
      · have hkl : (p : Int) < (n1 : Int) := by omega
        have HR4 := hid (HR0.out.later HB3.out)
        obtain ⟨g1, o1, rfl, hg1, hq1⟩ := HR3.out.cells (by rw [HD2.out]; omega)
        obtain ⟨g2, o2, rfl, hg2, hq2⟩ := HR4.out.cells (by rw [← HN1.out]; omega)
        have d1 : wr.cell? ⟨g1, o1 + p, none⟩ = some (.int .i64 (D.getD p 0)) := (hbel.cell (p := ⟨g1, o1 + p, none⟩) hg1).trans (hq1 p (by rw [HD2.out]; exact hlt))
        have d2 : wr.cell? ⟨g2, o2 + p, none⟩ = some (.int .i64 (z1.getD p 0)) := (hbel.cell (p := ⟨g2, o2 + p, none⟩) hg2).trans (hq2 p (by rw [← HN1.out]; exact hlt))
        have HZP := hid (HZ.out p hlt)
        have HBE := hid hbel.drew
        clear hq1 hq2 hbel HR4
        generalize D.getD p 0 = x at *
        generalize z1.getD p 0 = y at *
        rcases HZP.out with ⟨rfl, rfl⟩ | ⟨f1, f2⟩
        · clear HZP
          go_wp2_with fail
          go_region
          clear d1 d2
          generalize wr.drew = W at *
          go_wp2
          exact ⟨⟨p + 1, by omega, by go_num, HBE.out⟩, by simp [intOf]; omega⟩
        · clear HZP
          go_wp2_with fail
          go_region
          clear d1 d2
          generalize wr.drew = W at *
          go_wp2
          exact ⟨⟨p + 1, by omega, by go_num, HBE.out⟩, by simp [intOf]; omega⟩
      · have HB5 := hid (Bn HB3.out hbel)
        clear hbel
        go_wp2_with fail
        go_at_call 13
        refine (alive_any _).mono ?_
        rintro _ w8 ⟨rfl, hb8⟩
        have HB8 := hid (Bn HB5.out hb8)
        clear hb8
        go_wp2
        go_ret
        exact ⟨rfl, HB8.out⟩

set_option maxRecDepth 100000 in
theorem lifted (os : Os) (started : os.Started) (H : Type) (enc : TypeId × Value → H) :
    ReturnsInHanded {} Try.checked os 8 .any (Rows.huffKraftSpec.pre6 enc Try.prog Try.f8 Rows.huffKraftRow.domain false) (Rows.huffKraftSpec.post enc Try.prog Try.f8 false true false false) := by
  refine returnsInHanded_of_change (C := Try.checked) own started (by kernel_rfl) Try.func8
    (ChangeSpec.witness6 (enc := enc) (C := Try.checked) false ⟨#[], #[.slice none 0 0], []⟩ 8 (by kernel_rfl) (by kernel_rfl) (by kernel_rfl) (by kernel_rfl)) ?_
  intro W base args ds gs before hval0 hW _ _
  have hval : ∀ (j : Nat) t v, Try.f8.params[j]? = some t → args[j]? = some v → Value.okWide Try.prog W .any base t v := hval0
  have hW' := hW
  obtain ⟨p, q, hA0, hV, rfl, _, _⟩ := hW
  have hA : DataW.TrodAll enc Try.prog W 0 (fun _ => true) true Try.f8.params.toList args.toList ds p := hA0
  rw [Try.params8] at hA hval
  obtain ⟨v0, vs0, d0, ds0, p0, q0, hargs, rfl, rfl, h0, r0⟩ := trodAll_cons hA
  obtain ⟨rfl, rfl, rfl⟩ := trodAll_nil r0
  obtain rfl : args = #[v0] := by cases args; simp_all
  obtain ⟨rfl, rfl⟩ := trodVars_none hV
  clear hA0
  simp only [List.append_nil] at hW'
  have hlt0 : ∀ x ∈ p0, x.block < W.heap.size := fun x hx => hW'.lt x (by simp [hx])
  have hk0 := h0
  obtain ⟨a0, cap0, zs0, rfl, hr0⟩ := open_ri Try.underlying22 Try.underlying3 Try.cells3 (hval 0 22 v0 rfl rfl) h0 hlt0
  clear hval0
  refine (walk_rd a0 cap0 zs0 W hr0).mono fun e W' ⟨he, hb⟩ => ?_
  subst he
  exact ⟨_, rfl, _, _, _, [] ++ [], _, [], hW', trodAll_cons_mk (shut_bool Try.underlying4 _) trodAll_mk0, (trodAll_cons_mk (Below.trod Try.laidOut (by kernel_rfl) (of_decide_eq_true (by kernel_rfl)) hk0 hb hlt0) trodAll_mk0), rfl, hb.frame _, fun h => by cases h⟩

theorem over : Rows.huffKraftRow.holds Try.pinned (OpenSpec.ofChange Rows.huffKraftSpec) :=
  OpenClaim.holds_of_wide 8 Try.f8 rfl rfl rfl rfl rfl rfl rfl ⟨rfl, rfl, rfl, rfl, rfl⟩ rfl rfl rfl rfl rfl (by kernel_rfl) Try.func8 (by kernel_rfl)
    (of_decide_eq_true (by kernel_rfl)) (by unfold Func.isWrapper; first | (rw [if_pos (by decide +kernel)]; kernel_rfl) | (rw [if_neg (by decide +kernel)]; exact ⟨rfl, rfl⟩))
    (fun os started H enc _ => lifted os started H enc)

end Go.Proofs.Ytgecoiakhmnilaa.huffKraft
namespace Go.Proofs.Ytgecoiakhmnilaa
theorem huffKraft_holds : Rows.HuffKraftSaid := huffKraft.over
#print axioms huffKraft_holds
end Go.Proofs.Ytgecoiakhmnilaa
