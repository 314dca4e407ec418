/-
  DiskRuns is proved for every input: the device does what the document's does, act for act; no condition.
-/
import Derived.Test.YtldgiimkkgmgaaaPart14
import Derived.Test.YtldgiimkkgmgaaaPart07
import Derived.Test.YtldgiimkkgmgaaaPart01
namespace Go.Proofs.Ytldgiimkkgmgaaa.diskRuns
open Go.ChangeShapes Go.WideShapes Go.ChangeAt Go.RowKit

theorem own : ownKnob Try.prog.godebug = none := by kernel_rfl

theorem size36 : (Try.prog.info? 36).map (·.size) = some 7 := by kernel_rfl
theorem Rv_mono {W : World} {base b2 gr n : Nat} {vL vW : Value} {L : Int → List Int} {O : List (Int × List Int)} {f : Int} (h : Rv W b2 gr vL vW n L O f) (hb : base ≤ b2) : Rv W base gr vL vW n L O f := by
  obtain ⟨xs, h1, h2⟩ := h.rowL
  obtain ⟨ys, h3, h4⟩ := h.rowW
  exact ⟨h.blk, ⟨xs, own_mono h1 hb, h2⟩, ⟨ys, own_mono h3 hb, h4⟩, h.okO, h.okF, h.okN, Nat.le_trans hb h.bg⟩
theorem stO_len (x : OpZ) (n f : Int) (O : List (Int × List Int)) : (stO x n f O).length ≤ O.length + 1 := by
  unfold stO
  split
  · unfold wrO; split
    · simp
    · omega
  · split
    · unfold syO; split
      · omega
      · simp
    · split
      · simp
      · split
        · split
          · unfold rotO; simp
          · omega
        · omega
structure RuI (w wr : World) (gd gv gl gn gr q n : Nat) (v vL vW : Value) (L : Int → List Int) (O : List (Int × List Int)) (f : Int) : Prop where
  dv : Dv wr w.heap.size gd gv gl gn v (q * 100) (n : Int) L O f
  rv : Rv wr w.heap.size gr vL vW n L O f
  len : O.length ≤ q
  bel : Below w.heap.size w wr
set_option maxHeartbeats 6400000 in
set_option maxRecDepth 100000 in
theorem walk (n : Int) (_ : (Lit.int .i64 n).wf = true) (a : Option Addr) (cap : Nat) (ls : List OpZ) (w : World) (hr : Ro w a cap ls) :
    Calls Try.prog 3 #[.int .i64 n, .slice a ls.length cap] w fun e w' => e = .returned (.bool true) ∧ Below w.heap.size w w' := by
  have hm : ls.length ≤ 9223372036854775807 := by have h1 := hr.room; have h2 := hr.most; unfold maxLen at h2; omega
  have HR := hid hr
  obtain ⟨m, hm2⟩ : ∃ m, m = ls.length := ⟨_, rfl⟩
  have HM := hid hm2
  rw [← hm2] at hm ⊢
  clear hr hm2
  by_cases hn : 4 ≤ n ∧ n ≤ 4096
  case neg =>
    have HNW := hid (new_no n w hn)
    have HRW := hid (rnew_no n w hn)
    clear hn
    go_enter Try.func3, Try.ntmps3
    go_wp2_with fail
    refine HNW.out.mono ?_
    rintro _ w1 ⟨rfl, hw⟩
    obtain rfl := hw.symm
    clear hw HNW
    go_wp2_with fail
    refine HRW.out.mono ?_
    rintro _ w1 ⟨rfl, hw⟩
    obtain rfl := hw.symm
    clear hw HRW
    go_wp2_with fail
    refine (alive_any w).mono ?_
    rintro _ w2 ⟨rfl, hb2⟩
    have HB2 := hid hb2
    clear hb2
    go_wp2_with fail
    go_ret
    exact ⟨rfl, HB2.out⟩
  have HNW := hid (new_ok n w hn)
  unfold NewPost at HNW
  obtain ⟨nn, rfl⟩ : ∃ z : Nat, n = (z : Int) := ⟨n.toNat, by omega⟩
  have hnn : 4 ≤ nn ∧ nn ≤ 4096 := by omega
  have HNN := hid hnn
  clear hn hnn
  go_enter Try.func3, Try.ntmps3
  go_wp2_with fail
  refine HNW.out.mono ?_
  rintro _ w1 ⟨gd, gv, gl, gn, rfl, hd, hb⟩
  have HD := hid hd
  have HB := hid hb
  have HRW := hid (rnew_ref nn w1 HNN.out)
  unfold RnPost at HRW
  clear hd hb HNW
  go_wp2_with fail
  refine HRW.out.mono ?_
  rintro _ w2 ⟨gr, vL, rfl, hr2, hb2⟩
  have HI0 : Hid (RuI w w2 gd gv gl gn gr 0 nn (.slice none 0 0) vL nilV (fun _ => z512) [] (-1)) := ⟨HD.out.below hb2, Rv_mono hr2 HB.out.size, Nat.le_refl _, Bn HB.out hb2⟩
  clear hr2 hb2 HRW HD HB
  go_wp2_with fail
  go_loopw [5, 7, 9] (fun d r k wr => ∃ (q gd gv gl gn gr : Nat) (v vL vW : Value) (L : Int → List Int) (O : List (Int × List Int)) (f : Int), d = .pointer (some ⟨gd, 0, none⟩) ∧ r = .pointer (some ⟨gr, 0, none⟩) ∧ k = .int .i64 (q : Int) ∧ q ≤ m ∧ q ≤ 60 ∧ Hid (RuI w wr gd gv gl gn gr q nn v vL vW L O f)) (fun _ _ k _ => 60 - (intOf k).toNat)
  case atStart => exact ⟨0, gd, gv, gl, gn, gr, _, _, _, _, _, _, rfl, rfl, rfl, Nat.zero_le _, Nat.zero_le _, HI0⟩
  case round =>
    clear HI0
    obtain ⟨q, gd, gv, gl, gn, gr, v, vL, vW, L, O, f, rfl, rfl, rfl, hq, hq2, HI⟩ := hrel
    by_cases hl1 : q < m
    · by_cases hl2 : q < 60
      · have hy1 : (q : Int) < (m : Int) := by omega
        have hy2 : (q : Int) < 60 := by omega
        have hy3 : (0 : Int) ≤ (q : Int) := by omega
        obtain ⟨bL, oL, rfl, hbL, hcL⟩ := HR.out.cells (by rw [← HM.out]; omega)
        obtain ⟨ab, cb, ak, ck, hrg, hop⟩ := hcL q (by rw [← HM.out]; exact hl1)
        have y0 := (HI.out.bel.cell (p := ⟨bL, oL + q * 7, none⟩) hbL).trans (hrg 0 _ rfl)
        have y1 := (HI.out.bel.cell (p := ⟨bL, oL + q * 7 + 1, none⟩) hbL).trans (hrg 1 _ rfl)
        have y2 := (HI.out.bel.cell (p := ⟨bL, oL + q * 7 + 2, none⟩) hbL).trans (hrg 2 _ rfl)
        have y3 := (HI.out.bel.cell (p := ⟨bL, oL + q * 7 + 3, none⟩) hbL).trans (hrg 3 _ rfl)
        have y4 := (HI.out.bel.cell (p := ⟨bL, oL + q * 7 + 4, none⟩) hbL).trans (hrg 4 _ rfl)
        have y5 := (HI.out.bel.cell (p := ⟨bL, oL + q * 7 + 5, none⟩) hbL).trans (hrg 5 _ rfl)
        have y6 := (HI.out.bel.cell (p := ⟨bL, oL + q * 7 + 6, none⟩) hbL).trans (hrg 6 _ rfl)
        have hlen := HI.out.len
        have HAC := hid (act_ok w wr w.heap.size gd gv gl gn (q * 100) v nn L O f gr vL vW L O (ls.getD q default) ab cb ak ck rfl HI.out.bel hop HI.out.dv HI.out.rv (by omega) (by omega) (by omega))
        unfold AcPost at HAC
        unfold opV at HAC
        have HLE := hid (stO_len (ls.getD q default) (nn : Int) f O)
        have HLO := hid hlen
        clear hcL hrg hop hlen
        generalize ls.getD q default = x at *
        go_wp2_with fail
        refine HAC.out.mono ?_
        rintro _ w3 ⟨gd3, gv3, gl3, gn3, v3, gr3, vL3, vW3, b3, rfl, hd3, hr3, hbt, hf3⟩
        have hb3e : b3 = true := by simpa using hbt
        subst hb3e
        have HB3 := hid (HI.out.bel.trans hf3.bel)
        have HD3 := hid hd3
        have HR3 := hid hr3
        have HAL := hid (alike_ok w.heap.size gd3 gv3 gl3 gn3 _ v3 nn _ _ _ gr3 vL3 vW3 w3 hd3 hr3 (by have := HLE.out; have := HLO.out; omega))
        clear hd3 hr3 hbt hf3 HAC HI y0 y1 y2 y3 y4 y5 y6
        go_wp2_with fail
        refine HAL.out.mono ?_
        rintro _ w4 ⟨rfl, hb4⟩
        have HN4 : Hid (RuI w w4 gd3 gv3 gl3 gn3 gr3 (q + 1) nn v3 vL3 vW3 (stL x nn f L O) (stO x nn f O) (stF x nn f)) := ⟨(HD3.out.below hb4).mono (by have := HLO.out; omega), HR3.out.below hb4, by have := HLE.out; have := HLO.out; omega, Bn HB3.out hb4⟩
        clear hb4 HAL HD3 HR3 HB3
        go_wp2_with fail
        exact ⟨⟨q + 1, gd3, gv3, gl3, gn3, gr3, _, _, _, _, _, _, rfl, rfl, by go_num, hl1, hl2, HN4⟩, by simp only [intOf]; omega⟩
      · have hy1 : (q : Int) < (m : Int) := by omega
        have hy2 : ¬ (q : Int) < 60 := by omega
        have HBW := hid HI.out.bel
        clear HI
        go_wp2_with fail
        refine (alive_any wr).mono ?_
        rintro _ w9 ⟨rfl, hb9⟩
        have HBZ := hid (Bn HBW.out hb9)
        clear hb9
        go_wp2_with fail
        go_ret
        exact ⟨rfl, HBZ.out⟩
    · have hy1 : ¬ (q : Int) < (m : Int) := by omega
      have HBW := hid HI.out.bel
      clear HI
      go_wp2_with fail
      refine (alive_any wr).mono ?_
      rintro _ w9 ⟨rfl, hb9⟩
      have HBZ := hid (Bn HBW.out hb9)
      clear hb9
      go_wp2_with fail
      go_ret
      exact ⟨rfl, HBZ.out⟩

set_option maxRecDepth 100000 in
theorem lifted (os : Os) (started : os.Started) (H : Type) (enc : TypeId × Value → H) :
    ReturnsInHanded {} Try.checked os 3 .any (Rows.diskRunsSpec.pre6 enc Try.prog Try.f3 Rows.diskRunsRow.domain false) (Rows.diskRunsSpec.post enc Try.prog Try.f3 false true false false) := by
  refine returnsInHanded_of_change (C := Try.checked) own started (by kernel_rfl) Try.func3
    (ChangeSpec.witness6 (enc := enc) (C := Try.checked) false ⟨#[], #[.int .i64 0, .slice none 0 0], []⟩ 8 (by kernel_rfl) (by kernel_rfl) (by kernel_rfl) (by kernel_rfl)) ?_
  intro W base args ds gs before hval0 hW _ _
  have hval : ∀ (j : Nat) t v, Try.f3.params[j]? = some t → args[j]? = some v → Value.okWide Try.prog W .any base t v := hval0
  have hW' := hW
  obtain ⟨p, q, hA0, hV, rfl, _, _⟩ := hW
  have hA : DataW.TrodAll enc Try.prog W 0 (fun _ => true) true Try.f3.params.toList args.toList ds p := hA0
  rw [Try.params3] at hA hval
  obtain ⟨v0, vs0, d0, ds0, p0, q0, hargs, rfl, rfl, h0, r0⟩ := trodAll_cons hA
  obtain ⟨v1, vs1, d1, ds1, p1, q1, rfl, rfl, rfl, h1, r1⟩ := trodAll_cons r0
  obtain ⟨rfl, rfl, rfl⟩ := trodAll_nil r1
  obtain rfl : args = #[v0, v1] := by cases args; simp_all
  obtain ⟨rfl, rfl⟩ := trodVars_none hV
  obtain ⟨a0, rfl, rfl, rfl, w0⟩ := open_int Try.underlying3 (hval 0 3 v0 rfl rfl) h0
  clear hA0
  simp only [List.append_nil, List.nil_append] at hW'
  have hlt1 : ∀ x ∈ p1, x.block < W.heap.size := fun x hx => hW'.lt x (by simp [hx])
  have hk1 := h1
  obtain ⟨a1, cap1, zs1, rfl, hr1⟩ := open_ro (hval 1 22 v1 rfl rfl) h1 hlt1
  clear hval0
  refine (walk a0 w0 a1 cap1 zs1 W hr1).mono fun e W' ⟨he, hb⟩ => ?_
  subst he
  exact ⟨_, rfl, _, _, _, [] ++ [], _, [], hW', trodAll_cons_mk (shut_bool Try.underlying4 _) trodAll_mk0, (trodAll_cons_mk (shut_int Try.underlying3 w0) (trodAll_cons_mk (Below.trod Try.laidOut (by kernel_rfl) (of_decide_eq_true (by kernel_rfl)) hk1 hb hlt1) trodAll_mk0)), rfl, hb.frame _, fun h => by cases h⟩

theorem over : Rows.diskRunsRow.holds Try.pinned (OpenSpec.ofChange Rows.diskRunsSpec) :=
  OpenClaim.holds_of_wide 3 Try.f3 rfl rfl rfl rfl rfl rfl rfl ⟨rfl, rfl, rfl, rfl, rfl⟩ rfl rfl rfl rfl rfl (by kernel_rfl) Try.func3 (by kernel_rfl)
    (of_decide_eq_true (by kernel_rfl)) (by unfold Func.isWrapper; first | (rw [if_pos (by decide +kernel)]; kernel_rfl) | (rw [if_neg (by decide +kernel)]; exact ⟨rfl, rfl⟩))
    (fun os started H enc _ => lifted os started H enc)

end Go.Proofs.Ytldgiimkkgmgaaa.diskRuns
namespace Go.Proofs.Ytldgiimkkgmgaaa
theorem diskRuns_holds : Rows.DiskRunsSaid := diskRuns.over
#print axioms diskRuns_holds
end Go.Proofs.Ytldgiimkkgmgaaa
