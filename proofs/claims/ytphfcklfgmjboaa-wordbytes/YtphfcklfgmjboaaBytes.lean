/-
  WordBytes is proved for every input: Bytes, Word and Words of package word answer as the document's do, whatever the number, the bytes, the width and the order; no condition.
-/
import Derived.Test.YtphfcklfgmjboaaBoth
namespace Go.Proofs.Ytphfcklfgmjboaa.wordBytes
open Go.ChangeShapes Go.WideShapes Go.ChangeAt Go.RowKit

theorem own : ownKnob Try.prog.godebug = none := by kernel_rfl

set_option maxHeartbeats 1600000 in
theorem walk (x : Int) (wx : (Lit.int .u64 x).wf = true) (a : Option Addr) (cap : Nat) (zs : List Int) (b o : Int) (w : World) (hr : Rd w (.slice a zs.length cap) a cap zs) :
    Calls Try.prog 4 #[.int .u64 x, .slice a zs.length cap, .int .i64 b, .int .i64 o] w fun e w' => e = .returned (.bool true) ∧ Below w.heap.size w w' := by
  obtain ⟨h0, h1⟩ := wf_u64 wx
  have HC := hid (cut_any a cap zs w hr)
  have hrt := hr.take 400
  have hlt : (zs.take 400).length ≤ 400 := List.length_take_le _ _
  obtain ⟨lb, fb, hb1, hb2⟩ := bytes_both x b o h0 h1
  obtain ⟨p, fp, hp1, hp2⟩ := word_both a cap (zs.take 400) b o w hrt
  obtain ⟨lw, fw, hw1, hw2⟩ := words_both a cap (zs.take 400) b o w hrt hlt
  have HB1 := hid hb1
  have HB2 := hid hb2
  have HP1 := hid hp1
  have HP2 := hid hp2
  have HW1 := hid hw1
  have HW2 := hid hw2
  clear hb1 hb2 hp1 hp2 hw1 hw2 hr hrt hlt h0 h1 wx
  generalize (zs.take 400).length = n at *
  generalize zs.length = n0 at *
  have e1 : (fb == fb) = true := by simp
  have e2 : (p == p) = true := by simp
  have e3 : (fp == fp) = true := by simp
  have e4 : (fw == fw) = true := by simp
  go_enter Try.func4, Try.ntmps4
  go_wp2_with fail
  refine (HC.out).mono ?_
  rintro e w' ⟨rfl, hw⟩
  obtain rfl := hw.symm
  clear hw HC
  go_wp2_with fail
  refine (HB1.out _).mono ?_
  rintro e w1 ⟨va, rfl, hra, hba⟩
  have HRA := hid hra
  have b1 := hid hba
  clear hra hba
  go_wp2_with fail
  refine (HB2.out _).mono ?_
  rintro e w2 ⟨vb, rfl, hrb, hbb⟩
  have HRB := hid hrb
  have b12 := hid hbb
  have b2 := hid (Bn b1.out hbb)
  clear hrb hbb
  go_wp2_with fail
  refine (HP1.out _ b2.out).mono ?_
  rintro e w3 ⟨rfl, m, rfl⟩
  have b3 := hid (bel_drewN b2.out m)
  go_wp2_with fail
  refine (HP2.out _ b3.out).mono ?_
  rintro e w3 ⟨rfl, hw⟩
  obtain rfl := hw
  go_wp2_with fail
  refine (HW1.out _ b3.out).mono ?_
  rintro e w4 ⟨vc, rfl, hrc, hbc⟩
  have HRC := hid hrc
  have b23 := hid ((bel_drewN (Below.refl w2.heap.size w2) m).trans hbc)
  have b4 := hid (Bn b2.out b23.out)
  clear hrc hbc
  go_wp2_with fail
  refine (HW2.out _ b4.out).mono ?_
  rintro e w5 ⟨vd, rfl, hrd, hbd⟩
  have HRD := hid hrd
  have b45 := hid hbd
  have b5 := hid (Bn b4.out hbd)
  clear hrd hbd
  have t1 := HRA.out.text w5 (Bn b12.out (Bn b23.out b45.out))
  have t2 := HRB.out.text w5 (Bn b23.out b45.out)
  have HS := hid (fun w (h : Below w5.heap.size w5 w) => same_any HRC.out.2 HRC.out.1.choose_spec HRD.out.1.choose_spec (Bn b45.out h) h)
  go_wp2_with (first
    | (go_at_call 19; refine (HS.out _ (Below.refl _ _)).mono ?_; rintro e w6 ⟨rfl, q, rfl⟩)
    | (go_at_call 11; refine (alive_any _).mono ?_; rintro e w7 ⟨rfl, hb7⟩))
  go_ret
  exact ⟨rfl, Bn (bel_drewN b5.out _) (by assumption)⟩

set_option maxRecDepth 100000 in
theorem lifted (os : Os) (started : os.Started) (H : Type) (enc : TypeId × Value → H) :
    ReturnsInHanded {} Try.checked os 4 .any (Rows.wordBytesSpec.pre6 enc Try.prog Try.f4 Rows.wordBytesRow.domain false) (Rows.wordBytesSpec.post enc Try.prog Try.f4 false true false false) := by
  refine returnsInHanded_of_change (C := Try.checked) own started (by kernel_rfl) Try.func4
    (ChangeSpec.witness6 (enc := enc) (C := Try.checked) false ⟨#[], #[.int .u64 0, .slice none 0 0, .int .i64 0, .int .i64 0], []⟩ 8 (by kernel_rfl) (by kernel_rfl) (by kernel_rfl) (by kernel_rfl)) ?_
  intro W base args ds gs before hval0 hW _ _
  have hval : ∀ (j : Nat) t v, Try.f4.params[j]? = some t → args[j]? = some v → Value.okWide Try.prog W .any base t v := hval0
  have hW' := hW
  obtain ⟨p, q, hA0, hV, rfl, _, _⟩ := hW
  have hA : DataW.TrodAll enc Try.prog W 0 (fun _ => true) true Try.f4.params.toList args.toList ds p := hA0
  rw [Try.params4] at hA hval
  obtain ⟨v0, vs0, d0, ds0, p0, q0, hargs, rfl, rfl, h0, r0⟩ := trodAll_cons hA
  obtain ⟨v1, vs1, d1, ds1, p1, q1, rfl, rfl, rfl, h1, r1⟩ := trodAll_cons r0
  obtain ⟨v2, vs2, d2, ds2, p2, q2, rfl, rfl, rfl, h2, r2⟩ := trodAll_cons r1
  obtain ⟨v3, vs3, d3, ds3, p3, q3, rfl, rfl, rfl, h3, r3⟩ := trodAll_cons r2
  obtain ⟨rfl, rfl, rfl⟩ := trodAll_nil r3
  obtain rfl : args = #[v0, v1, v2, v3] := by cases args; simp_all
  obtain ⟨rfl, rfl⟩ := trodVars_none hV
  obtain ⟨a0, rfl, rfl, rfl, w0⟩ := open_int Try.underlying22 (hval 0 22 v0 rfl rfl) h0
  obtain ⟨a2, rfl, rfl, rfl, w2⟩ := open_int Try.underlying3 (hval 2 3 v2 rfl rfl) h2
  obtain ⟨a3, rfl, rfl, rfl, w3⟩ := open_int Try.underlying31 (hval 3 31 v3 rfl rfl) h3
  clear hA0
  simp only [List.append_nil, List.nil_append] at hW'
  have hlt1 : ∀ x ∈ p1, x.block < W.heap.size := fun x hx => hW'.lt x (by simp [hx])
  have hk1 := h1
  obtain ⟨a1, cap1, zs1, rfl, hr1⟩ := open_rd (hval 1 30 v1 rfl rfl) h1 hlt1
  clear hval0
  refine (walk a0 w0 a1 cap1 zs1 a2 a3 W hr1).mono fun e W' ⟨he, hb⟩ => ?_
  subst he
  exact ⟨_, rfl, _, _, _, [] ++ [], _, [], hW', trodAll_cons_mk (shut_bool Try.underlying4 _) trodAll_mk0, (trodAll_cons_mk (shut_int Try.underlying22 w0) (trodAll_cons_mk (Below.trod Try.laidOut (by kernel_rfl) (of_decide_eq_true (by kernel_rfl)) hk1 hb hlt1) (trodAll_cons_mk (shut_int Try.underlying3 w2) (trodAll_cons_mk (shut_int Try.underlying31 w3) trodAll_mk0)))), rfl, hb.frame _, fun h => by cases h⟩

theorem over : Rows.wordBytesRow.holds Try.pinned (OpenSpec.ofChange Rows.wordBytesSpec) :=
  OpenClaim.holds_of_wide 4 Try.f4 rfl rfl rfl rfl rfl rfl rfl ⟨rfl, rfl, rfl, rfl, rfl⟩ rfl rfl rfl rfl rfl (by kernel_rfl) Try.func4 (by kernel_rfl)
    (of_decide_eq_true (by kernel_rfl)) (by unfold Func.isWrapper; first | (rw [if_pos (by decide +kernel)]; kernel_rfl) | (rw [if_neg (by decide +kernel)]; exact ⟨rfl, rfl⟩))
    (fun os started H enc _ => lifted os started H enc)

end Go.Proofs.Ytphfcklfgmjboaa.wordBytes
namespace Go.Proofs.Ytphfcklfgmjboaa
theorem wordBytes_holds : Rows.WordBytesSaid := wordBytes.over
#print axioms wordBytes_holds
end Go.Proofs.Ytphfcklfgmjboaa
