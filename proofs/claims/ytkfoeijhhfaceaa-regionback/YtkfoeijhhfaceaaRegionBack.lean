/-
  RegionBack is proved for every input: what is taken and given back, and what is given and claimed, is the row that was; no condition.
-/
import Derived.Test.YtkfoeijhhfaceaaPart14
namespace Go.Proofs.Ytkfoeijhhfaceaa.regionBack
open Go.ChangeShapes Go.WideShapes Go.ChangeAt Go.RowKit

theorem own : ownKnob Try.prog.godebug = none := by kernel_rfl

theorem take_dec (b : Int) (l : List Ext) (n : Int) : (takeO b l n).2.2 = 0 ∨ (takeO b l n).2.2 ≠ 0 := Classical.em _
set_option maxHeartbeats 6400000 in
set_option maxRecDepth 100000 in
theorem walk (b : Int) (_ : (Lit.int .i64 b).wf = true) (a : Option Addr) (cap : Nat) (l0 : List Ext) (n : Int) (_ : (Lit.int .i64 n).wf = true) (e0 e1 : Int) (hf0 : (Lit.int .i64 e0).wf = true) (_ : (Lit.int .i64 e1).wf = true) (w : World) (hr : Rx w a cap l0) :
    Calls Try.prog 6 #[.int .i64 b, .slice a l0.length cap, .int .i64 n, .agg #[.int .i64 e0, .int .i64 e1]] w fun e w' => e = .returned (.bool true) ∧ Below w.heap.size w w' := by
  have hB0 := bel_alloc w (.cells #[.int .i64 e0, .int .i64 e1] 24)
  have HXE : Hid (Xb (w.alloc (.cells #[.int .i64 e0, .int .i64 e1] 24)) w.heap.size (e0, e1)) := heap_new w _
  have HC1 : Hid (∀ W, Below w.heap.size w W → Calls Try.prog 9 #[.slice a l0.length cap] W fun e w' => e = .returned (.slice a (l0.take 5000).length cap) ∧ w' = W) := fun W hW => few_any a cap l0 W (hr.later hW)
  have hr1 := hr.take 5000
  have HB0 := hid hB0
  generalize l0.take 5000 = l at *
  have HR := hid hr1
  generalize l0.length = L0 at *
  have HT : Hid (∀ W, Below w.heap.size w W → Calls Try.prog 22 #[.int .i64 b, .slice a l.length cap, .int .i64 n] W (TakePost (takeO b l n) W)) := fun W hW => take_word b a cap l n W (HR.out.later hW)
  have HG : Hid (∀ W, Below w.heap.size w W → Calls Try.prog 26 #[.int .i64 b, .slice a l.length cap, .agg #[.int .i64 e0, .int .i64 e1]] W (RwPost (giveO b l (e0, e1)) W)) := fun W hW => give_word b a cap l e0 e1 W (HR.out.later hW) hf0
  have HFT := hid (take_fit b l n)
  have HFG := hid (give_fit b l (e0, e1))
  have HFL := hid HR.out.fit
  have HTB : Hid ((takeO b l n).2.2 = 0 → ∀ W a1 c1, Rx W a1 c1 (takeO b l n).2.1 → Calls Try.prog 26 #[.int .i64 b, .slice a1 (takeO b l n).2.1.length c1, .agg #[.int .i64 (takeO b l n).1.1, .int .i64 (takeO b l n).1.2]] W (RwPost (l, 0) W)) := fun h W a1 c1 h1 => by
    obtain ⟨x, hx, hnx, hn1, hrow, ht, _⟩ := take_ok h
    have hxp := hrow.nrm.pos x hx
    have hxu := hrow.upto x hx
    have hxh := hrow.hi
    have := give_word b a1 c1 (takeO b l n).2.1 (takeO b l n).1.1 (takeO b l n).1.2 W h1 (by rw [ht]; exact wf_mk_i64 (by dsimp only; omega) (by dsimp only; omega))
    rwa [show ((takeO b l n).1.1, (takeO b l n).1.2) = (takeO b l n).1 from rfl, take_back h] at this
  have HGC : Hid ((giveO b l (e0, e1)).2 = 0 → ∀ W a1 c1, Rx W a1 c1 (giveO b l (e0, e1)).1 → Calls Try.prog 24 #[.int .i64 b, .slice a1 (giveO b l (e0, e1)).1.length c1, .agg #[.int .i64 e0, .int .i64 e1]] W (RwPost (l, 0) W)) := fun h W a1 c1 h1 => by
    have := claim_word b a1 c1 (giveO b l (e0, e1)).1 e0 e1 W h1 hf0
    rwa [give_claim h] at this
  have HGN : Hid ((giveO b l (e0, e1)).2 ≠ 0 → (giveO b l (e0, e1)).1.length = 0) := fun h => by rw [give_no h]; rfl
  have HSA : Hid (∀ W a1 c1, Below w.heap.size w W → Rx W a1 c1 l → Calls Try.prog 16 #[.slice a1 l.length c1, .slice a l.length cap] W fun e w' => e = .returned (.bool true) ∧ Below W.heap.size W w') := fun W a1 c1 hW h1 => same_eq a1 c1 l a cap W h1 (HR.out.later hW)
  unfold TakePost at HT
  unfold RwPost at HG HTB HGC
  clear hr hr1 HR hB0 hf0
  generalize takeO b l n = o at *
  obtain ⟨⟨g1, g2⟩, ol, oe⟩ := o
  generalize giveO b l (e0, e1) = o2 at *
  obtain ⟨l2, r2⟩ := o2
  dsimp only [extV] at *
  by_cases hoe : oe = 0
  · have HTB2 := hid (HTB.out hoe)
    subst hoe
    by_cases hr2 : r2 = 0
    · have HGC2 := hid (HGC.out hr2)
      subst hr2
      clear HGC HTB HGN
      go_enter Try.func6, Try.ntmps6
      go_wp2_with fail
      refine (awake_any _).mono ?_
      rintro _ wA ⟨rfl, hbA⟩
      have HBA := hid (Bn HB0.out hbA)
      have HXA := hid (HXE.out.later hbA)
      have HC2 := hid (HC1.out wA HBA.out)
      have HT2 := hid (HT.out wA HBA.out)
      clear hbA HB0 HXE HC1 HT
      go_wp2_with fail
      refine HC2.out.mono ?_
      rintro _ w0 ⟨rfl, hw⟩
      obtain rfl := hw.symm
      clear hw HC2
      go_wp2_with fail
      refine HT2.out.mono ?_
      rintro _ w1 ⟨va, rfl, hown1, hb1⟩
      have hA := bel_alloc w1 (.cells #[.int .i64 g1, .int .i64 g2] 24)
      have HB1 := hid (Bn (Bn HBA.out hb1) hA)
      have hX1 : Xb (w1.alloc (.cells #[.int .i64 g1, .int .i64 g2] 24)) w1.heap.size (g1, g2) := heap_new w1 _
      have HXB := hid (HXA.out.later (Bn hb1 hA))
      obtain ⟨a1, c1, rfl, hx1⟩ := Rx.own (own_later hown1 hA) HFT.out
      have HTB3 := hid (HTB2.out _ a1 c1 hx1)
      obtain ⟨p0, p1⟩ := hX1.cells
      dsimp only at p0 p1
      clear hown1 hb1 hA hX1 hx1 HT2 HXA HBA HTB2
      go_wp2_with fail
      refine HTB3.out.mono ?_
      rintro _ w2 ⟨vb, rfl, hown2, hb2⟩
      have HB2 := hid (Bn HB1.out hb2)
      have HX2 := hid (HXB.out.later hb2)
      obtain ⟨a2, c2, rfl, hx2⟩ := Rx.own hown2 HFL.out
      have HS2 := hid (HSA.out w2 a2 c2 HB2.out hx2)
      clear hown2 hb2 hx2 HTB3 HB1 HXB p0 p1
      go_wp2_with fail
      refine HS2.out.mono ?_
      rintro _ w3 ⟨rfl, hb3⟩
      have HB3 := hid (Bn HB2.out hb3)
      have HX3 := hid (HX2.out.later hb3)
      clear hb3 HS2 HB2 HX2
      obtain ⟨p0, p1⟩ := HX3.out.cells
      have HG3 := hid (HG.out _ HB3.out)
      dsimp only at p0 p1
      clear HG
      go_wp2_with fail
      refine HG3.out.mono ?_
      rintro _ w4 ⟨vc, rfl, hown4, hb4⟩
      have HB4 := hid (Bn HB3.out hb4)
      have HX4 := hid (HX3.out.later hb4)
      obtain ⟨a4, c4, rfl, hx4⟩ := Rx.own hown4 HFG.out
      clear hown4 hb4 HG3 HB3 HX3 p0 p1
      have HGC3 := hid (HGC2.out w4 a4 c4 hx4)
      obtain ⟨p0, p1⟩ := HX4.out.cells
      dsimp only at p0 p1
      clear hx4 HGC2
      go_wp2_with fail
      refine HGC3.out.mono ?_
      rintro _ w5 ⟨vd, rfl, hown5, hb5⟩
      have HB5 := hid (Bn HB4.out hb5)
      obtain ⟨a5, c5, rfl, hx5⟩ := Rx.own hown5 HFL.out
      have HS5 := hid (HSA.out w5 a5 c5 HB5.out hx5)
      clear hown5 hb5 hx5 HGC3 HB4 HX4 p0 p1
      go_wp2_with fail
      refine HS5.out.mono ?_
      rintro _ w6 ⟨rfl, hb6⟩
      have HB6 := hid (Bn HB5.out hb6)
      clear hb6 HS5 HB5
      go_wp2
      go_ret
      exact ⟨rfl, HB6.out⟩
    · have HGN2 := hid (HGN.out hr2)
      have hd2 : decide (r2 = 0) = false := decide_eq_false hr2
      clear HGC HTB HGN
      go_enter Try.func6, Try.ntmps6
      go_wp2_with fail
      refine (awake_any _).mono ?_
      rintro _ wA ⟨rfl, hbA⟩
      have HBA := hid (Bn HB0.out hbA)
      have HXA := hid (HXE.out.later hbA)
      have HC2 := hid (HC1.out wA HBA.out)
      have HT2 := hid (HT.out wA HBA.out)
      clear hbA HB0 HXE HC1 HT
      go_wp2_with fail
      refine HC2.out.mono ?_
      rintro _ w0 ⟨rfl, hw⟩
      obtain rfl := hw.symm
      clear hw HC2
      go_wp2_with fail
      refine HT2.out.mono ?_
      rintro _ w1 ⟨va, rfl, hown1, hb1⟩
      have hA := bel_alloc w1 (.cells #[.int .i64 g1, .int .i64 g2] 24)
      have HB1 := hid (Bn (Bn HBA.out hb1) hA)
      have hX1 : Xb (w1.alloc (.cells #[.int .i64 g1, .int .i64 g2] 24)) w1.heap.size (g1, g2) := heap_new w1 _
      have HXB := hid (HXA.out.later (Bn hb1 hA))
      obtain ⟨a1, c1, rfl, hx1⟩ := Rx.own (own_later hown1 hA) HFT.out
      have HTB3 := hid (HTB2.out _ a1 c1 hx1)
      obtain ⟨p0, p1⟩ := hX1.cells
      dsimp only at p0 p1
      clear hown1 hb1 hA hX1 hx1 HT2 HXA HBA HTB2
      go_wp2_with fail
      refine HTB3.out.mono ?_
      rintro _ w2 ⟨vb, rfl, hown2, hb2⟩
      have HB2 := hid (Bn HB1.out hb2)
      have HX2 := hid (HXB.out.later hb2)
      obtain ⟨a2, c2, rfl, hx2⟩ := Rx.own hown2 HFL.out
      have HS2 := hid (HSA.out w2 a2 c2 HB2.out hx2)
      clear hown2 hb2 hx2 HTB3 HB1 HXB p0 p1
      go_wp2_with fail
      refine HS2.out.mono ?_
      rintro _ w3 ⟨rfl, hb3⟩
      have HB3 := hid (Bn HB2.out hb3)
      have HX3 := hid (HX2.out.later hb3)
      clear hb3 HS2 HB2 HX2
      obtain ⟨p0, p1⟩ := HX3.out.cells
      have HG3 := hid (HG.out _ HB3.out)
      dsimp only at p0 p1
      clear HG
      go_wp2_with fail
      refine HG3.out.mono ?_
      rintro _ w4 ⟨vc, rfl, hown4, hb4⟩
      have HB4 := hid (Bn HB3.out hb4)
      have HX4 := hid (HX3.out.later hb4)
      obtain ⟨a4, c4, rfl, hx4⟩ := Rx.own hown4 HFG.out
      clear hown4 hb4 HG3 HB3 HX3 p0 p1
      have hlen := HGN2.out
      rw [hlen]
      clear hx4 hlen
      go_wp2
      go_ret
      exact ⟨rfl, HB4.out⟩
  · have hd1 : decide (oe = 0) = false := decide_eq_false hoe
    by_cases hr2 : r2 = 0
    · have HGC2 := hid (HGC.out hr2)
      subst hr2
      clear HGC HTB HGN
      go_enter Try.func6, Try.ntmps6
      go_wp2_with fail
      refine (awake_any _).mono ?_
      rintro _ wA ⟨rfl, hbA⟩
      have HBA := hid (Bn HB0.out hbA)
      have HXA := hid (HXE.out.later hbA)
      have HC2 := hid (HC1.out wA HBA.out)
      have HT2 := hid (HT.out wA HBA.out)
      clear hbA HB0 HXE HC1 HT
      go_wp2_with fail
      refine HC2.out.mono ?_
      rintro _ w0 ⟨rfl, hw⟩
      obtain rfl := hw.symm
      clear hw HC2
      go_wp2_with fail
      refine HT2.out.mono ?_
      rintro _ w1 ⟨va, rfl, hown1, hb1⟩
      have hA := bel_alloc w1 (.cells #[.int .i64 g1, .int .i64 g2] 24)
      have HB1 := hid (Bn (Bn HBA.out hb1) hA)
      have hX1 : Xb (w1.alloc (.cells #[.int .i64 g1, .int .i64 g2] 24)) w1.heap.size (g1, g2) := heap_new w1 _
      have HXB := hid (HXA.out.later (Bn hb1 hA))
      obtain ⟨a1, c1, rfl, hx1⟩ := Rx.own (own_later hown1 hA) HFT.out
      have HB3 := hid HB1.out
      have HX3 := hid HXB.out
      clear hown1 hb1 hA hX1 hx1 HT2 HXA HBA HB1 HXB
      obtain ⟨p0, p1⟩ := HX3.out.cells
      have HG3 := hid (HG.out _ HB3.out)
      dsimp only at p0 p1
      clear HG
      go_wp2_with fail
      refine HG3.out.mono ?_
      rintro _ w4 ⟨vc, rfl, hown4, hb4⟩
      have HB4 := hid (Bn HB3.out hb4)
      have HX4 := hid (HX3.out.later hb4)
      obtain ⟨a4, c4, rfl, hx4⟩ := Rx.own hown4 HFG.out
      clear hown4 hb4 HG3 HB3 HX3 p0 p1
      have HGC3 := hid (HGC2.out w4 a4 c4 hx4)
      obtain ⟨p0, p1⟩ := HX4.out.cells
      dsimp only at p0 p1
      clear hx4 HGC2
      go_wp2_with fail
      refine HGC3.out.mono ?_
      rintro _ w5 ⟨vd, rfl, hown5, hb5⟩
      have HB5 := hid (Bn HB4.out hb5)
      obtain ⟨a5, c5, rfl, hx5⟩ := Rx.own hown5 HFL.out
      have HS5 := hid (HSA.out w5 a5 c5 HB5.out hx5)
      clear hown5 hb5 hx5 HGC3 HB4 HX4 p0 p1
      go_wp2_with fail
      refine HS5.out.mono ?_
      rintro _ w6 ⟨rfl, hb6⟩
      have HB6 := hid (Bn HB5.out hb6)
      clear hb6 HS5 HB5
      go_wp2
      go_ret
      exact ⟨rfl, HB6.out⟩
    · have HGN2 := hid (HGN.out hr2)
      have hd2 : decide (r2 = 0) = false := decide_eq_false hr2
      clear HGC HTB HGN
      go_enter Try.func6, Try.ntmps6
      go_wp2_with fail
      refine (awake_any _).mono ?_
      rintro _ wA ⟨rfl, hbA⟩
      have HBA := hid (Bn HB0.out hbA)
      have HXA := hid (HXE.out.later hbA)
      have HC2 := hid (HC1.out wA HBA.out)
      have HT2 := hid (HT.out wA HBA.out)
      clear hbA HB0 HXE HC1 HT
      go_wp2_with fail
      refine HC2.out.mono ?_
      rintro _ w0 ⟨rfl, hw⟩
      obtain rfl := hw.symm
      clear hw HC2
      go_wp2_with fail
      refine HT2.out.mono ?_
      rintro _ w1 ⟨va, rfl, hown1, hb1⟩
      have hA := bel_alloc w1 (.cells #[.int .i64 g1, .int .i64 g2] 24)
      have HB1 := hid (Bn (Bn HBA.out hb1) hA)
      have hX1 : Xb (w1.alloc (.cells #[.int .i64 g1, .int .i64 g2] 24)) w1.heap.size (g1, g2) := heap_new w1 _
      have HXB := hid (HXA.out.later (Bn hb1 hA))
      obtain ⟨a1, c1, rfl, hx1⟩ := Rx.own (own_later hown1 hA) HFT.out
      have HB3 := hid HB1.out
      have HX3 := hid HXB.out
      clear hown1 hb1 hA hX1 hx1 HT2 HXA HBA HB1 HXB
      obtain ⟨p0, p1⟩ := HX3.out.cells
      have HG3 := hid (HG.out _ HB3.out)
      dsimp only at p0 p1
      clear HG
      go_wp2_with fail
      refine HG3.out.mono ?_
      rintro _ w4 ⟨vc, rfl, hown4, hb4⟩
      have HB4 := hid (Bn HB3.out hb4)
      have HX4 := hid (HX3.out.later hb4)
      obtain ⟨a4, c4, rfl, hx4⟩ := Rx.own hown4 HFG.out
      clear hown4 hb4 HG3 HB3 HX3 p0 p1
      have hlen := HGN2.out
      rw [hlen]
      clear hx4 hlen
      go_wp2
      go_ret
      exact ⟨rfl, HB4.out⟩

set_option maxRecDepth 100000 in
theorem lifted (os : Os) (started : os.Started) (H : Type) (enc : TypeId × Value → H) :
    ReturnsInHanded {} Try.checked os 6 .any (Rows.regionBackSpec.pre6 enc Try.prog Try.f6 Rows.regionBackRow.domain false) (Rows.regionBackSpec.post enc Try.prog Try.f6 false true false false) := by
  refine returnsInHanded_of_change (C := Try.checked) own started (by kernel_rfl) Try.func6
    (ChangeSpec.witness6 (enc := enc) (C := Try.checked) false ⟨#[], #[.int .i64 0, .slice none 0 0, .int .i64 0, .agg #[.int .i64 0, .int .i64 0]], []⟩ 8 (by kernel_rfl) (by kernel_rfl) (by kernel_rfl) (by kernel_rfl)) ?_
  intro W base args ds gs before hval0 hW _ _
  have hval : ∀ (j : Nat) t v, Try.f6.params[j]? = some t → args[j]? = some v → Value.okWide Try.prog W .any base t v := hval0
  have hW' := hW
  obtain ⟨p, q, hA0, hV, rfl, _, _⟩ := hW
  have hA : DataW.TrodAll enc Try.prog W 0 (fun _ => true) true Try.f6.params.toList args.toList ds p := hA0
  rw [Try.params6] at hA hval
  obtain ⟨v0, vs0, d0, ds0, p0, q0, hargs, rfl, rfl, h0, r0⟩ := trodAll_cons hA
  obtain ⟨v1, vs1, d1, ds1, p1, q1, rfl, rfl, rfl, h1, r1⟩ := trodAll_cons r0
  obtain ⟨v2, vs2, d2, ds2, p2, q2, rfl, rfl, rfl, h2, r2⟩ := trodAll_cons r1
  obtain ⟨v3, vs3, d3, ds3, p3, q3, rfl, rfl, rfl, h3, r3⟩ := trodAll_cons r2
  obtain ⟨rfl, rfl, rfl⟩ := trodAll_nil r3
  obtain rfl : args = #[v0, v1, v2, v3] := by cases args; simp_all
  obtain ⟨rfl, rfl⟩ := trodVars_none hV
  obtain ⟨a0, rfl, rfl, rfl, w0⟩ := open_int Try.underlying3 (hval 0 3 v0 rfl rfl) h0
  obtain ⟨a2, rfl, rfl, rfl, w2⟩ := open_int Try.underlying3 (hval 2 3 v2 rfl rfl) h2
  clear hA0
  simp only [List.append_nil, List.nil_append] at hW'
  have hlt1 : ∀ x ∈ p1, x.block < W.heap.size := fun x hx => hW'.lt x (by simp [hx])
  have hk1 := h1
  obtain ⟨a1, cap1, l1, rfl, hr1⟩ := open_rx (hval 1 22 v1 rfl rfl) h1 hlt1
  have hlt3 : ∀ x ∈ p3, x.block < W.heap.size := fun x hx => hW'.lt x (by simp [hx])
  have hk3 := h3
  obtain ⟨⟨x3, y3⟩, rfl, f3, g3⟩ := open_ex (hval 3 24 v3 rfl rfl) h3
  clear hval0
  refine (walk a0 w0 a1 cap1 l1 a2 w2 x3 y3 f3 g3 W hr1).mono fun e W' ⟨he, hb⟩ => ?_
  subst he
  exact ⟨_, rfl, _, _, _, [] ++ [], _, [], hW', trodAll_cons_mk (shut_bool Try.underlying4 _) trodAll_mk0, (trodAll_cons_mk (shut_int Try.underlying3 w0) (trodAll_cons_mk (Below.trod Try.laidOut (by kernel_rfl) (of_decide_eq_true (by kernel_rfl)) hk1 hb hlt1) (trodAll_cons_mk (shut_int Try.underlying3 w2) (trodAll_cons_mk (Below.trod Try.laidOut (by kernel_rfl) (of_decide_eq_true (by kernel_rfl)) hk3 hb hlt3) trodAll_mk0)))), rfl, hb.frame _, fun h => by cases h⟩

theorem over : Rows.regionBackRow.holds Try.pinned (OpenSpec.ofChange Rows.regionBackSpec) :=
  OpenClaim.holds_of_wide 6 Try.f6 rfl rfl rfl rfl rfl rfl rfl ⟨rfl, rfl, rfl, rfl, rfl⟩ rfl rfl rfl rfl rfl (by kernel_rfl) Try.func6 (by kernel_rfl)
    (of_decide_eq_true (by kernel_rfl)) (by unfold Func.isWrapper; first | (rw [if_pos (by decide +kernel)]; kernel_rfl) | (rw [if_neg (by decide +kernel)]; exact ⟨rfl, rfl⟩))
    (fun os started H enc _ => lifted os started H enc)

end Go.Proofs.Ytkfoeijhhfaceaa.regionBack
namespace Go.Proofs.Ytkfoeijhhfaceaa
theorem regionBack_holds : Rows.RegionBackSaid := regionBack.over
#print axioms regionBack_holds
end Go.Proofs.Ytkfoeijhhfaceaa
