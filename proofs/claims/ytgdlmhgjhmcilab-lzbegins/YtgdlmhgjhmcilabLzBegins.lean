/-
  LzBegins is proved for every input: the first of some tokens make a beginning of the bytes of all; no condition.
-/
import Derived.Test.YtgdlmhgjhmcilabBegMath
import Derived.Test.YtgdlmhgjhmcilabFit
namespace Go.Proofs.Ytgdlmhgjhmcilab.lzBegins
open Go.ChangeShapes Go.WideShapes Go.ChangeAt Go.RowKit Lz

theorem own : ownKnob Try.prog.godebug = none := by kernel_rfl

set_option maxHeartbeats 1600000 in
set_option maxRecDepth 100000 in
theorem walk (a : Option Addr) (cap : Nat) (zs : List Tkz) (nn : Int) (hw : (Lit.int .u16 nn).wf = true) (w : World) (hr : Rt w a cap zs) :
    Calls Try.prog 3 #[.slice a zs.length cap, .int .u16 nn] w fun e w' => e = .returned (.bool true) ∧ Below w.heap.size w w' := by
  have hnn := wf_u16 hw
  obtain ⟨m, rfl⟩ : ∃ m : Nat, nn = (m : Int) := ⟨nn.toNat, by omega⟩
  have hm : m ≤ 65535 := by omega
  have C1 : Hid (∀ W, Below w.heap.size w W → Calls Try.prog 5 #[.slice a zs.length cap] W fun e w' => e = .returned (.slice a (zs.take 400).length cap) ∧ w' = W) := fun W hW => few_any a cap zs W (hr.later hW)
  have r1 := hr.take 400
  have hn : (zs.take 400).length ≤ 400 := List.length_take_le _ _
  generalize zs.take 400 = l at *
  have HC : Hid (∀ W, Below w.heap.size w W → Calls Try.prog 6 #[.slice a l.length cap] W (BytPost l W)) := fun W hW => bytes_word a cap l W (r1.later hW) (by omega)
  unfold BytPost at HC
  have HFIT := hid (byt_fit l (fun j hj => (r1.fits j hj).2.2))
  have HR := hid r1
  have hroom := r1.room
  have hmost := r1.most
  unfold maxLen at hmost
  have HNO : Hid ((bytesO l).2.2 ≠ 0 → (bytesO l).1 = []) := fun h => bytF_none l [] 0 h
  have HTK : Hid (∀ j, (bytesO l).2.2 = 0 → (bytesO (l.take j)).2.2 = 0 ∧ (bytesO (l.take j)).1 <+: (bytesO l).1) := fun j h => bytF_take l [] 0 j h
  clear hr r1 hw hnn
  generalize bytesO l = o at *
  obtain ⟨b, i, f⟩ := o
  dsimp only at *
  generalize zs.length = L0 at *
  obtain ⟨L, hL⟩ : ∃ L, L = l.length := ⟨_, rfl⟩
  have HL := hid hL
  rw [← hL] at C1 HC hroom hn
  clear hL
  go_enter Try.func3, Try.ntmps3
  go_wp2_with fail
  refine (awake_any _).mono ?_
  rintro _ w0 ⟨rfl, hb0⟩
  have HB0 := hid hb0
  clear hb0
  go_wp2_with fail
  refine (C1.out w0 HB0.out).mono ?_
  rintro _ w0' ⟨rfl, hw⟩
  obtain rfl := hw.symm
  clear hw C1
  go_wp2_with fail
  refine (HC.out w0 HB0.out).mono ?_
  rintro _ w1 ⟨v1, rfl, hown1, hb1⟩
  obtain ⟨a1, c1, rfl, hr1⟩ := Ri.own hown1 HFIT.out
  have HB1 := hid (Bn HB0.out hb1)
  have HR1 := hid hr1
  clear hown1 hb1 HC hr1
  by_cases hf : f = 0
  · have hfb : (f != 0) = false := by simpa using hf
    obtain ⟨j, hj⟩ : ∃ j, j = m % (L + 1) := ⟨_, rfl⟩
    have hjL : j ≤ L := by have := Nat.mod_lt m (show 0 < L + 1 by omega); omega
    have hjz : (m : Int) % ((L : Int) + 1) = (j : Int) := by rw [hj]; simp
    have hjz2 : Int.tmod (m : Int) ((L : Int) + 1) = (j : Int) := by rw [hj]; simp [Int.tmod_eq_emod_of_nonneg]
    obtain ⟨ht0, htp⟩ := HTK.out j hf
    obtain ⟨a', hsl, hr'⟩ := low_tok (HR.out.later HB1.out) j (by rw [← HL.out]; exact hjL)
    have hll : (l.take j).length = j := by have := HL.out; simp; omega
    have hsr := slice_tok a L cap j (by omega) w1
    rw [hsl] at hsr
    have hBW := bytes_word a' cap (l.take j) w1 hr' (by rw [hll]; omega)
    unfold BytPost at hBW
    have hfit2 := byt_fit (l.take j) (fun k hk => (hr'.fits k hk).2.2)
    rw [hll] at hBW
    generalize bytesO (l.take j) = o2 at *
    obtain ⟨c, i2, f2⟩ := o2
    dsimp only at *
    subst hf
    subst ht0
    have HBW := hid hBW
    have HFT := hid hfit2
    have HTP := hid htp
    clear hBW hfit2 htp HTK HNO HFIT hj hr' hsl hll
    go_wp2_with fail
    refine HBW.out.mono ?_
    rintro _ w2 ⟨v2, rfl, hown2, hb2⟩
    obtain ⟨a2, c2, rfl, hr2⟩ := Ri.own hown2 HFT.out
    obtain ⟨hle, htake⟩ := prefix_take HTP.out
    have t2 : ∀ k, (convert 26 9 (.slice a2 c.length c2)).run Try.prog (w2.drewN k) = .ok (.string (strOfNums c)) (w2.drewN k) := fun k => hr2.text _ (bel_drewN' _ _)
    have hrb := HR1.out.later hb2
    have hr3 := hrb.take c.length
    have hcr := hrb.room
    have hcm := hrb.most
    unfold maxLen at hcm
    have t3 : ∀ k, (convert 26 9 (.slice a1 c.length c1)).run Try.prog (w2.drewN k) = .ok (.string (strOfNums c)) (w2.drewN k) := fun k => by
      have := hr3.text (w2.drewN k) (bel_drewN' _ _)
      rw [htake] at this
      exact this
    have HB2 := hid (Bn HB1.out hb2)
    clear hown2 hb2 HBW hr2 hrb hr3 htake HTP HFT HR1 HB1 hsr
    generalize strOfNums c = st at *
    generalize c.length = n2 at *
    generalize b.length = n1 at *
    have e3 : (st.toList == st.toList) = true := by simp
    have hlz : (n2 : Int) ≤ (n1 : Int) := by omega
    have hld : decide ((n2 : Int) ≤ (n1 : Int)) = true := by simpa using hle
    have hln : decide (n2 ≤ n1) = true := by simpa using hle
    go_wp2_with fail
    go_big_quiet (fail)
    go_wp2
    go_ret
    exact ⟨rfl, bel_drewN HB2.out _⟩
  · have hfb : (f != 0) = true := by simpa using hf
    have hb0 := HNO.out hf
    subst hb0
    clear hf HNO HTK HFIT
    have e0 : ((0 : Int) == 0) = true := rfl
    go_wp2
    go_ret
    exact ⟨rfl, HB1.out⟩

set_option maxRecDepth 100000 in
theorem lifted (os : Os) (started : os.Started) (H : Type) (enc : TypeId × Value → H) :
    ReturnsInHanded {} Try.checked os 3 .any (Rows.lzBeginsSpec.pre6 enc Try.prog Try.f3 Rows.lzBeginsRow.domain false) (Rows.lzBeginsSpec.post enc Try.prog Try.f3 false true false false) := by
  refine returnsInHanded_of_change (C := Try.checked) own started (by kernel_rfl) Try.func3
    (ChangeSpec.witness6 (enc := enc) (C := Try.checked) false ⟨#[], #[.slice none 0 0, .int .u16 0], []⟩ 8 (by kernel_rfl) (by kernel_rfl) (by kernel_rfl) (by kernel_rfl)) ?_
  intro W base args ds gs before hval0 hW _ _
  have hval : ∀ (j : Nat) t v, Try.f3.params[j]? = some t → args[j]? = some v → Value.okWide Try.prog W .any base t v := hval0
  have hW' := hW
  obtain ⟨p, q, hA0, hV, rfl, _, _⟩ := hW
  have hA : DataW.TrodAll enc Try.prog W 0 (fun _ => true) true Try.f3.params.toList args.toList ds p := hA0
  rw [Try.params3] at hA hval
  obtain ⟨v0, vs0, d0, ds0, p0, q0, hargs, rfl, rfl, h0, r0⟩ := trodAll_cons hA
  obtain ⟨v1, vs1, d1, ds1, p1, q1, rfl, rfl, rfl, h1, r1⟩ := trodAll_cons r0
  obtain ⟨rfl, rfl, rfl⟩ := trodAll_nil r1
  obtain rfl : args = #[v0, v1] := by cases args; simp_all
  obtain ⟨rfl, rfl⟩ := trodVars_none hV
  obtain ⟨a1, rfl, rfl, rfl, w1⟩ := open_int Try.underlying23 (hval 1 23 v1 rfl rfl) h1
  clear hA0
  simp only [List.append_nil] at hW'
  have hlt0 : ∀ x ∈ p0, x.block < W.heap.size := fun x hx => hW'.lt x (by simp [hx])
  have hk0 := h0
  obtain ⟨a0, cap0, zs0, rfl, hr0⟩ := open_rt (hval 0 22 v0 rfl rfl) h0 hlt0
  clear hval0
  refine (walk a0 cap0 zs0 a1 w1 W hr0).mono fun e W' ⟨he, hb⟩ => ?_
  subst he
  exact ⟨_, rfl, _, _, _, [] ++ [], _, [], hW', trodAll_cons_mk (shut_bool Try.underlying4 _) trodAll_mk0, (trodAll_cons_mk (Below.trod Try.laidOut (by kernel_rfl) (of_decide_eq_true (by kernel_rfl)) hk0 hb hlt0) (trodAll_cons_mk (shut_int Try.underlying23 w1) trodAll_mk0)), rfl, hb.frame _, fun h => by cases h⟩

theorem over : Rows.lzBeginsRow.holds Try.pinned (OpenSpec.ofChange Rows.lzBeginsSpec) :=
  OpenClaim.holds_of_wide 3 Try.f3 rfl rfl rfl rfl rfl rfl rfl ⟨rfl, rfl, rfl, rfl, rfl⟩ rfl rfl rfl rfl rfl (by kernel_rfl) Try.func3 (by kernel_rfl)
    (of_decide_eq_true (by kernel_rfl)) (by unfold Func.isWrapper; first | (rw [if_pos (by decide +kernel)]; kernel_rfl) | (rw [if_neg (by decide +kernel)]; exact ⟨rfl, rfl⟩))
    (fun os started H enc _ => lifted os started H enc)

end Go.Proofs.Ytgdlmhgjhmcilab.lzBegins
namespace Go.Proofs.Ytgdlmhgjhmcilab
theorem lzBegins_holds : Rows.LzBeginsSaid := lzBegins.over
#print axioms lzBegins_holds
end Go.Proofs.Ytgdlmhgjhmcilab
