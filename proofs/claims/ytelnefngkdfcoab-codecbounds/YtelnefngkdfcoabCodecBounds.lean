/-
  CodecBounds is proved for every input: a code is never of more bytes than its head says, and above the bounds all is refused; no condition.
-/
import Derived.Test.YtelnefngkdfcoabPart09
import Derived.Test.YtelnefngkdfcoabPart33
namespace Go.Proofs.Ytelnefngkdfcoab.codecBounds
open Go.ChangeShapes Go.WideShapes Go.ChangeAt Go.RowKit Lz Hf

theorem own : ownKnob Try.prog.godebug = none := by kernel_rfl

set_option maxHeartbeats 3200000 in
set_option maxRecDepth 100000 in
theorem walk (a : Option Addr) (cap : Nat) (zs : List Int) (over : Int) (_hov : (Lit.int .i64 over).wf = true) (w : World) (hr : Ri w .u8 a cap zs) :
    Calls Try.prog 3 #[.slice a zs.length cap, .int .i64 over] w fun e w' => e = .returned (.bool true) ∧ Below w.heap.size w w' := by
  have hnb : (zs.take 700).length ≤ 700 := List.length_take_le _ _
  have C1 := hid (cut7_any a cap zs w hr)
  have r1 := hr.take 700
  generalize zs.take 700 = bs at *
  have HD := hid (decode_word a cap bs w r1 (by omega))
  unfold DecPost at HD
  have HHD : Hid (∀ l, rowO bs = some l → ∃ p : Bool, ∀ W, Below w.heap.size w W → Calls Try.prog 6 #[.slice a bs.length cap] W fun e w' => Below W.heap.size W w' ∧ e = .returned (.tuple #[.int .i64 (l.length : Int), .bool p, .int .i64 0])) := fun l hl => by
    obtain ⟨p, rs, hh⟩ := row_head hl
    exact ⟨p, fun W hW => headf_ok a cap bs W (r1.later hW) l.length p rs hh⟩
  have HMK : Hid (∀ (B o : Nat), B + o ≤ 1000000 → over = (o : Int) → ∀ W : World, (Instr.makeSlice 22 (.int .i64 ((B : Int) + over)) (.int .i64 ((B : Int) + over))).run Try.prog W = .ok (.slice (some ⟨W.heap.size, 0, none⟩) (B + o) (B + o)) (W.alloc (.cells (madeCells #[.int .u8 0] (B + o)) 5))) := fun B o h1 h2 W => by
    have h := mk_run (B + o) h1 W
    rw [h2, show (B : Int) + (o : Int) = ((B + o : Nat) : Int) from by omega]
    exact h
  clear hr r1 hnb
  generalize zs.length = L0 at *
  generalize rowO bs = R at *
  generalize bs.length = len at *
  have HTL : Hid (∀ (W : World), Below w.heap.size w W → 1 ≤ over → over ≤ 3 →
      ∃ o : Nat, over = (o : Int) ∧ 1 ≤ o ∧ o ≤ 3) := fun W _ h1 h2 => ⟨over.toNat, by omega, by omega, by omega⟩
  go_enter Try.func3, Try.ntmps3
  go_wp2_with fail
  refine C1.out.mono ?_
  rintro _ w0 ⟨rfl, hw⟩
  obtain rfl := hw.symm
  clear hw C1
  go_wp2_with fail
  refine HD.out.mono ?_
  rintro _ w1 ⟨hb1, he⟩
  have HB1 := hid hb1
  clear hb1 HD
  cases R with
  | none =>
    dsimp only at he
    subst he
    clear HHD
    by_cases h1 : over < 1
    · have t1 : decide (over < 1) = true := decide_eq_true h1
      go_wp2_with fail
      refine (alive_any _).mono ?_
      rintro _ w9 ⟨rfl, hb9⟩
      have HB9 := hid (Bn HB1.out hb9)
      clear hb9
      go_wp2_with fail
      go_ret
      exact ⟨rfl, HB9.out⟩
    · have t1 : decide (over < 1) = false := decide_eq_false h1
      by_cases h2 : 3 < over
      · have t2 : decide (3 < over) = true := decide_eq_true h2
        go_wp2_with fail
        refine (alive_any _).mono ?_
        rintro _ w9 ⟨rfl, hb9⟩
        have HB9 := hid (Bn HB1.out hb9)
        clear hb9
        go_wp2_with fail
        go_ret
        exact ⟨rfl, HB9.out⟩
      · have t2 : decide (3 < over) = false := decide_eq_false h2
        obtain ⟨o, ho, o1, o2⟩ := HTL.out w1 HB1.out (by omega) (by omega)
        have hw1 : IntKind.i64.wrap (65536 + over) = 65536 + over := IntWalk.i64_in _ ⟨by omega, by omega⟩
        have hw2 : IntKind.i64.wrap (262144 + over) = 262144 + over := IntWalk.i64_in _ ⟨by omega, by omega⟩
        have HO1 := hid o1
        have HO2 := hid o2
        have HO := hid ho
        have HMA : Hid (∀ W : World, (Instr.makeSlice 22 (.int .i64 (65536 + over)) (.int .i64 (65536 + over))).run Try.prog W = .ok (.slice (some ⟨W.heap.size, 0, none⟩) (65536 + o) (65536 + o)) (W.alloc (.cells (madeCells #[.int .u8 0] (65536 + o)) 5))) := fun W => HMK.out 65536 o (by omega) ho W
        have HMB : Hid (∀ W : World, (Instr.makeSlice 22 (.int .i64 (262144 + over)) (.int .i64 (262144 + over))).run Try.prog W = .ok (.slice (some ⟨W.heap.size, 0, none⟩) (262144 + o) (262144 + o)) (W.alloc (.cells (madeCells #[.int .u8 0] (262144 + o)) 5))) := fun W => HMK.out 262144 o (by omega) ho W
        have HEL : Hid (∀ W : World, Calls Try.prog 8 #[.slice (some ⟨W.heap.size, 0, none⟩) (65536 + o) (65536 + o)] (W.alloc (.cells (madeCells #[.int .u8 0] (65536 + o)) 5)) fun e w' => Below W.heap.size W w' ∧ e = .returned (.tuple #[.slice none 0 0, .int .i64 2])) := fun W => by
          have h := cenc_long (some ⟨W.heap.size, 0, none⟩) (65536 + o) (List.replicate (65536 + o) 0) _ (made_ri W (65536 + o) (by omega)) (by rw [List.length_replicate]; omega)
          rw [List.length_replicate] at h
          exact h.mono (fun e w' ⟨q1, q2⟩ => ⟨Bn (bel_alloc W _) q1, q2⟩)
        have HDL : Hid (∀ W : World, Calls Try.prog 5 #[.slice (some ⟨W.heap.size, 0, none⟩) (262144 + o) (262144 + o)] (W.alloc (.cells (madeCells #[.int .u8 0] (262144 + o)) 5)) fun e w' => Below W.heap.size W w' ∧ e = .returned (.tuple #[.slice none 0 0, .int .i64 2])) := fun W =>
          (dec_long (some ⟨W.heap.size, 0, none⟩) (262144 + o) (262144 + o) _ (by omega)).mono (fun e w' ⟨q1, q2⟩ => ⟨Bn (bel_alloc W _) q1, q2⟩)
        have HUL : Hid (∀ W : World, Calls Try.prog 9 #[.slice (some ⟨W.heap.size, 0, none⟩) (262144 + o) (262144 + o)] (W.alloc (.cells (madeCells #[.int .u8 0] (262144 + o)) 5)) fun e w' => Below W.heap.size W w' ∧ e = .returned (.tuple #[.slice none 0 0, .int .i64 2])) := fun W =>
          (unp_long (some ⟨W.heap.size, 0, none⟩) (262144 + o) (262144 + o) _ (by omega)).mono (fun e w' ⟨q1, q2⟩ => ⟨Bn (bel_alloc W _) q1, q2⟩)
        clear o1 o2 ho HMK HTL
        have hmA := HMA.out w1
        go_wp2_with fail
        refine (HEL.out w1).mono ?_
        rintro _ w5 ⟨hb5, rfl⟩
        have HB5 := hid (Bn HB1.out hb5)
        clear hb5 hmA HEL HMA
        have hmB := HMB.out w5
        go_wp2_with fail
        refine (HDL.out w5).mono ?_
        rintro _ w6 ⟨hb6, rfl⟩
        have HB6 := hid (Bn HB5.out hb6)
        clear hb6 hmB HDL
        have hmC := HMB.out w6
        go_wp2_with fail
        refine (HUL.out w6).mono ?_
        rintro _ w7 ⟨hb7, rfl⟩
        have HB7 := hid (Bn HB6.out hb7)
        clear hb7 hmC HUL HMB
        go_wp2_with fail
        refine (alive_any _).mono ?_
        rintro _ w9 ⟨rfl, hb9⟩
        have HB9 := hid (Bn HB7.out hb9)
        clear hb9
        go_wp2_with fail
        go_ret
        exact ⟨rfl, HB9.out⟩
  | some l =>
    dsimp only at he
    obtain ⟨a1, c1, rfl, _⟩ := he
    obtain ⟨p, hp⟩ := HHD.out l rfl
    have HP := hid (hp w1 HB1.out)
    clear hp HHD
    generalize l.length = ll at *
    have ell : ((ll : Int) != (ll : Int)) = false := by simp
    go_wp2_with fail
    refine HP.out.mono ?_
    rintro _ w2 ⟨hb2, rfl⟩
    have HB2 := hid (Bn HB1.out hb2)
    clear hb2 HP
    by_cases h1 : over < 1
    · have t1 : decide (over < 1) = true := decide_eq_true h1
      go_wp2_with fail
      refine (alive_any _).mono ?_
      rintro _ w9 ⟨rfl, hb9⟩
      have HB9 := hid (Bn HB2.out hb9)
      clear hb9
      go_wp2_with fail
      go_ret
      exact ⟨rfl, HB9.out⟩
    · have t1 : decide (over < 1) = false := decide_eq_false h1
      by_cases h2 : 3 < over
      · have t2 : decide (3 < over) = true := decide_eq_true h2
        go_wp2_with fail
        refine (alive_any _).mono ?_
        rintro _ w9 ⟨rfl, hb9⟩
        have HB9 := hid (Bn HB2.out hb9)
        clear hb9
        go_wp2_with fail
        go_ret
        exact ⟨rfl, HB9.out⟩
      · have t2 : decide (3 < over) = false := decide_eq_false h2
        obtain ⟨o, ho, o1, o2⟩ := HTL.out w2 HB2.out (by omega) (by omega)
        have hw1 : IntKind.i64.wrap (65536 + over) = 65536 + over := IntWalk.i64_in _ ⟨by omega, by omega⟩
        have hw2 : IntKind.i64.wrap (262144 + over) = 262144 + over := IntWalk.i64_in _ ⟨by omega, by omega⟩
        have HO1 := hid o1
        have HO2 := hid o2
        have HO := hid ho
        have HMA : Hid (∀ W : World, (Instr.makeSlice 22 (.int .i64 (65536 + over)) (.int .i64 (65536 + over))).run Try.prog W = .ok (.slice (some ⟨W.heap.size, 0, none⟩) (65536 + o) (65536 + o)) (W.alloc (.cells (madeCells #[.int .u8 0] (65536 + o)) 5))) := fun W => HMK.out 65536 o (by omega) ho W
        have HMB : Hid (∀ W : World, (Instr.makeSlice 22 (.int .i64 (262144 + over)) (.int .i64 (262144 + over))).run Try.prog W = .ok (.slice (some ⟨W.heap.size, 0, none⟩) (262144 + o) (262144 + o)) (W.alloc (.cells (madeCells #[.int .u8 0] (262144 + o)) 5))) := fun W => HMK.out 262144 o (by omega) ho W
        have HEL : Hid (∀ W : World, Calls Try.prog 8 #[.slice (some ⟨W.heap.size, 0, none⟩) (65536 + o) (65536 + o)] (W.alloc (.cells (madeCells #[.int .u8 0] (65536 + o)) 5)) fun e w' => Below W.heap.size W w' ∧ e = .returned (.tuple #[.slice none 0 0, .int .i64 2])) := fun W => by
          have h := cenc_long (some ⟨W.heap.size, 0, none⟩) (65536 + o) (List.replicate (65536 + o) 0) _ (made_ri W (65536 + o) (by omega)) (by rw [List.length_replicate]; omega)
          rw [List.length_replicate] at h
          exact h.mono (fun e w' ⟨q1, q2⟩ => ⟨Bn (bel_alloc W _) q1, q2⟩)
        have HDL : Hid (∀ W : World, Calls Try.prog 5 #[.slice (some ⟨W.heap.size, 0, none⟩) (262144 + o) (262144 + o)] (W.alloc (.cells (madeCells #[.int .u8 0] (262144 + o)) 5)) fun e w' => Below W.heap.size W w' ∧ e = .returned (.tuple #[.slice none 0 0, .int .i64 2])) := fun W =>
          (dec_long (some ⟨W.heap.size, 0, none⟩) (262144 + o) (262144 + o) _ (by omega)).mono (fun e w' ⟨q1, q2⟩ => ⟨Bn (bel_alloc W _) q1, q2⟩)
        have HUL : Hid (∀ W : World, Calls Try.prog 9 #[.slice (some ⟨W.heap.size, 0, none⟩) (262144 + o) (262144 + o)] (W.alloc (.cells (madeCells #[.int .u8 0] (262144 + o)) 5)) fun e w' => Below W.heap.size W w' ∧ e = .returned (.tuple #[.slice none 0 0, .int .i64 2])) := fun W =>
          (unp_long (some ⟨W.heap.size, 0, none⟩) (262144 + o) (262144 + o) _ (by omega)).mono (fun e w' ⟨q1, q2⟩ => ⟨Bn (bel_alloc W _) q1, q2⟩)
        clear o1 o2 ho HMK HTL
        have hmA := HMA.out w2
        go_wp2_with fail
        refine (HEL.out w2).mono ?_
        rintro _ w5 ⟨hb5, rfl⟩
        have HB5 := hid (Bn HB2.out hb5)
        clear hb5 hmA HEL HMA
        have hmB := HMB.out w5
        go_wp2_with fail
        refine (HDL.out w5).mono ?_
        rintro _ w6 ⟨hb6, rfl⟩
        have HB6 := hid (Bn HB5.out hb6)
        clear hb6 hmB HDL
        have hmC := HMB.out w6
        go_wp2_with fail
        refine (HUL.out w6).mono ?_
        rintro _ w7 ⟨hb7, rfl⟩
        have HB7 := hid (Bn HB6.out hb7)
        clear hb7 hmC HUL HMB
        go_wp2_with fail
        refine (alive_any _).mono ?_
        rintro _ w9 ⟨rfl, hb9⟩
        have HB9 := hid (Bn HB7.out hb9)
        clear hb9
        go_wp2_with fail
        go_ret
        exact ⟨rfl, HB9.out⟩

set_option maxRecDepth 100000 in
theorem lifted (os : Os) (started : os.Started) (H : Type) (enc : TypeId × Value → H) :
    ReturnsInHanded {} Try.checked os 3 .any (Rows.codecBoundsSpec.pre6 enc Try.prog Try.f3 Rows.codecBoundsRow.domain false) (Rows.codecBoundsSpec.post enc Try.prog Try.f3 false true false false) := by
  refine returnsInHanded_of_change (C := Try.checked) own started (by kernel_rfl) Try.func3
    (ChangeSpec.witness6 (enc := enc) (C := Try.checked) false ⟨#[], #[.slice none 0 0, .int .i64 0], []⟩ 8 (by kernel_rfl) (by kernel_rfl) (by kernel_rfl) (by kernel_rfl)) ?_
  intro W base args ds gs before hval0 hW _ _
  have hval : ∀ (j : Nat) t v, Try.f3.params[j]? = some t → args[j]? = some v → Value.okWide Try.prog W .any base t v := hval0
  have hW' := hW
  obtain ⟨p, q, hA0, hV, rfl, _, _⟩ := hW
  have hA : DataW.TrodAll enc Try.prog W 0 (fun _ => true) true Try.f3.params.toList args.toList ds p := hA0
  rw [Try.params3] at hA hval
  obtain ⟨v0, vs0, d0, ds0, p0, q0, hargs, rfl, rfl, h0, r0⟩ := trodAll_cons hA
  obtain ⟨v1, vs1, d1, ds1, p1, q1, rfl, rfl, rfl, h1, r1⟩ := trodAll_cons r0
  obtain ⟨rfl, rfl, rfl⟩ := trodAll_nil r1
  obtain rfl : args = #[v0, v1] := by cases args; simp_all
  obtain ⟨rfl, rfl⟩ := trodVars_none hV
  obtain ⟨a1, rfl, rfl, rfl, w1⟩ := open_int Try.underlying3 (hval 1 3 v1 rfl rfl) h1
  clear hA0
  simp only [List.append_nil] at hW'
  have hlt0 : ∀ x ∈ p0, x.block < W.heap.size := fun x hx => hW'.lt x (by simp [hx])
  have hk0 := h0
  obtain ⟨a0, cap0, zs0, rfl, hr0⟩ := open_ri Try.underlying22 Try.underlying5 Try.cells5 (hval 0 22 v0 rfl rfl) h0 hlt0
  clear hval0
  refine (walk a0 cap0 zs0 a1 w1 W hr0).mono fun e W' ⟨he, hb⟩ => ?_
  subst he
  exact ⟨_, rfl, _, _, _, [] ++ [], _, [], hW', trodAll_cons_mk (shut_bool Try.underlying4 _) trodAll_mk0, (trodAll_cons_mk (Below.trod Try.laidOut (by kernel_rfl) (of_decide_eq_true (by kernel_rfl)) hk0 hb hlt0) (trodAll_cons_mk (shut_int Try.underlying3 w1) trodAll_mk0)), rfl, hb.frame _, fun h => by cases h⟩

theorem over : Rows.codecBoundsRow.holds Try.pinned (OpenSpec.ofChange Rows.codecBoundsSpec) :=
  OpenClaim.holds_of_wide 3 Try.f3 rfl rfl rfl rfl rfl rfl rfl ⟨rfl, rfl, rfl, rfl, rfl⟩ rfl rfl rfl rfl rfl (by kernel_rfl) Try.func3 (by kernel_rfl)
    (of_decide_eq_true (by kernel_rfl)) (by unfold Func.isWrapper; first | (rw [if_pos (by decide +kernel)]; kernel_rfl) | (rw [if_neg (by decide +kernel)]; exact ⟨rfl, rfl⟩))
    (fun os started H enc _ => lifted os started H enc)

end Go.Proofs.Ytelnefngkdfcoab.codecBounds
namespace Go.Proofs.Ytelnefngkdfcoab
theorem codecBounds_holds : Rows.CodecBoundsSaid := codecBounds.over
#print axioms codecBounds_holds
end Go.Proofs.Ytelnefngkdfcoab
