/-
  CrcCats is proved for every input: the joined sum of two rows is the sum of both, and taken back it is the first one; no condition.
-/
import Derived.Test.YtohbghniangknaaZeros
namespace Go.Proofs.Ytohbghniangknaa.crcCats
open Go.ChangeShapes Go.WideShapes Go.ChangeAt Go.RowKit Crc

theorem own : ownKnob Try.prog.godebug = none := by kernel_rfl

/-- One row as a new list of rows. -/
theorem ps_one {w : World} {v1 : Value} {a1 : Option Addr} {c1 : Nat} {z1 : List Nat} (h1 : Rd w v1 a1 c1 z1) (g : Nat) (hg : g = w.heap.size) :
    Ps (w.alloc (.cells #[v1] 23)) (some ⟨g, 0, none⟩) 1 [z1] := by
  subst hg
  have hb := bel_alloc w (.cells #[v1] 23)
  refine ⟨Nat.le_refl _, by unfold maxLen; omega, fun _ => ⟨w.heap.size, 0, rfl, fun j hj => ?_⟩⟩
  have hc := World.cell?_alloc_mark w #[v1] 23 (0, 0)
  match j, hj with
  | 0, _ => exact ⟨v1, a1, c1, hc 0, h1.later hb⟩

theorem cat_sums (z1 z2 : List Nat) (h : z2.length ≤ 65536) : catF (sumL [z1]) (sumL [z2]) (z2.length : Int) = .tuple #[.int .u32 ((sumL [z1, z2] : Nat) : Int), .int .i64 0] := by
  have hf : fitB (z2.length : Int) = true := (fit_iff _).2 (by omega)
  have e1 : sumL [z1] = add 0 z1 := by simp [sumL]
  have e2 : sumL [z2] = add 0 z2 := by simp [sumL]
  have e3 : sumL [z1, z2] = add 0 (z1 ++ z2) := by simp [sumL]
  rw [catF, hf, e1, e2, e3, cat, inR_zeros]
  rfl

theorem back_sums (z1 z2 : List Nat) : back (sumL [z1, z2]) z2 = add 0 z1 := by
  have e3 : sumL [z1, z2] = add 0 (z1 ++ z2) := by simp [sumL]
  rw [e3, add_append, back_add _ _ (add_lt 0 z1 (by decide))]

set_option maxHeartbeats 800000 in
theorem walk_rd (a : Option Addr) (cap : Nat) (zs : List Nat) (b : Option Addr) (cap' : Nat) (ys : List Nat) (w : World) (hr : Rd w (.slice a zs.length cap) a cap zs) (hr' : Rd w (.slice b ys.length cap') b cap' ys) :
    Calls Try.prog 7 #[.slice a zs.length cap, .slice b ys.length cap'] w fun e w' => e = .returned (.bool true) ∧ Below w.heap.size w w' := by
  have C1 := hid (cut_any a cap zs w hr)
  have C2 := hid (cut_any b cap' ys w hr')
  have r1 := hr.take 8192
  have r2 := hr'.take 8192
  have hl2 : (ys.take 8192).length ≤ 65536 := by have := List.length_take_le 8192 ys; omega
  generalize zs.take 8192 = z1 at *
  generalize ys.take 8192 = z2 at *
  have O1 := hid (of_word _ _ _ _ (ps_one r1 _ rfl))
  have B1 := bel_alloc w (.cells #[.slice a z1.length cap] 23)
  have O2 := hid (of_word _ _ _ _ (ps_one (r2.later B1) (w.heap.size + 1) (by simp)))
  have B2 := hid (Bn B1 (bel_alloc _ (.cells #[.slice b z2.length cap'] 23)))
  have K := hid (fun w : World => cat_word (sumL [z1]) (sumL [z2]) (z2.length : Int) w (sumL_lt _) (sumL_lt _))
  rw [cat_sums z1 z2 hl2] at K
  have P2 : Hid (∀ W : World, Below w.heap.size w W → Calls Try.prog 13 #[.slice (some ⟨W.heap.size, 0, none⟩) 2 2] (W.alloc (.cells #[.slice a z1.length cap, .slice b z2.length cap'] 23)) fun e w' => e = .returned (.int .u32 ((sumL [z1, z2] : Nat) : Int)) ∧ w' = W.alloc (.cells #[.slice a z1.length cap, .slice b z2.length cap'] 23)) :=
    fun W hW => of_ref _ _ _ _ (Ps.two (r1.later hW) (r2.later hW) _ rfl)
  have Q1 : Hid (∀ W : World, Below w.heap.size w W → Calls Try.prog 21 #[.int .u32 ((sumL [z1, z2] : Nat) : Int), .slice b z2.length cap'] W fun e w' => e = .returned (.int .u32 ((add 0 z1 : Nat) : Int)) ∧ ∃ m, w' = W.drewN m) :=
    fun W hW => by have := back_word (sumL [z1, z2]) _ _ _ W (sumL_lt _) (r2.later hW); rwa [back_sums] at this
  have Q2 : Hid (∀ W : World, Below w.heap.size w W → Calls Try.prog 25 #[.slice a z1.length cap] W fun e w' => e = .returned (.int .u32 ((add 0 z1 : Nat) : Int)) ∧ w' = W) :=
    fun W hW => one_ref _ _ _ W (r1.later hW)
  clear r1 r2 hr hr' B1 hl2
  generalize z1.length = n1 at *
  generalize z2.length = n2 at *
  generalize sumL [z1, z2] = q at *
  generalize sumL [z1] = q1 at *
  generalize sumL [z2] = q2 at *
  generalize add 0 z1 = q3 at *
  generalize zs.length = m1 at *
  generalize ys.length = m2 at *
  go_enter Try.func7, Try.ntmps7
  go_wp2_with fail
  go_at_call 9
  refine C1.out.mono ?_
  rintro _ w1 ⟨rfl, hw⟩
  obtain rfl := hw.symm
  clear hw
  go_wp2_with fail
  go_at_call 9
  refine C2.out.mono ?_
  rintro _ w1 ⟨rfl, hw⟩
  obtain rfl := hw.symm
  clear hw
  go_wp2_with fail
  go_at_call 12
  refine O1.out.mono ?_
  rintro _ w1 ⟨rfl, hw⟩
  obtain rfl := hw.symm
  clear hw
  go_wp2_with fail
  go_at_call 12
  refine O2.out.mono ?_
  rintro _ w1 ⟨rfl, hw⟩
  obtain rfl := hw.symm
  clear hw
  generalize ((w.alloc (.cells #[.slice a n1 cap] 23)).alloc (.cells #[.slice b n2 cap'] 23)) = W2 at *
  go_wp2_with fail
  go_at_call 19
  refine (K.out _).mono ?_
  rintro _ w1 ⟨rfl, m, hw⟩
  have B3 : Below w.heap.size w w1 := by rw [hw]; exact bel_drewN B2.out m
  clear hw
  go_wp2_with fail
  go_at_call 13
  refine (P2.out _ B3).mono ?_
  rintro _ w2 ⟨rfl, hw⟩
  have B4 : Below w.heap.size w w2 := by rw [hw]; exact Bn B3 (bel_alloc _ _)
  clear hw
  go_wp2_with fail
  go_at_call 21
  refine (Q1.out _ B4).mono ?_
  rintro _ w3 ⟨rfl, m3, hw⟩
  have B5 : Below w.heap.size w w3 := by rw [hw]; exact bel_drewN B4 m3
  clear hw
  go_wp2_with fail
  go_at_call 25
  refine (Q2.out _ B5).mono ?_
  rintro _ w4 ⟨rfl, hw⟩
  obtain rfl := hw.symm
  clear hw
  go_wp2_with fail
  go_at_call 16
  refine (awake_any _).mono ?_
  rintro _ w5 ⟨rfl, hb5⟩
  go_wp2
  go_ret
  exact ⟨rfl, Bn B5 hb5⟩

theorem walk (a1 : Option Addr) (cap1 : Nat) (zs1 : List Nat) (a2 : Option Addr) (cap2 : Nat) (zs2 : List Nat) (w : World) (hr1 : Rd w (.slice a1 zs1.length cap1) a1 cap1 zs1) (hr2 : Rd w (.slice a2 zs2.length cap2) a2 cap2 zs2) :
    Calls Try.prog 7 #[.slice a1 zs1.length cap1, .slice a2 zs2.length cap2] w fun e w' => e = .returned (.bool true) ∧ Below w.heap.size w w' :=
  walk_rd a1 cap1 zs1 a2 cap2 zs2 w hr1 hr2

set_option maxRecDepth 100000 in
theorem lifted (os : Os) (started : os.Started) (H : Type) (enc : TypeId × Value → H) :
    ReturnsInHanded {} Try.checked os 7 .any (Rows.crcCatsSpec.pre6 enc Try.prog Try.f7 Rows.crcCatsRow.domain false) (Rows.crcCatsSpec.post enc Try.prog Try.f7 false true false false) := by
  refine returnsInHanded_of_change (C := Try.checked) own started (by kernel_rfl) Try.func7
    (ChangeSpec.witness6 (enc := enc) (C := Try.checked) false ⟨#[], #[.slice none 0 0, .slice none 0 0], []⟩ 8 (by kernel_rfl) (by kernel_rfl) (by kernel_rfl) (by kernel_rfl)) ?_
  intro W base args ds gs before hval0 hW _ _
  have hval : ∀ (j : Nat) t v, Try.f7.params[j]? = some t → args[j]? = some v → Value.okWide Try.prog W .any base t v := hval0
  have hW' := hW
  obtain ⟨p, q, hA0, hV, rfl, _, _⟩ := hW
  have hA : DataW.TrodAll enc Try.prog W 0 (fun _ => true) true Try.f7.params.toList args.toList ds p := hA0
  rw [Try.params7] at hA hval
  obtain ⟨v0, vs0, d0, ds0, p0, q0, hargs, rfl, rfl, h0, r0⟩ := trodAll_cons hA
  obtain ⟨v1, vs1, d1, ds1, p1, q1, rfl, rfl, rfl, h1, r1⟩ := trodAll_cons r0
  obtain ⟨rfl, rfl, rfl⟩ := trodAll_nil r1
  obtain rfl : args = #[v0, v1] := by cases args; simp_all
  obtain ⟨rfl, rfl⟩ := trodVars_none hV
  clear hA0
  simp only [List.append_nil] at hW'
  have hlt0 : ∀ x ∈ p0, x.block < W.heap.size := fun x hx => hW'.lt x (by simp [hx])
  have hk0 := h0
  obtain ⟨a0, cap0, zs0, rfl, hr0⟩ := open_rd (hval 0 23 v0 rfl rfl) h0 hlt0
  have hlt1 : ∀ x ∈ p1, x.block < W.heap.size := fun x hx => hW'.lt x (by simp [hx])
  have hk1 := h1
  obtain ⟨a1, cap1, zs1, rfl, hr1⟩ := open_rd (hval 1 23 v1 rfl rfl) h1 hlt1
  clear hval0
  refine (walk a0 cap0 zs0 a1 cap1 zs1 W hr0 hr1).mono fun e W' ⟨he, hb⟩ => ?_
  subst he
  exact ⟨_, rfl, _, _, _, [] ++ [], _, [], hW', trodAll_cons_mk (shut_bool Try.underlying4 _) trodAll_mk0, (trodAll_cons_mk (Below.trod Try.laidOut (by kernel_rfl) (of_decide_eq_true (by kernel_rfl)) hk0 hb hlt0) (trodAll_cons_mk (Below.trod Try.laidOut (by kernel_rfl) (of_decide_eq_true (by kernel_rfl)) hk1 hb hlt1) trodAll_mk0)), rfl, hb.frame _, fun h => by cases h⟩

theorem over : Rows.crcCatsRow.holds Try.pinned (OpenSpec.ofChange Rows.crcCatsSpec) :=
  OpenClaim.holds_of_wide 7 Try.f7 rfl rfl rfl rfl rfl rfl rfl ⟨rfl, rfl, rfl, rfl, rfl⟩ rfl rfl rfl rfl rfl (by kernel_rfl) Try.func7 (by kernel_rfl)
    (of_decide_eq_true (by kernel_rfl)) (by unfold Func.isWrapper; first | (rw [if_pos (by decide +kernel)]; kernel_rfl) | (rw [if_neg (by decide +kernel)]; exact ⟨rfl, rfl⟩))
    (fun os started H enc _ => lifted os started H enc)

end Go.Proofs.Ytohbghniangknaa.crcCats
namespace Go.Proofs.Ytohbghniangknaa
theorem crcCats_holds : Rows.CrcCatsSaid := crcCats.over
#print axioms crcCats_holds
end Go.Proofs.Ytohbghniangknaa
