/-
  LzChecks is proved for every input: Check tells which tokens may be and Size how many bytes any of them make, as the document says; no condition.
-/
import Derived.Test.YtgdlmhgjhmcilaaAwake
import Derived.Test.YtgdlmhgjhmcilaaOrd
namespace Go.Proofs.Ytgdlmhgjhmcilaa.lzChecks
open Go.ChangeShapes Go.WideShapes Go.ChangeAt Go.RowKit Lz

theorem run_load_op {P : Program} {ρ : Operand → Value} {o : Oper} {t : TypeId} {x : Operand} {p v : Value} {w : World} (ho : o.op = .load t x) (hx : ρ x = p) (h : (Instr.loadAt t p).run P w = .ok v w) : (execOp ρ o).run P w = .ok (.value v) w := by
  unfold execOp
  rw [ho]
  simp [hx, h, Result.andThen]
theorem load_tok {W : World} {B : Nat} {d n x : Int} (h : W.heap[B]? = some (.cells #[.int .i64 d, .int .i64 n, .int .u8 x] 23 (0, 0))) : (Instr.loadAt 23 (.pointer (some ⟨B, 0, none⟩))).run Try.prog W = .ok (.agg #[.int .i64 d, .int .i64 n, .int .u8 x]) W := by
  have := run_loadVar_row (P := Try.prog) W B 23 23 #[.int .i64 d, .int .i64 n, .int .u8 x] (0, 0) _ h Try.underlying23 rfl (by kernel_rfl)
  simp [Instr.loadAt, Instr.sureAddr, this]
/-- An argument that is a token. -/
theorem open_tk {H : Type} {enc : TypeId × Value → H} {W : World} {base : Nat} {v : Value} {d : DataW H} {p : List MemPlace} (hv : Value.okWide Try.prog W .any base 23 v) (h : DataW.Trod enc Try.prog W 0 (fun _ => true) true 23 v d p) : ∃ t : Tkz, v = .agg (zC t) := by
  obtain ⟨v0, v1, v2, y0, y1, y2, n, rfl, _, _, g0, g1, g2⟩ := Joins.open_agg3 Try.underlying23 (by kernel_rfl) Try.cells23 hv h
  obtain ⟨z0, e0, _, _⟩ := DataW.trod_int Try.underlying3 g0
  obtain ⟨z1, e1, _, _⟩ := DataW.trod_int Try.underlying3 g1
  obtain ⟨z2, e2, _, _⟩ := DataW.trod_int Try.underlying5 g2
  have e0' : v0 = .int .i64 z0 := by simpa using e0
  have e1' : v1 = .int .i64 z1 := by simpa using e1
  have e2' : v2 = .int .u8 z2 := by simpa using e2
  subst e0' e1' e2'
  exact ⟨(z0, z1, z2), rfl⟩

theorem own : ownKnob Try.prog.godebug = none := by kernel_rfl

set_option maxHeartbeats 1600000 in
set_option maxRecDepth 100000 in
theorem walk (t : Tkz) (a : Option Addr) (cap : Nat) (zs : List Tkz) (w : World) (hr : Rt w a cap zs) :
    Calls Try.prog 3 #[.agg (zC t), .slice a zs.length cap] w fun e w' => e = .returned (.bool true) ∧ Below w.heap.size w w' := by
  have hb0 := bel_alloc w (.cells (zC t) 23)
  have C1 := hid (few_any a cap zs _ (hr.later hb0))
  have r1 := (hr.later hb0).take 400
  have hn : (zs.take 400).length ≤ 400 := List.length_take_le _ _
  generalize zs.take 400 = l at *
  have HC := hid (size_word a cap l _ r1 hn)
  have HD : Hid (∀ W, Below (w.alloc (.cells (zC t) 23)).heap.size (w.alloc (.cells (zC t) 23)) W → Calls Try.prog 11 #[.slice a l.length cap] W fun e w' => e = .returned (.tuple #[.int .i64 (sizeO l).1, .int .i64 (sizeO l).2]) ∧ Below W.heap.size W w') := fun W hW => size_ref a cap l W (r1.later hW) hn
  have HK := hid (fun W => check_word t W)
  have HKR := hid (fun W => check_ref t W)
  clear hr r1 hn
  generalize sizeO l = o at *
  obtain ⟨s, f⟩ := o
  generalize chkZ t = c at *
  obtain ⟨d, n, x⟩ := t
  unfold zC at *
  dsimp only at *
  have e1 : (f == f) = true := by simp
  have e2 : (s == s) = true := by simp
  have e3 : (c == c) = true := by simp
  have HB0 := hid hb0
  have e0 : (w.alloc (.cells #[.int .i64 d, .int .i64 n, .int .u8 x] 23)).heap[w.heap.size]? = some (.cells #[.int .i64 d, .int .i64 n, .int .u8 x] 23 (0, 0)) := heap_new _ _
  have HE0 := hid e0
  clear hb0 e0
  generalize zs.length = L0 at *
  generalize l.length = L at *
  go_enter Try.func3, Try.ntmps3
  go_wp2_with fail
  refine C1.out.mono ?_
  rintro _ w0 ⟨rfl, hw⟩
  subst hw
  clear C1
  go_wp2_with fail
  refine HC.out.mono ?_
  rintro _ w1 ⟨rfl, hb1⟩
  have HDD := hid (HD.out w1 hb1)
  have HB1 := hid hb1
  clear hb1 HC HD
  go_wp2_with fail
  refine HDD.out.mono ?_
  rintro _ V ⟨rfl, hb2⟩
  have eV := ((Bn HB1.out hb2).block w.heap.size (by simp)).trans HE0.out
  have HBV := hid (Bn HB0.out (Bn HB1.out hb2))
  have hlt := (Array.getElem?_eq_some_iff.1 eV).1
  have La : ∀ w' : World, Below V.heap.size V w' → (Instr.loadAt 23 (.pointer (some ⟨w.heap.size, 0, none⟩))).run Try.prog w' = .ok (.agg #[.int .i64 d, .int .i64 n, .int .u8 x]) w' := fun w' h => load_tok ((h.block _ hlt).trans eV)
  clear hb2 HDD HB1 HB0 HE0 eV
  go_wp2_with fail
  refine wp_region_held_drew (S := fun w' => Below V.heap.size V w') (by as_aux_lemma => kernel_rfl) (Below.refl _ _).drew (fun hS => ?_)
  refine Ord.take (i := 0) (d := 21) (v := .agg #[.int .i64 d, .int .i64 n, .int .u8 x]) rfl rfl (by as_aux_lemma => kernel_rfl) (by as_aux_lemma => kernel_rfl) (by as_aux_lemma => kernel_rfl) (fun _ _ _ h => h) (by rfl) ?h0 (by assumption) ?_
  case h0 => exact fun w' hSw => run_load_op (p := .pointer (some ⟨w.heap.size, 0, none⟩)) rfl rfl (La w' hSw)
  simp only [List.setIfInBounds_toArray, List.set_cons_zero, List.set_cons_succ]
  refine Ord.take (i := 2) (d := 23) (v := .agg #[.int .i64 d, .int .i64 n, .int .u8 x]) rfl rfl (by as_aux_lemma => kernel_rfl) (by as_aux_lemma => kernel_rfl) (by as_aux_lemma => kernel_rfl) (fun _ _ _ h => h) (by rfl) ?h2 (by assumption) ?_
  case h2 => exact fun w' hSw => run_load_op (p := .pointer (some ⟨w.heap.size, 0, none⟩)) rfl rfl (La w' hSw)
  simp only [List.setIfInBounds_toArray, List.set_cons_zero, List.set_cons_succ]
  refine wpAnyH_ready (rs := [1]) (by as_aux_lemma => kernel_rfl) (by simp) (AllReadyH.cons rfl (fun K hK => ?_) AllReadyH.nil)
  go_simp
  refine (HK.out _).mono ?_
  rintro _ x1 ⟨rfl, hb1⟩
  have hS1 := Bn hS hb1
  refine hK.out _ _ hS1 (fun _ => ?_)
  clear hK K hb1
  refine wpAnyH_ready (rs := [3]) (by as_aux_lemma => kernel_rfl) (by simp) (AllReadyH.cons rfl (fun K hK => ?_) AllReadyH.nil)
  go_simp
  refine (HKR.out _).mono ?_
  rintro _ x2 ⟨rfl, hb2⟩
  have hS2 := Bn hS1 hb2
  refine hK.out _ _ hS2 (fun _ => ?_)
  clear hK K hb2
  refine Ord.take (i := 4) (d := 25) (v := ?v4) rfl rfl (by as_aux_lemma => kernel_rfl) (by as_aux_lemma => kernel_rfl) (by as_aux_lemma => kernel_rfl) (fun _ _ _ h => h) (by rfl) ?h4 (by assumption) ?_
  case h4 => intro w hSw; go_simp; try with_reducible rfl
  simp only [List.setIfInBounds_toArray, List.set_cons_zero, List.set_cons_succ]
  refine Ord.take (i := 5) (d := 26) (v := ?v5) rfl rfl (by as_aux_lemma => kernel_rfl) (by as_aux_lemma => kernel_rfl) (by as_aux_lemma => kernel_rfl) (fun _ _ _ h => h) (by rfl) ?h5 (by assumption) ?_
  case h5 => intro w hSw; go_simp; try with_reducible rfl
  simp only [List.setIfInBounds_toArray, List.set_cons_zero, List.set_cons_succ]
  refine Ord.take (i := 6) (d := 27) (v := ?v6) rfl rfl (by as_aux_lemma => kernel_rfl) (by as_aux_lemma => kernel_rfl) (by as_aux_lemma => kernel_rfl) (fun _ _ _ h => h) (by rfl) ?h6 (by assumption) ?_
  case h6 => intro w hSw; go_simp; try with_reducible rfl
  simp only [List.setIfInBounds_toArray, List.set_cons_zero, List.set_cons_succ]
  refine Ord.take (i := 7) (d := 28) (v := ?v7) rfl rfl (by as_aux_lemma => kernel_rfl) (by as_aux_lemma => kernel_rfl) (by as_aux_lemma => kernel_rfl) (fun _ _ _ h => h) (by rfl) ?h7 (by assumption) ?_
  case h7 => intro w hSw; go_simp; try with_reducible rfl
  simp only [List.setIfInBounds_toArray, List.set_cons_zero, List.set_cons_succ]
  refine Ord.take (i := 8) (d := 29) (v := ?v8) rfl rfl (by as_aux_lemma => kernel_rfl) (by as_aux_lemma => kernel_rfl) (by as_aux_lemma => kernel_rfl) (fun _ _ _ h => h) (by rfl) ?h8 (by assumption) ?_
  case h8 => intro w hSw; go_simp; try with_reducible rfl
  simp only [List.setIfInBounds_toArray, List.set_cons_zero, List.set_cons_succ]
  refine Ord.take (i := 9) (d := 30) (v := ?v9) rfl rfl (by as_aux_lemma => kernel_rfl) (by as_aux_lemma => kernel_rfl) (by as_aux_lemma => kernel_rfl) (fun _ _ _ h => h) (by rfl) ?h9 (by assumption) ?_
  case h9 => intro w hSw; go_simp; try with_reducible rfl
  simp only [List.setIfInBounds_toArray, List.set_cons_zero, List.set_cons_succ]
  refine Ord.take (i := 10) (d := 31) (v := ?v10) rfl rfl (by as_aux_lemma => kernel_rfl) (by as_aux_lemma => kernel_rfl) (by as_aux_lemma => kernel_rfl) (fun _ _ _ h => h) (by rfl) ?h10 (by assumption) ?_
  case h10 => intro w hSw; go_simp; try with_reducible rfl
  simp only [List.setIfInBounds_toArray, List.set_cons_zero, List.set_cons_succ]
  refine Ord.take (i := 11) (d := 32) (v := ?v11) rfl rfl (by as_aux_lemma => kernel_rfl) (by as_aux_lemma => kernel_rfl) (by as_aux_lemma => kernel_rfl) (fun _ _ _ h => h) (by rfl) ?h11 (by assumption) ?_
  case h11 => intro w hSw; go_simp; try with_reducible rfl
  simp only [List.setIfInBounds_toArray, List.set_cons_zero, List.set_cons_succ]
  refine Ord.take (i := 12) (d := 33) (v := ?v12) rfl rfl (by as_aux_lemma => kernel_rfl) (by as_aux_lemma => kernel_rfl) (by as_aux_lemma => kernel_rfl) (fun _ _ _ h => h) (by rfl) ?h12 (by assumption) ?_
  case h12 => intro w hSw; go_simp; try with_reducible rfl
  simp only [List.setIfInBounds_toArray, List.set_cons_zero, List.set_cons_succ]
  refine Ord.take (i := 13) (d := 34) (v := ?v13) rfl rfl (by as_aux_lemma => kernel_rfl) (by as_aux_lemma => kernel_rfl) (by as_aux_lemma => kernel_rfl) (fun _ _ _ h => h) (by rfl) ?h13 (by assumption) ?_
  case h13 => intro w hSw; go_simp; try with_reducible rfl
  simp only [List.setIfInBounds_toArray, List.set_cons_zero, List.set_cons_succ]
  refine Ord.take (i := 14) (d := 35) (v := ?v14) rfl rfl (by as_aux_lemma => kernel_rfl) (by as_aux_lemma => kernel_rfl) (by as_aux_lemma => kernel_rfl) (fun _ _ _ h => h) (by rfl) ?h14 (by assumption) ?_
  case h14 => intro w hSw; go_simp; try with_reducible rfl
  simp only [List.setIfInBounds_toArray, List.set_cons_zero, List.set_cons_succ]
  refine Ord.take (i := 15) (d := 36) (v := ?v15) rfl rfl (by as_aux_lemma => kernel_rfl) (by as_aux_lemma => kernel_rfl) (by as_aux_lemma => kernel_rfl) (fun _ _ _ h => h) (by rfl) ?h15 (by assumption) ?_
  case h15 => intro w hSw; go_simp; try with_reducible rfl
  simp only [List.setIfInBounds_toArray, List.set_cons_zero, List.set_cons_succ]
  refine wpAnyH_ready (rs := [16]) (by as_aux_lemma => kernel_rfl) (by simp) (AllReadyH.cons rfl (fun K hK => ?_) AllReadyH.nil)
  go_simp
  refine (awake_any _).mono ?_
  rintro _ x3 ⟨rfl, hb3⟩
  have hS3 := Bn hS2 hb3
  refine hK.out _ _ hS3 (fun _ => ?_)
  clear hK K hb3
  refine Ord.take (i := 17) (d := 38) (v := ?v17) rfl rfl (by as_aux_lemma => kernel_rfl) (by as_aux_lemma => kernel_rfl) (by as_aux_lemma => kernel_rfl) (fun _ _ _ h => h) (by rfl) ?h17 (by assumption) ?_
  case h17 => intro w hSw; go_simp; try with_reducible rfl
  simp only [List.setIfInBounds_toArray, List.set_cons_zero, List.set_cons_succ]
  refine Ord.take (i := 18) (d := 4) (v := ?v18) rfl rfl (by as_aux_lemma => kernel_rfl) (by as_aux_lemma => kernel_rfl) (by as_aux_lemma => kernel_rfl) (fun _ _ _ h => h) (by rfl) ?h18 (by assumption) ?_
  case h18 => intro w hSw; go_simp; try with_reducible rfl
  simp only [List.setIfInBounds_toArray, List.set_cons_zero, List.set_cons_succ]
  refine wpAnyH_done (by as_aux_lemma => kernel_rfl) ?_ _
  have HE := hid (Bn HBV.out hS3)
  clear hS hS1 hS2 hS3 La
  go_wp2
  go_ret
  exact ⟨rfl, HE.out⟩

set_option maxRecDepth 100000 in
theorem lifted (os : Os) (started : os.Started) (H : Type) (enc : TypeId × Value → H) :
    ReturnsInHanded {} Try.checked os 3 .any (Rows.lzChecksSpec.pre6 enc Try.prog Try.f3 Rows.lzChecksRow.domain false) (Rows.lzChecksSpec.post enc Try.prog Try.f3 false true false false) := by
  refine returnsInHanded_of_change (C := Try.checked) own started (by kernel_rfl) Try.func3
    (ChangeSpec.witness6 (enc := enc) (C := Try.checked) false ⟨#[], #[.agg #[.int .i64 0, .int .i64 0, .int .u8 0], .slice none 0 0], []⟩ 8 (by kernel_rfl) (by kernel_rfl) (by kernel_rfl) (by kernel_rfl)) ?_
  intro W base args ds gs before hval0 hW _ _
  have hval : ∀ (j : Nat) t v, Try.f3.params[j]? = some t → args[j]? = some v → Value.okWide Try.prog W .any base t v := hval0
  have hW' := hW
  obtain ⟨p, q, hA0, hV, rfl, _, _⟩ := hW
  have hA : DataW.TrodAll enc Try.prog W 0 (fun _ => true) true Try.f3.params.toList args.toList ds p := hA0
  rw [Try.params3] at hA hval
  obtain ⟨v0, vs0, d0, ds0, p0, q0, hargs, rfl, rfl, h0, r0⟩ := trodAll_cons hA
  obtain ⟨v1, vs1, d1, ds1, p1, q1, rfl, rfl, rfl, h1, r1⟩ := trodAll_cons r0
  obtain ⟨rfl, rfl, rfl⟩ := trodAll_nil r1
  obtain rfl : args = #[v0, v1] := by cases args; simp_all
  obtain ⟨rfl, rfl⟩ := trodVars_none hV
  clear hA0
  simp only [List.append_nil] at hW'
  have hlt0 : ∀ x ∈ p0, x.block < W.heap.size := fun x hx => hW'.lt x (by simp [hx])
  have hk0 := h0
  obtain ⟨t0, rfl⟩ := open_tk (hval 0 23 v0 rfl rfl) h0
  have hlt1 : ∀ x ∈ p1, x.block < W.heap.size := fun x hx => hW'.lt x (by simp [hx])
  have hk1 := h1
  obtain ⟨a1, cap1, zs1, rfl, hr1⟩ := open_rt (hval 1 24 v1 rfl rfl) h1 hlt1
  clear hval0
  refine (walk t0 a1 cap1 zs1 W hr1).mono fun e W' ⟨he, hb⟩ => ?_
  subst he
  exact ⟨_, rfl, _, _, _, [] ++ [], _, [], hW', trodAll_cons_mk (shut_bool Try.underlying4 _) trodAll_mk0, (trodAll_cons_mk (Below.trod Try.laidOut (by kernel_rfl) (of_decide_eq_true (by kernel_rfl)) hk0 hb hlt0) (trodAll_cons_mk (Below.trod Try.laidOut (by kernel_rfl) (of_decide_eq_true (by kernel_rfl)) hk1 hb hlt1) trodAll_mk0)), rfl, hb.frame _, fun h => by cases h⟩

theorem over : Rows.lzChecksRow.holds Try.pinned (OpenSpec.ofChange Rows.lzChecksSpec) :=
  OpenClaim.holds_of_wide 3 Try.f3 rfl rfl rfl rfl rfl rfl rfl ⟨rfl, rfl, rfl, rfl, rfl⟩ rfl rfl rfl rfl rfl (by kernel_rfl) Try.func3 (by kernel_rfl)
    (of_decide_eq_true (by kernel_rfl)) (by unfold Func.isWrapper; first | (rw [if_pos (by decide +kernel)]; kernel_rfl) | (rw [if_neg (by decide +kernel)]; exact ⟨rfl, rfl⟩))
    (fun os started H enc _ => lifted os started H enc)

end Go.Proofs.Ytgdlmhgjhmcilaa.lzChecks
namespace Go.Proofs.Ytgdlmhgjhmcilaa
theorem lzChecks_holds : Rows.LzChecksSaid := lzChecks.over
#print axioms lzChecks_holds
end Go.Proofs.Ytgdlmhgjhmcilaa
