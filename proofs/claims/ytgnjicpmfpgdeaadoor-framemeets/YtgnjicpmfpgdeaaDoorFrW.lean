/-
  A frame's bytes: frame's written.
-/
import Derived.Test.YtgnjicpmfpgdeaaDoorFrC
namespace Go.Proofs.YtgnjicpmfpgdeaaDoor
open Go.ChangeShapes Go.WideShapes Go.ChangeAt Go.RowKit Go.Deep Go.Lib

theorem wf_u64 {x : Int} (h : (Lit.int .u64 x).wf = true) : 0 ≤ x ∧ x < 18446744073709551616 := by
  have h1 : IntKind.u64.min = 0 := rfl
  have h2 : IntKind.u64.max = 18446744073709551615 := rfl
  simp only [Lit.wf, Bool.and_eq_true, decide_eq_true_eq] at h
  omega
theorem wrF_len (f : Fr) : (wrF f).length ≤ f.body.length + 66 := by
  have hv : ∀ x : Int, (vint x).length ≤ 10 := fun x => by
    have : ∀ g (y : Int), (vintL g y).length ≤ g + 1 := by
      intro g
      induction g with
      | zero => intro y; unfold vintL; simp
      | succ g ih => intro y; unfold vintL; split; simp; have := ih (y / 128); simp; omega
    exact this 9 x
  have h1 := hv f.ep
  have h2 := hv f.n
  have h3 := hv f.all
  have h4 := hv (f.body.length : Int)
  unfold wrF
  simp only [List.length_append, B8_len, List.length_cons, List.length_nil]
  omega
theorem flat9_len (f : Fr) : [nats [70, f.fr], nats (vint f.ep), nats (B8 f.me), nats (B8 f.yo), nats (vint f.n), nats (vint f.all), nats (B8 f.more), nats (vint (f.body.length : Int)), nats f.body].flatten.length ≤ f.body.length + 66 := by
  rw [nats_flat, nats_len]
  exact wrF_len f
set_option maxHeartbeats 25600000 in
set_option maxRecDepth 100000 in
theorem written_word (f : Fr) (w : World) (hf : Fv w f) (hn : f.a = none → f.cap = 0) (hm : mayF f = true) :
    Calls Tryd.prog 26 #[.agg f.cs.toArray] w fun e w' => ∃ a c, e = .returned (.slice a (nats (wrF f)).length c) ∧ Sh.Rd w' (.slice a (nats (wrF f)).length c) a c (nats (wrF f)) ∧ Below w.heap.size w w' := by
  have hmm := hm
  unfold mayF up at hmm
  simp only [Bool.and_eq_true, decide_eq_true_eq] at hmm
  obtain ⟨h0, h1, _, h4, h6, h5, _⟩ := hmm
  have HB1 := hid (bel_alc w (.cells f.cs.toArray 25))
  have hbx := heap_alc w (.cells f.cs.toArray 25)
  obtain ⟨W1, hW1⟩ : ∃ W1, W1 = w.alloc (.cells f.cs.toArray 25) := ⟨_, rfl⟩
  rw [← hW1] at HB1 hbx
  have HW1 := hid hW1
  have HR := hid (fun X (hX : Below W1.heap.size W1 X) => blk_range (blk_later hbx hX))
  have HC0 := hid (fun X (hX : Below W1.heap.size W1 X) => Fr.c0 (HR.out X hX))
  have HC1 := hid (fun X (hX : Below W1.heap.size W1 X) => Fr.c1 (HR.out X hX))
  have HC2 := hid (fun X (hX : Below W1.heap.size W1 X) => Fr.c2 (HR.out X hX))
  have HC3 := hid (fun X (hX : Below W1.heap.size W1 X) => Fr.c3 (HR.out X hX))
  have HC4 := hid (fun X (hX : Below W1.heap.size W1 X) => Fr.c4 (HR.out X hX))
  have HC5 := hid (fun X (hX : Below W1.heap.size W1 X) => Fr.c5 (HR.out X hX))
  have HC6 := hid (fun X (hX : Below W1.heap.size W1 X) => Fr.c6 (HR.out X hX))
  have HC7 := hid (fun X (hX : Below W1.heap.size W1 X) => Fr.c7 (HR.out X hX))
  have HBR := hid (fun X (hX : Below W1.heap.size W1 X) => (hf.row.rdN hn).later (Bn HB1.out hX))
  have hme := wf_u64 hf.me
  have hyo := wf_u64 hf.yo
  have hmo := wf_u64 hf.more
  have HV1 := hid (fun V => vrd_word f.ep V (by omega) (by omega))
  have HL2 := hid (fun V => long_word f.me V (by omega) (by omega))
  have HL3 := hid (fun V => long_word f.yo V (by omega) (by omega))
  have HV4 := hid (fun V => vrd_word f.n V (by omega) (by omega))
  have HV6 := hid (fun V => vrd_word f.all V (by omega) (by omega))
  have HL7 := hid (fun V => long_word f.more V (by omega) (by omega))
  have HV8 := hid (fun V => vrd_word (f.body.length : Int) V (by omega) (by omega))
  have hw0 : IntKind.u8.wrap f.fr = f.fr := by rw [IntKind.wrap_u8]; omega
  have hw1 : IntKind.u64.wrap f.ep = f.ep := by rw [IntKind.wrap_u64]; omega
  have hw4 : IntKind.u64.wrap f.n = f.n := by rw [IntKind.wrap_u64]; omega
  have hw6 : IntKind.u64.wrap f.all = f.all := by rw [IntKind.wrap_u64]; omega
  have hw8 : IntKind.u64.wrap (f.body.length : Int) = (f.body.length : Int) := by rw [IntKind.wrap_u64]; omega
  have HW0 := hid hw0
  have HW1' := hid hw1
  have HW4 := hid hw4
  have HW6 := hid hw6
  have HW8 := hid hw8
  have H2R := hid (fun V => two_rd V f.fr h0)
  have hfl := nats_flat f
  have hfn := flat9_len f
  have HZ := hid (show ∀ j, (nats (wrF f)).getD j 0 < 256 from fun j => by
    have := wf_u8 (wf_all (wrF_u8 h0 h1 h4 h6 h5 (all_u8 hf.row.fits)) j)
    rw [nats_get]; omega)
  obtain ⟨b, hb⟩ : ∃ b, b = nats f.body := ⟨_, rfl⟩
  rw [← hb] at hfl hfn HBR
  obtain ⟨bn, hbn⟩ : ∃ n, n = f.body.length := ⟨_, rfl⟩
  rw [← hbn] at HC5 HV8 HW8 HBR hfl hfn h5
  obtain ⟨x0, hx0⟩ : ∃ z, z = f.fr := ⟨_, rfl⟩
  rw [← hx0] at HC0 HW0 H2R hfl hfn
  obtain ⟨x1, hx1⟩ : ∃ z, z = f.ep := ⟨_, rfl⟩
  rw [← hx1] at HC1 HW1' HV1 hfl hfn
  obtain ⟨x2, hx2⟩ : ∃ z, z = f.me := ⟨_, rfl⟩
  rw [← hx2] at HC2 HL2 hfl hfn
  obtain ⟨x3, hx3⟩ : ∃ z, z = f.yo := ⟨_, rfl⟩
  rw [← hx3] at HC3 HL3 hfl hfn
  obtain ⟨x4, hx4⟩ : ∃ z, z = f.n := ⟨_, rfl⟩
  rw [← hx4] at HC4 HW4 HV4 hfl hfn
  obtain ⟨x6, hx6⟩ : ∃ z, z = f.all := ⟨_, rfl⟩
  rw [← hx6] at HC6 HW6 HV6 hfl hfn
  obtain ⟨x7, hx7⟩ : ∃ z, z = f.more := ⟨_, rfl⟩
  rw [← hx7] at HC7 HL7 hfl hfn
  obtain ⟨Z, hZ⟩ : ∃ Z, Z = nats (wrF f) := ⟨_, rfl⟩
  rw [← hZ] at HZ hfl ⊢
  have HCAT := hid (fun (V : World) (g : Nat) (vs : List Value) (hV : V.heap[g]? = some (.cells vs.toArray 22)) (hvl : vs.length = 9)
    (hj : ∀ j, j < 9 → ∃ a c, Sh.Rd V (vs.getD j undef) a c (([nats [70, x0], nats (vint x1), nats (B8 x2), nats (B8 x3), nats (vint x4), nats (vint x6), nats (B8 x7), nats (vint (bn : Int)), b] : List (List Nat)).getD j [])) =>
    (show Calls Tryd.prog 37 #[.slice (some ⟨g, 0, none⟩) 9 9] V fun e w' => ∃ a c, e = .returned (.slice a Z.length c) ∧ Sh.Rd w' (.slice a Z.length c) a c Z ∧ Below V.heap.size V w' from by
      have hp := Ps.at (L := [nats [70, x0], nats (vint x1), nats (B8 x2), nats (B8 x3), nats (vint x4), nats (vint x6), nats (B8 x7), nats (vint (bn : Int)), b]) hV hvl (show 9 ≤ 100 by decide) hj
      refine (Sh.concat_any _ _ _ V hp (by omega)).mono fun e w' ⟨v, he, ho, hbl⟩ => ?_
      rw [hfl] at ho
      obtain ⟨a, c, hv, hrd⟩ := Sh.rd_any ho rfl HZ.out
      exact ⟨a, c, by rw [he, hv], hrd, hbl⟩))
  clear hbx hW1 hf hn hm hme hyo hmo hw0 hw1 hw4 hw6 hw8 hfl hfn hb hbn hx0 hx1 hx2 hx3 hx4 hx6 hx7 hZ h0 h1 h4 h6 h5 HR HZ
  generalize B8 x2 = l2 at *
  generalize B8 x3 = l3 at *
  generalize B8 x7 = l7 at *
  obtain ⟨k1, hv1⟩ : ∃ v, v = vint x1 := ⟨_, rfl⟩
  rw [← hv1] at HV1 HCAT
  obtain ⟨k4, hv4⟩ : ∃ v, v = vint x4 := ⟨_, rfl⟩
  rw [← hv4] at HV4 HCAT
  obtain ⟨k6, hv6⟩ : ∃ v, v = vint x6 := ⟨_, rfl⟩
  rw [← hv6] at HV6 HCAT
  obtain ⟨k8, hv8⟩ : ∃ v, v = vint (bn : Int) := ⟨_, rfl⟩
  rw [← hv8] at HV8 HCAT
  clear hv1 hv4 hv6 hv8
  go_enter Tryd.func26, Tryd.ntmps26
  go_wp2_with fail
  rw [← HW1.out]
  refine wp_region_held_drew (S := fun X => Below W1.heap.size W1 X) (by kernel_rfl) (Below.refl _ _).drew (fun hS_v0 => ?_)
  have hd_v0 : Below W1.heap.size W1 W1.drew := (Below.refl _ _).drew
  generalize W1.drew = v0 at *
  simp only [List.size_toArray, List.length_cons, List.length_nil, Nat.reduceAdd]
  clear hd_v0
  refine Ord.take (i := 0) (d := 3) (v := ?vW0) rfl rfl (by as_aux_lemma => kernel_rfl) (by as_aux_lemma => kernel_rfl) (by as_aux_lemma => kernel_rfl) (fun _ _ _ h => h) (by rfl) ?hW0 (by assumption) ?_
  case hW0 => intro wx hSw; go_simp; try with_reducible rfl
  try simp only [List.setIfInBounds_toArray, List.set_cons_zero, List.set_cons_succ]
  refine Ord.take (i := 1) (d := 4) (v := .int .i64 x0) rfl rfl (by as_aux_lemma => kernel_rfl) (by as_aux_lemma => kernel_rfl) (by as_aux_lemma => kernel_rfl) (fun _ _ _ h => h) (by rfl) ?hW1 (by assumption) ?_
  case hW1 => intro wx hSw; have hc := HC0.out _ hSw; go_simp; try with_reducible rfl
  try simp only [List.setIfInBounds_toArray, List.set_cons_zero, List.set_cons_succ]
  refine Ord.take (i := 2) (d := 5) (v := .int .u8 x0) rfl rfl (by as_aux_lemma => kernel_rfl) (by as_aux_lemma => kernel_rfl) (by as_aux_lemma => kernel_rfl) (fun _ _ _ h => h) (by rfl) ?hW2 (by assumption) ?_
  case hW2 => intro wx hSw; have hw := HW0.out; go_simp; try with_reducible rfl
  try simp only [List.setIfInBounds_toArray, List.set_cons_zero, List.set_cons_succ]
  refine Ord.take (i := 4) (d := 7) (v := ?vW4) rfl rfl (by as_aux_lemma => kernel_rfl) (by as_aux_lemma => kernel_rfl) (by as_aux_lemma => kernel_rfl) (fun _ _ _ h => h) (by rfl) ?hW4 (by assumption) ?_
  case hW4 => intro wx hSw; go_simp; try with_reducible rfl
  try simp only [List.setIfInBounds_toArray, List.set_cons_zero, List.set_cons_succ]
  refine Ord.take (i := 5) (d := 8) (v := .int .i64 x1) rfl rfl (by as_aux_lemma => kernel_rfl) (by as_aux_lemma => kernel_rfl) (by as_aux_lemma => kernel_rfl) (fun _ _ _ h => h) (by rfl) ?hW5 (by assumption) ?_
  case hW5 => intro wx hSw; have hc := HC1.out _ hSw; go_simp; try with_reducible rfl
  try simp only [List.setIfInBounds_toArray, List.set_cons_zero, List.set_cons_succ]
  refine Ord.take (i := 6) (d := 9) (v := .int .u64 x1) rfl rfl (by as_aux_lemma => kernel_rfl) (by as_aux_lemma => kernel_rfl) (by as_aux_lemma => kernel_rfl) (fun _ _ _ h => h) (by rfl) ?hW6 (by assumption) ?_
  case hW6 => intro wx hSw; have hw := HW1'.out; go_simp; try with_reducible rfl
  try simp only [List.setIfInBounds_toArray, List.set_cons_zero, List.set_cons_succ]
  refine Ord.take (i := 8) (d := 11) (v := ?vW8) rfl rfl (by as_aux_lemma => kernel_rfl) (by as_aux_lemma => kernel_rfl) (by as_aux_lemma => kernel_rfl) (fun _ _ _ h => h) (by rfl) ?hW8 (by assumption) ?_
  case hW8 => intro wx hSw; go_simp; try with_reducible rfl
  try simp only [List.setIfInBounds_toArray, List.set_cons_zero, List.set_cons_succ]
  refine Ord.take (i := 9) (d := 12) (v := .int .u64 x2) rfl rfl (by as_aux_lemma => kernel_rfl) (by as_aux_lemma => kernel_rfl) (by as_aux_lemma => kernel_rfl) (fun _ _ _ h => h) (by rfl) ?hW9 (by assumption) ?_
  case hW9 => intro wx hSw; have hc := HC2.out _ hSw; go_simp; try with_reducible rfl
  try simp only [List.setIfInBounds_toArray, List.set_cons_zero, List.set_cons_succ]
  refine Ord.take (i := 11) (d := 14) (v := ?vW11) rfl rfl (by as_aux_lemma => kernel_rfl) (by as_aux_lemma => kernel_rfl) (by as_aux_lemma => kernel_rfl) (fun _ _ _ h => h) (by rfl) ?hW11 (by assumption) ?_
  case hW11 => intro wx hSw; go_simp; try with_reducible rfl
  try simp only [List.setIfInBounds_toArray, List.set_cons_zero, List.set_cons_succ]
  refine Ord.take (i := 12) (d := 15) (v := .int .u64 x3) rfl rfl (by as_aux_lemma => kernel_rfl) (by as_aux_lemma => kernel_rfl) (by as_aux_lemma => kernel_rfl) (fun _ _ _ h => h) (by rfl) ?hW12 (by assumption) ?_
  case hW12 => intro wx hSw; have hc := HC3.out _ hSw; go_simp; try with_reducible rfl
  try simp only [List.setIfInBounds_toArray, List.set_cons_zero, List.set_cons_succ]
  refine Ord.take (i := 14) (d := 17) (v := ?vW14) rfl rfl (by as_aux_lemma => kernel_rfl) (by as_aux_lemma => kernel_rfl) (by as_aux_lemma => kernel_rfl) (fun _ _ _ h => h) (by rfl) ?hW14 (by assumption) ?_
  case hW14 => intro wx hSw; go_simp; try with_reducible rfl
  try simp only [List.setIfInBounds_toArray, List.set_cons_zero, List.set_cons_succ]
  refine Ord.take (i := 15) (d := 18) (v := .int .i64 x4) rfl rfl (by as_aux_lemma => kernel_rfl) (by as_aux_lemma => kernel_rfl) (by as_aux_lemma => kernel_rfl) (fun _ _ _ h => h) (by rfl) ?hW15 (by assumption) ?_
  case hW15 => intro wx hSw; have hc := HC4.out _ hSw; go_simp; try with_reducible rfl
  try simp only [List.setIfInBounds_toArray, List.set_cons_zero, List.set_cons_succ]
  refine Ord.take (i := 16) (d := 19) (v := .int .u64 x4) rfl rfl (by as_aux_lemma => kernel_rfl) (by as_aux_lemma => kernel_rfl) (by as_aux_lemma => kernel_rfl) (fun _ _ _ h => h) (by rfl) ?hW16 (by assumption) ?_
  case hW16 => intro wx hSw; have hw := HW4.out; go_simp; try with_reducible rfl
  try simp only [List.setIfInBounds_toArray, List.set_cons_zero, List.set_cons_succ]
  refine Ord.take (i := 18) (d := 21) (v := ?vW18) rfl rfl (by as_aux_lemma => kernel_rfl) (by as_aux_lemma => kernel_rfl) (by as_aux_lemma => kernel_rfl) (fun _ _ _ h => h) (by rfl) ?hW18 (by assumption) ?_
  case hW18 => intro wx hSw; go_simp; try with_reducible rfl
  try simp only [List.setIfInBounds_toArray, List.set_cons_zero, List.set_cons_succ]
  refine Ord.take (i := 19) (d := 22) (v := .int .i64 x6) rfl rfl (by as_aux_lemma => kernel_rfl) (by as_aux_lemma => kernel_rfl) (by as_aux_lemma => kernel_rfl) (fun _ _ _ h => h) (by rfl) ?hW19 (by assumption) ?_
  case hW19 => intro wx hSw; have hc := HC6.out _ hSw; go_simp; try with_reducible rfl
  try simp only [List.setIfInBounds_toArray, List.set_cons_zero, List.set_cons_succ]
  refine Ord.take (i := 20) (d := 23) (v := .int .u64 x6) rfl rfl (by as_aux_lemma => kernel_rfl) (by as_aux_lemma => kernel_rfl) (by as_aux_lemma => kernel_rfl) (fun _ _ _ h => h) (by rfl) ?hW20 (by assumption) ?_
  case hW20 => intro wx hSw; have hw := HW6.out; go_simp; try with_reducible rfl
  try simp only [List.setIfInBounds_toArray, List.set_cons_zero, List.set_cons_succ]
  refine Ord.take (i := 22) (d := 25) (v := ?vW22) rfl rfl (by as_aux_lemma => kernel_rfl) (by as_aux_lemma => kernel_rfl) (by as_aux_lemma => kernel_rfl) (fun _ _ _ h => h) (by rfl) ?hW22 (by assumption) ?_
  case hW22 => intro wx hSw; go_simp; try with_reducible rfl
  try simp only [List.setIfInBounds_toArray, List.set_cons_zero, List.set_cons_succ]
  refine Ord.take (i := 23) (d := 26) (v := .int .u64 x7) rfl rfl (by as_aux_lemma => kernel_rfl) (by as_aux_lemma => kernel_rfl) (by as_aux_lemma => kernel_rfl) (fun _ _ _ h => h) (by rfl) ?hW23 (by assumption) ?_
  case hW23 => intro wx hSw; have hc := HC7.out _ hSw; go_simp; try with_reducible rfl
  try simp only [List.setIfInBounds_toArray, List.set_cons_zero, List.set_cons_succ]
  refine Ord.take (i := 25) (d := 28) (v := ?vW25) rfl rfl (by as_aux_lemma => kernel_rfl) (by as_aux_lemma => kernel_rfl) (by as_aux_lemma => kernel_rfl) (fun _ _ _ h => h) (by rfl) ?hW25 (by assumption) ?_
  case hW25 => intro wx hSw; go_simp; try with_reducible rfl
  try simp only [List.setIfInBounds_toArray, List.set_cons_zero, List.set_cons_succ]
  refine Ord.take (i := 26) (d := 29) (v := .slice f.a bn f.cap) rfl rfl (by as_aux_lemma => kernel_rfl) (by as_aux_lemma => kernel_rfl) (by as_aux_lemma => kernel_rfl) (fun _ _ _ h => h) (by rfl) ?hW26 (by assumption) ?_
  case hW26 => intro wx hSw; have hc := HC5.out _ hSw; go_simp; try with_reducible rfl
  try simp only [List.setIfInBounds_toArray, List.set_cons_zero, List.set_cons_succ]
  refine Ord.take (i := 27) (d := 30) (v := .int .i64 (bn : Int)) rfl rfl (by as_aux_lemma => kernel_rfl) (by as_aux_lemma => kernel_rfl) (by as_aux_lemma => kernel_rfl) (fun _ _ _ h => h) (by rfl) ?hW27 (by assumption) ?_
  case hW27 => intro wx hSw; go_simp; try with_reducible rfl
  try simp only [List.setIfInBounds_toArray, List.set_cons_zero, List.set_cons_succ]
  refine Ord.take (i := 28) (d := 31) (v := .int .u64 (bn : Int)) rfl rfl (by as_aux_lemma => kernel_rfl) (by as_aux_lemma => kernel_rfl) (by as_aux_lemma => kernel_rfl) (fun _ _ _ h => h) (by rfl) ?hW28 (by assumption) ?_
  case hW28 => intro wx hSw; have hw := HW8.out; go_simp; try with_reducible rfl
  try simp only [List.setIfInBounds_toArray, List.set_cons_zero, List.set_cons_succ]
  refine Ord.take (i := 30) (d := 33) (v := ?vW30) rfl rfl (by as_aux_lemma => kernel_rfl) (by as_aux_lemma => kernel_rfl) (by as_aux_lemma => kernel_rfl) (fun _ _ _ h => h) (by rfl) ?hW30 (by assumption) ?_
  case hW30 => intro wx hSw; go_simp; try with_reducible rfl
  try simp only [List.setIfInBounds_toArray, List.set_cons_zero, List.set_cons_succ]
  refine Ord.take (i := 31) (d := 34) (v := .slice f.a bn f.cap) rfl rfl (by as_aux_lemma => kernel_rfl) (by as_aux_lemma => kernel_rfl) (by as_aux_lemma => kernel_rfl) (fun _ _ _ h => h) (by rfl) ?hW31 (by assumption) ?_
  case hW31 => intro wx hSw; have hc := HC5.out _ hSw; go_simp; try with_reducible rfl
  try simp only [List.setIfInBounds_toArray, List.set_cons_zero, List.set_cons_succ]
  refine wpAnyH_ready (rs := [3, 7]) (by as_aux_lemma => kernel_rfl) (by simp) (AllReadyH.cons rfl (fun K hK => ?_) (AllReadyH.cons rfl (fun K hK => ?_) (AllReadyH.nil)))
  · try go_simp
    have hb := bel_alc v0 (.cells #[.int .u8 70, .int .u8 x0] 5)
    have hr := H2R.out v0
    have hS_v1 : Below W1.heap.size W1 (v0.alloc (.cells #[.int .u8 70, .int .u8 x0] 5)) := Bn hS_v0 hb
    have HD0 := hid hr
    clear hr hb
    refine hK.out _ _ hS_v1 (fun _ => ?_)
    clear hK K
    generalize v0.alloc (.cells #[.int .u8 70, .int .u8 x0] 5) = v1 at *
    obtain ⟨g0, hg0⟩ : ∃ g, g = v0.heap.size := ⟨_, rfl⟩
    rw [← hg0] at HD0 ⊢
    clear hg0
    try simp only [List.setIfInBounds_toArray, List.set_cons_zero, List.set_cons_succ]
    refine wpAnyH_ready (rs := [7]) (by as_aux_lemma => kernel_rfl) (by simp) (AllReadyH.cons rfl (fun K hK => ?_) (AllReadyH.nil))
    go_simp
    refine (HV1.out v1).mono ?_
    rintro _ v2 ⟨a1, c1, rfl, hr, hb⟩
    have hS_v2 : Below W1.heap.size W1 v2 := Bn hS_v1 hb
    replace HD0 := hid (HD0.out.later hb)
    have HD1 := hid hr
    clear hr hb
    refine hK.out _ _ hS_v2 (fun _ => ?_)
    clear hK K
    try simp only [List.setIfInBounds_toArray, List.set_cons_zero, List.set_cons_succ]
    refine wpAnyH_ready (rs := [10]) (by as_aux_lemma => kernel_rfl) (by simp) (AllReadyH.cons rfl (fun K hK => ?_) (AllReadyH.nil))
    go_simp
    refine (HL2.out v2).mono ?_
    rintro _ v3 ⟨a2, c2, rfl, hr, hb⟩
    have hS_v3 : Below W1.heap.size W1 v3 := Bn hS_v2 hb
    replace HD0 := hid (HD0.out.later hb)
    replace HD1 := hid (HD1.out.later hb)
    have HD2 := hid hr
    clear hr hb
    refine hK.out _ _ hS_v3 (fun _ => ?_)
    clear hK K
    try simp only [List.setIfInBounds_toArray, List.set_cons_zero, List.set_cons_succ]
    refine wpAnyH_ready (rs := [13]) (by as_aux_lemma => kernel_rfl) (by simp) (AllReadyH.cons rfl (fun K hK => ?_) (AllReadyH.nil))
    go_simp
    refine (HL3.out v3).mono ?_
    rintro _ v4 ⟨a3, c3, rfl, hr, hb⟩
    have hS_v4 : Below W1.heap.size W1 v4 := Bn hS_v3 hb
    replace HD0 := hid (HD0.out.later hb)
    replace HD1 := hid (HD1.out.later hb)
    replace HD2 := hid (HD2.out.later hb)
    have HD3 := hid hr
    clear hr hb
    refine hK.out _ _ hS_v4 (fun _ => ?_)
    clear hK K
    try simp only [List.setIfInBounds_toArray, List.set_cons_zero, List.set_cons_succ]
    refine wpAnyH_ready (rs := [17]) (by as_aux_lemma => kernel_rfl) (by simp) (AllReadyH.cons rfl (fun K hK => ?_) (AllReadyH.nil))
    go_simp
    refine (HV4.out v4).mono ?_
    rintro _ v5 ⟨a4, c4, rfl, hr, hb⟩
    have hS_v5 : Below W1.heap.size W1 v5 := Bn hS_v4 hb
    replace HD0 := hid (HD0.out.later hb)
    replace HD1 := hid (HD1.out.later hb)
    replace HD2 := hid (HD2.out.later hb)
    replace HD3 := hid (HD3.out.later hb)
    have HD4 := hid hr
    clear hr hb
    refine hK.out _ _ hS_v5 (fun _ => ?_)
    clear hK K
    try simp only [List.setIfInBounds_toArray, List.set_cons_zero, List.set_cons_succ]
    refine wpAnyH_ready (rs := [21]) (by as_aux_lemma => kernel_rfl) (by simp) (AllReadyH.cons rfl (fun K hK => ?_) (AllReadyH.nil))
    go_simp
    refine (HV6.out v5).mono ?_
    rintro _ v6 ⟨a6, c6, rfl, hr, hb⟩
    have hS_v6 : Below W1.heap.size W1 v6 := Bn hS_v5 hb
    replace HD0 := hid (HD0.out.later hb)
    replace HD1 := hid (HD1.out.later hb)
    replace HD2 := hid (HD2.out.later hb)
    replace HD3 := hid (HD3.out.later hb)
    replace HD4 := hid (HD4.out.later hb)
    have HD6 := hid hr
    clear hr hb
    refine hK.out _ _ hS_v6 (fun _ => ?_)
    clear hK K
    try simp only [List.setIfInBounds_toArray, List.set_cons_zero, List.set_cons_succ]
    refine wpAnyH_ready (rs := [24]) (by as_aux_lemma => kernel_rfl) (by simp) (AllReadyH.cons rfl (fun K hK => ?_) (AllReadyH.nil))
    go_simp
    refine (HL7.out v6).mono ?_
    rintro _ v7 ⟨a7, c7, rfl, hr, hb⟩
    have hS_v7 : Below W1.heap.size W1 v7 := Bn hS_v6 hb
    replace HD0 := hid (HD0.out.later hb)
    replace HD1 := hid (HD1.out.later hb)
    replace HD2 := hid (HD2.out.later hb)
    replace HD3 := hid (HD3.out.later hb)
    replace HD4 := hid (HD4.out.later hb)
    replace HD6 := hid (HD6.out.later hb)
    have HD7 := hid hr
    clear hr hb
    refine hK.out _ _ hS_v7 (fun _ => ?_)
    clear hK K
    try simp only [List.setIfInBounds_toArray, List.set_cons_zero, List.set_cons_succ]
    refine wpAnyH_ready (rs := [29]) (by as_aux_lemma => kernel_rfl) (by simp) (AllReadyH.cons rfl (fun K hK => ?_) (AllReadyH.nil))
    go_simp
    refine (HV8.out v7).mono ?_
    rintro _ v8 ⟨a8, c8, rfl, hr, hb⟩
    have hS_v8 : Below W1.heap.size W1 v8 := Bn hS_v7 hb
    replace HD0 := hid (HD0.out.later hb)
    replace HD1 := hid (HD1.out.later hb)
    replace HD2 := hid (HD2.out.later hb)
    replace HD3 := hid (HD3.out.later hb)
    replace HD4 := hid (HD4.out.later hb)
    replace HD6 := hid (HD6.out.later hb)
    replace HD7 := hid (HD7.out.later hb)
    have HD8 := hid hr
    clear hr hb
    refine hK.out _ _ hS_v8 (fun _ => ?_)
    clear hK K
    try simp only [List.setIfInBounds_toArray, List.set_cons_zero, List.set_cons_succ]
    refine wpAnyH_ready (rs := [32]) (by as_aux_lemma => kernel_rfl) (by simp) (AllReadyH.cons rfl (fun K hK => ?_) (AllReadyH.nil))
    try go_simp
    have hb := bel_alc v8 (.cells ([.slice (some ⟨g0, 0, none⟩) 2 2, .slice a1 k1.length c1, .slice a2 l2.length c2, .slice a3 l3.length c3, .slice a4 k4.length c4, .slice a6 k6.length c6, .slice a7 l7.length c7, .slice a8 k8.length c8, .slice f.a bn f.cap] : List Value).toArray 22)
    have hg := heap_alc v8 (.cells ([.slice (some ⟨g0, 0, none⟩) 2 2, .slice a1 k1.length c1, .slice a2 l2.length c2, .slice a3 l3.length c3, .slice a4 k4.length c4, .slice a6 k6.length c6, .slice a7 l7.length c7, .slice a8 k8.length c8, .slice f.a bn f.cap] : List Value).toArray 22)
    have hS_v9 : Below W1.heap.size W1 (v8.alloc (.cells ([.slice (some ⟨g0, 0, none⟩) 2 2, .slice a1 k1.length c1, .slice a2 l2.length c2, .slice a3 l3.length c3, .slice a4 k4.length c4, .slice a6 k6.length c6, .slice a7 l7.length c7, .slice a8 k8.length c8, .slice f.a bn f.cap] : List Value).toArray 22)) := Bn hS_v8 hb
    replace HD0 := hid (HD0.out.later hb)
    replace HD1 := hid (HD1.out.later hb)
    replace HD2 := hid (HD2.out.later hb)
    replace HD3 := hid (HD3.out.later hb)
    replace HD4 := hid (HD4.out.later hb)
    replace HD6 := hid (HD6.out.later hb)
    replace HD7 := hid (HD7.out.later hb)
    replace HD8 := hid (HD8.out.later hb)
    have HDb := hid (HBR.out _ hS_v9)
    have HG := hid hg
    refine hK.out _ _ hS_v9 (fun _ => ?_)
    clear hK K hb hg
    generalize v8.alloc (.cells ([.slice (some ⟨g0, 0, none⟩) 2 2, .slice a1 k1.length c1, .slice a2 l2.length c2, .slice a3 l3.length c3, .slice a4 k4.length c4, .slice a6 k6.length c6, .slice a7 l7.length c7, .slice a8 k8.length c8, .slice f.a bn f.cap] : List Value).toArray 22) = v9 at *
    obtain ⟨g9, hg9⟩ : ∃ g, g = v8.heap.size := ⟨_, rfl⟩
    rw [← hg9] at HG ⊢
    clear hg9
    try simp only [List.setIfInBounds_toArray, List.set_cons_zero, List.set_cons_succ]
    refine wpAnyH_ready (rs := [33]) (by as_aux_lemma => kernel_rfl) (by simp) (AllReadyH.cons rfl (fun K hK => ?_) (AllReadyH.nil))
    go_simp
    have hcat := HCAT.out v9 g9 [.slice (some ⟨g0, 0, none⟩) 2 2, .slice a1 k1.length c1, .slice a2 l2.length c2, .slice a3 l3.length c3, .slice a4 k4.length c4, .slice a6 k6.length c6, .slice a7 l7.length c7, .slice a8 k8.length c8, .slice f.a bn f.cap] HG.out rfl (fun j hj => by
      rcases (show j = 0 ∨ j = 1 ∨ j = 2 ∨ j = 3 ∨ j = 4 ∨ j = 5 ∨ j = 6 ∨ j = 7 ∨ j = 8 by omega) with rfl | rfl | rfl | rfl | rfl | rfl | rfl | rfl | rfl
      · exact ⟨_, _, HD0.out⟩
      · exact ⟨_, _, HD1.out⟩
      · exact ⟨_, _, HD2.out⟩
      · exact ⟨_, _, HD3.out⟩
      · exact ⟨_, _, HD4.out⟩
      · exact ⟨_, _, HD6.out⟩
      · exact ⟨_, _, HD7.out⟩
      · exact ⟨_, _, HD8.out⟩
      · exact ⟨_, _, HDb.out⟩)
    refine hcat.mono ?_
    rintro _ v10 ⟨aZ, cZ, rfl, hrZ, hb⟩
    have hS_v10 : Below W1.heap.size W1 v10 := Bn hS_v9 hb
    have HRZ := hid hrZ
    clear hcat hrZ hb
    refine hK.out _ _ hS_v10 (fun _ => ?_)
    clear hK K
    try simp only [List.setIfInBounds_toArray, List.set_cons_zero, List.set_cons_succ]
    refine Ord.take (i := 34) (d := 2) (v := ?vWa34) rfl rfl (by as_aux_lemma => kernel_rfl) (by as_aux_lemma => kernel_rfl) (by as_aux_lemma => kernel_rfl) (fun _ _ _ h => h) (by rfl) ?hWa34 (by assumption) ?_
    case hWa34 => intro wx hSw; go_simp; try with_reducible rfl
    try simp only [List.setIfInBounds_toArray, List.set_cons_zero, List.set_cons_succ]
    refine wpAnyH_done (by as_aux_lemma => kernel_rfl) ?_ _
    have HS9 := hid (Bn HB1.out hS_v10)
    clear hS_v10
    go_wp2
    go_ret
    exact ⟨aZ, cZ, rfl, HRZ.out, HS9.out⟩
  · go_simp
    refine (HV1.out v0).mono ?_
    rintro _ v1 ⟨a1, c1, rfl, hr, hb⟩
    have hS_v1 : Below W1.heap.size W1 v1 := Bn hS_v0 hb
    have HD1 := hid hr
    clear hr hb
    refine hK.out _ _ hS_v1 (fun _ => ?_)
    clear hK K
    try simp only [List.setIfInBounds_toArray, List.set_cons_zero, List.set_cons_succ]
    refine wpAnyH_ready (rs := [3, 10]) (by as_aux_lemma => kernel_rfl) (by simp) (AllReadyH.cons rfl (fun K hK => ?_) (AllReadyH.cons rfl (fun K hK => ?_) (AllReadyH.nil)))
    · try go_simp
      have hb := bel_alc v1 (.cells #[.int .u8 70, .int .u8 x0] 5)
      have hr := H2R.out v1
      have hS_v2 : Below W1.heap.size W1 (v1.alloc (.cells #[.int .u8 70, .int .u8 x0] 5)) := Bn hS_v1 hb
      replace HD1 := hid (HD1.out.later hb)
      have HD0 := hid hr
      clear hr hb
      refine hK.out _ _ hS_v2 (fun _ => ?_)
      clear hK K
      generalize v1.alloc (.cells #[.int .u8 70, .int .u8 x0] 5) = v2 at *
      obtain ⟨g0, hg0⟩ : ∃ g, g = v1.heap.size := ⟨_, rfl⟩
      rw [← hg0] at HD0 ⊢
      clear hg0
      try simp only [List.setIfInBounds_toArray, List.set_cons_zero, List.set_cons_succ]
      refine wpAnyH_ready (rs := [10]) (by as_aux_lemma => kernel_rfl) (by simp) (AllReadyH.cons rfl (fun K hK => ?_) (AllReadyH.nil))
      go_simp
      refine (HL2.out v2).mono ?_
      rintro _ v3 ⟨a2, c2, rfl, hr, hb⟩
      have hS_v3 : Below W1.heap.size W1 v3 := Bn hS_v2 hb
      replace HD1 := hid (HD1.out.later hb)
      replace HD0 := hid (HD0.out.later hb)
      have HD2 := hid hr
      clear hr hb
      refine hK.out _ _ hS_v3 (fun _ => ?_)
      clear hK K
      try simp only [List.setIfInBounds_toArray, List.set_cons_zero, List.set_cons_succ]
      refine wpAnyH_ready (rs := [13]) (by as_aux_lemma => kernel_rfl) (by simp) (AllReadyH.cons rfl (fun K hK => ?_) (AllReadyH.nil))
      go_simp
      refine (HL3.out v3).mono ?_
      rintro _ v4 ⟨a3, c3, rfl, hr, hb⟩
      have hS_v4 : Below W1.heap.size W1 v4 := Bn hS_v3 hb
      replace HD1 := hid (HD1.out.later hb)
      replace HD0 := hid (HD0.out.later hb)
      replace HD2 := hid (HD2.out.later hb)
      have HD3 := hid hr
      clear hr hb
      refine hK.out _ _ hS_v4 (fun _ => ?_)
      clear hK K
      try simp only [List.setIfInBounds_toArray, List.set_cons_zero, List.set_cons_succ]
      refine wpAnyH_ready (rs := [17]) (by as_aux_lemma => kernel_rfl) (by simp) (AllReadyH.cons rfl (fun K hK => ?_) (AllReadyH.nil))
      go_simp
      refine (HV4.out v4).mono ?_
      rintro _ v5 ⟨a4, c4, rfl, hr, hb⟩
      have hS_v5 : Below W1.heap.size W1 v5 := Bn hS_v4 hb
      replace HD1 := hid (HD1.out.later hb)
      replace HD0 := hid (HD0.out.later hb)
      replace HD2 := hid (HD2.out.later hb)
      replace HD3 := hid (HD3.out.later hb)
      have HD4 := hid hr
      clear hr hb
      refine hK.out _ _ hS_v5 (fun _ => ?_)
      clear hK K
      try simp only [List.setIfInBounds_toArray, List.set_cons_zero, List.set_cons_succ]
      refine wpAnyH_ready (rs := [21]) (by as_aux_lemma => kernel_rfl) (by simp) (AllReadyH.cons rfl (fun K hK => ?_) (AllReadyH.nil))
      go_simp
      refine (HV6.out v5).mono ?_
      rintro _ v6 ⟨a6, c6, rfl, hr, hb⟩
      have hS_v6 : Below W1.heap.size W1 v6 := Bn hS_v5 hb
      replace HD1 := hid (HD1.out.later hb)
      replace HD0 := hid (HD0.out.later hb)
      replace HD2 := hid (HD2.out.later hb)
      replace HD3 := hid (HD3.out.later hb)
      replace HD4 := hid (HD4.out.later hb)
      have HD6 := hid hr
      clear hr hb
      refine hK.out _ _ hS_v6 (fun _ => ?_)
      clear hK K
      try simp only [List.setIfInBounds_toArray, List.set_cons_zero, List.set_cons_succ]
      refine wpAnyH_ready (rs := [24]) (by as_aux_lemma => kernel_rfl) (by simp) (AllReadyH.cons rfl (fun K hK => ?_) (AllReadyH.nil))
      go_simp
      refine (HL7.out v6).mono ?_
      rintro _ v7 ⟨a7, c7, rfl, hr, hb⟩
      have hS_v7 : Below W1.heap.size W1 v7 := Bn hS_v6 hb
      replace HD1 := hid (HD1.out.later hb)
      replace HD0 := hid (HD0.out.later hb)
      replace HD2 := hid (HD2.out.later hb)
      replace HD3 := hid (HD3.out.later hb)
      replace HD4 := hid (HD4.out.later hb)
      replace HD6 := hid (HD6.out.later hb)
      have HD7 := hid hr
      clear hr hb
      refine hK.out _ _ hS_v7 (fun _ => ?_)
      clear hK K
      try simp only [List.setIfInBounds_toArray, List.set_cons_zero, List.set_cons_succ]
      refine wpAnyH_ready (rs := [29]) (by as_aux_lemma => kernel_rfl) (by simp) (AllReadyH.cons rfl (fun K hK => ?_) (AllReadyH.nil))
      go_simp
      refine (HV8.out v7).mono ?_
      rintro _ v8 ⟨a8, c8, rfl, hr, hb⟩
      have hS_v8 : Below W1.heap.size W1 v8 := Bn hS_v7 hb
      replace HD1 := hid (HD1.out.later hb)
      replace HD0 := hid (HD0.out.later hb)
      replace HD2 := hid (HD2.out.later hb)
      replace HD3 := hid (HD3.out.later hb)
      replace HD4 := hid (HD4.out.later hb)
      replace HD6 := hid (HD6.out.later hb)
      replace HD7 := hid (HD7.out.later hb)
      have HD8 := hid hr
      clear hr hb
      refine hK.out _ _ hS_v8 (fun _ => ?_)
      clear hK K
      try simp only [List.setIfInBounds_toArray, List.set_cons_zero, List.set_cons_succ]
      refine wpAnyH_ready (rs := [32]) (by as_aux_lemma => kernel_rfl) (by simp) (AllReadyH.cons rfl (fun K hK => ?_) (AllReadyH.nil))
      try go_simp
      have hb := bel_alc v8 (.cells ([.slice (some ⟨g0, 0, none⟩) 2 2, .slice a1 k1.length c1, .slice a2 l2.length c2, .slice a3 l3.length c3, .slice a4 k4.length c4, .slice a6 k6.length c6, .slice a7 l7.length c7, .slice a8 k8.length c8, .slice f.a bn f.cap] : List Value).toArray 22)
      have hg := heap_alc v8 (.cells ([.slice (some ⟨g0, 0, none⟩) 2 2, .slice a1 k1.length c1, .slice a2 l2.length c2, .slice a3 l3.length c3, .slice a4 k4.length c4, .slice a6 k6.length c6, .slice a7 l7.length c7, .slice a8 k8.length c8, .slice f.a bn f.cap] : List Value).toArray 22)
      have hS_v9 : Below W1.heap.size W1 (v8.alloc (.cells ([.slice (some ⟨g0, 0, none⟩) 2 2, .slice a1 k1.length c1, .slice a2 l2.length c2, .slice a3 l3.length c3, .slice a4 k4.length c4, .slice a6 k6.length c6, .slice a7 l7.length c7, .slice a8 k8.length c8, .slice f.a bn f.cap] : List Value).toArray 22)) := Bn hS_v8 hb
      replace HD1 := hid (HD1.out.later hb)
      replace HD0 := hid (HD0.out.later hb)
      replace HD2 := hid (HD2.out.later hb)
      replace HD3 := hid (HD3.out.later hb)
      replace HD4 := hid (HD4.out.later hb)
      replace HD6 := hid (HD6.out.later hb)
      replace HD7 := hid (HD7.out.later hb)
      replace HD8 := hid (HD8.out.later hb)
      have HDb := hid (HBR.out _ hS_v9)
      have HG := hid hg
      refine hK.out _ _ hS_v9 (fun _ => ?_)
      clear hK K hb hg
      generalize v8.alloc (.cells ([.slice (some ⟨g0, 0, none⟩) 2 2, .slice a1 k1.length c1, .slice a2 l2.length c2, .slice a3 l3.length c3, .slice a4 k4.length c4, .slice a6 k6.length c6, .slice a7 l7.length c7, .slice a8 k8.length c8, .slice f.a bn f.cap] : List Value).toArray 22) = v9 at *
      obtain ⟨g9, hg9⟩ : ∃ g, g = v8.heap.size := ⟨_, rfl⟩
      rw [← hg9] at HG ⊢
      clear hg9
      try simp only [List.setIfInBounds_toArray, List.set_cons_zero, List.set_cons_succ]
      refine wpAnyH_ready (rs := [33]) (by as_aux_lemma => kernel_rfl) (by simp) (AllReadyH.cons rfl (fun K hK => ?_) (AllReadyH.nil))
      go_simp
      have hcat := HCAT.out v9 g9 [.slice (some ⟨g0, 0, none⟩) 2 2, .slice a1 k1.length c1, .slice a2 l2.length c2, .slice a3 l3.length c3, .slice a4 k4.length c4, .slice a6 k6.length c6, .slice a7 l7.length c7, .slice a8 k8.length c8, .slice f.a bn f.cap] HG.out rfl (fun j hj => by
        rcases (show j = 0 ∨ j = 1 ∨ j = 2 ∨ j = 3 ∨ j = 4 ∨ j = 5 ∨ j = 6 ∨ j = 7 ∨ j = 8 by omega) with rfl | rfl | rfl | rfl | rfl | rfl | rfl | rfl | rfl
        · exact ⟨_, _, HD0.out⟩
        · exact ⟨_, _, HD1.out⟩
        · exact ⟨_, _, HD2.out⟩
        · exact ⟨_, _, HD3.out⟩
        · exact ⟨_, _, HD4.out⟩
        · exact ⟨_, _, HD6.out⟩
        · exact ⟨_, _, HD7.out⟩
        · exact ⟨_, _, HD8.out⟩
        · exact ⟨_, _, HDb.out⟩)
      refine hcat.mono ?_
      rintro _ v10 ⟨aZ, cZ, rfl, hrZ, hb⟩
      have hS_v10 : Below W1.heap.size W1 v10 := Bn hS_v9 hb
      have HRZ := hid hrZ
      clear hcat hrZ hb
      refine hK.out _ _ hS_v10 (fun _ => ?_)
      clear hK K
      try simp only [List.setIfInBounds_toArray, List.set_cons_zero, List.set_cons_succ]
      refine Ord.take (i := 34) (d := 2) (v := ?vWba34) rfl rfl (by as_aux_lemma => kernel_rfl) (by as_aux_lemma => kernel_rfl) (by as_aux_lemma => kernel_rfl) (fun _ _ _ h => h) (by rfl) ?hWba34 (by assumption) ?_
      case hWba34 => intro wx hSw; go_simp; try with_reducible rfl
      try simp only [List.setIfInBounds_toArray, List.set_cons_zero, List.set_cons_succ]
      refine wpAnyH_done (by as_aux_lemma => kernel_rfl) ?_ _
      have HS9 := hid (Bn HB1.out hS_v10)
      clear hS_v10
      go_wp2
      go_ret
      exact ⟨aZ, cZ, rfl, HRZ.out, HS9.out⟩
    · go_simp
      refine (HL2.out v1).mono ?_
      rintro _ v2 ⟨a2, c2, rfl, hr, hb⟩
      have hS_v2 : Below W1.heap.size W1 v2 := Bn hS_v1 hb
      replace HD1 := hid (HD1.out.later hb)
      have HD2 := hid hr
      clear hr hb
      refine hK.out _ _ hS_v2 (fun _ => ?_)
      clear hK K
      try simp only [List.setIfInBounds_toArray, List.set_cons_zero, List.set_cons_succ]
      refine wpAnyH_ready (rs := [3, 13]) (by as_aux_lemma => kernel_rfl) (by simp) (AllReadyH.cons rfl (fun K hK => ?_) (AllReadyH.cons rfl (fun K hK => ?_) (AllReadyH.nil)))
      · try go_simp
        have hb := bel_alc v2 (.cells #[.int .u8 70, .int .u8 x0] 5)
        have hr := H2R.out v2
        have hS_v3 : Below W1.heap.size W1 (v2.alloc (.cells #[.int .u8 70, .int .u8 x0] 5)) := Bn hS_v2 hb
        replace HD1 := hid (HD1.out.later hb)
        replace HD2 := hid (HD2.out.later hb)
        have HD0 := hid hr
        clear hr hb
        refine hK.out _ _ hS_v3 (fun _ => ?_)
        clear hK K
        generalize v2.alloc (.cells #[.int .u8 70, .int .u8 x0] 5) = v3 at *
        obtain ⟨g0, hg0⟩ : ∃ g, g = v2.heap.size := ⟨_, rfl⟩
        rw [← hg0] at HD0 ⊢
        clear hg0
        try simp only [List.setIfInBounds_toArray, List.set_cons_zero, List.set_cons_succ]
        refine wpAnyH_ready (rs := [13]) (by as_aux_lemma => kernel_rfl) (by simp) (AllReadyH.cons rfl (fun K hK => ?_) (AllReadyH.nil))
        go_simp
        refine (HL3.out v3).mono ?_
        rintro _ v4 ⟨a3, c3, rfl, hr, hb⟩
        have hS_v4 : Below W1.heap.size W1 v4 := Bn hS_v3 hb
        replace HD1 := hid (HD1.out.later hb)
        replace HD2 := hid (HD2.out.later hb)
        replace HD0 := hid (HD0.out.later hb)
        have HD3 := hid hr
        clear hr hb
        refine hK.out _ _ hS_v4 (fun _ => ?_)
        clear hK K
        try simp only [List.setIfInBounds_toArray, List.set_cons_zero, List.set_cons_succ]
        refine wpAnyH_ready (rs := [17]) (by as_aux_lemma => kernel_rfl) (by simp) (AllReadyH.cons rfl (fun K hK => ?_) (AllReadyH.nil))
        go_simp
        refine (HV4.out v4).mono ?_
        rintro _ v5 ⟨a4, c4, rfl, hr, hb⟩
        have hS_v5 : Below W1.heap.size W1 v5 := Bn hS_v4 hb
        replace HD1 := hid (HD1.out.later hb)
        replace HD2 := hid (HD2.out.later hb)
        replace HD0 := hid (HD0.out.later hb)
        replace HD3 := hid (HD3.out.later hb)
        have HD4 := hid hr
        clear hr hb
        refine hK.out _ _ hS_v5 (fun _ => ?_)
        clear hK K
        try simp only [List.setIfInBounds_toArray, List.set_cons_zero, List.set_cons_succ]
        refine wpAnyH_ready (rs := [21]) (by as_aux_lemma => kernel_rfl) (by simp) (AllReadyH.cons rfl (fun K hK => ?_) (AllReadyH.nil))
        go_simp
        refine (HV6.out v5).mono ?_
        rintro _ v6 ⟨a6, c6, rfl, hr, hb⟩
        have hS_v6 : Below W1.heap.size W1 v6 := Bn hS_v5 hb
        replace HD1 := hid (HD1.out.later hb)
        replace HD2 := hid (HD2.out.later hb)
        replace HD0 := hid (HD0.out.later hb)
        replace HD3 := hid (HD3.out.later hb)
        replace HD4 := hid (HD4.out.later hb)
        have HD6 := hid hr
        clear hr hb
        refine hK.out _ _ hS_v6 (fun _ => ?_)
        clear hK K
        try simp only [List.setIfInBounds_toArray, List.set_cons_zero, List.set_cons_succ]
        refine wpAnyH_ready (rs := [24]) (by as_aux_lemma => kernel_rfl) (by simp) (AllReadyH.cons rfl (fun K hK => ?_) (AllReadyH.nil))
        go_simp
        refine (HL7.out v6).mono ?_
        rintro _ v7 ⟨a7, c7, rfl, hr, hb⟩
        have hS_v7 : Below W1.heap.size W1 v7 := Bn hS_v6 hb
        replace HD1 := hid (HD1.out.later hb)
        replace HD2 := hid (HD2.out.later hb)
        replace HD0 := hid (HD0.out.later hb)
        replace HD3 := hid (HD3.out.later hb)
        replace HD4 := hid (HD4.out.later hb)
        replace HD6 := hid (HD6.out.later hb)
        have HD7 := hid hr
        clear hr hb
        refine hK.out _ _ hS_v7 (fun _ => ?_)
        clear hK K
        try simp only [List.setIfInBounds_toArray, List.set_cons_zero, List.set_cons_succ]
        refine wpAnyH_ready (rs := [29]) (by as_aux_lemma => kernel_rfl) (by simp) (AllReadyH.cons rfl (fun K hK => ?_) (AllReadyH.nil))
        go_simp
        refine (HV8.out v7).mono ?_
        rintro _ v8 ⟨a8, c8, rfl, hr, hb⟩
        have hS_v8 : Below W1.heap.size W1 v8 := Bn hS_v7 hb
        replace HD1 := hid (HD1.out.later hb)
        replace HD2 := hid (HD2.out.later hb)
        replace HD0 := hid (HD0.out.later hb)
        replace HD3 := hid (HD3.out.later hb)
        replace HD4 := hid (HD4.out.later hb)
        replace HD6 := hid (HD6.out.later hb)
        replace HD7 := hid (HD7.out.later hb)
        have HD8 := hid hr
        clear hr hb
        refine hK.out _ _ hS_v8 (fun _ => ?_)
        clear hK K
        try simp only [List.setIfInBounds_toArray, List.set_cons_zero, List.set_cons_succ]
        refine wpAnyH_ready (rs := [32]) (by as_aux_lemma => kernel_rfl) (by simp) (AllReadyH.cons rfl (fun K hK => ?_) (AllReadyH.nil))
        try go_simp
        have hb := bel_alc v8 (.cells ([.slice (some ⟨g0, 0, none⟩) 2 2, .slice a1 k1.length c1, .slice a2 l2.length c2, .slice a3 l3.length c3, .slice a4 k4.length c4, .slice a6 k6.length c6, .slice a7 l7.length c7, .slice a8 k8.length c8, .slice f.a bn f.cap] : List Value).toArray 22)
        have hg := heap_alc v8 (.cells ([.slice (some ⟨g0, 0, none⟩) 2 2, .slice a1 k1.length c1, .slice a2 l2.length c2, .slice a3 l3.length c3, .slice a4 k4.length c4, .slice a6 k6.length c6, .slice a7 l7.length c7, .slice a8 k8.length c8, .slice f.a bn f.cap] : List Value).toArray 22)
        have hS_v9 : Below W1.heap.size W1 (v8.alloc (.cells ([.slice (some ⟨g0, 0, none⟩) 2 2, .slice a1 k1.length c1, .slice a2 l2.length c2, .slice a3 l3.length c3, .slice a4 k4.length c4, .slice a6 k6.length c6, .slice a7 l7.length c7, .slice a8 k8.length c8, .slice f.a bn f.cap] : List Value).toArray 22)) := Bn hS_v8 hb
        replace HD1 := hid (HD1.out.later hb)
        replace HD2 := hid (HD2.out.later hb)
        replace HD0 := hid (HD0.out.later hb)
        replace HD3 := hid (HD3.out.later hb)
        replace HD4 := hid (HD4.out.later hb)
        replace HD6 := hid (HD6.out.later hb)
        replace HD7 := hid (HD7.out.later hb)
        replace HD8 := hid (HD8.out.later hb)
        have HDb := hid (HBR.out _ hS_v9)
        have HG := hid hg
        refine hK.out _ _ hS_v9 (fun _ => ?_)
        clear hK K hb hg
        generalize v8.alloc (.cells ([.slice (some ⟨g0, 0, none⟩) 2 2, .slice a1 k1.length c1, .slice a2 l2.length c2, .slice a3 l3.length c3, .slice a4 k4.length c4, .slice a6 k6.length c6, .slice a7 l7.length c7, .slice a8 k8.length c8, .slice f.a bn f.cap] : List Value).toArray 22) = v9 at *
        obtain ⟨g9, hg9⟩ : ∃ g, g = v8.heap.size := ⟨_, rfl⟩
        rw [← hg9] at HG ⊢
        clear hg9
        try simp only [List.setIfInBounds_toArray, List.set_cons_zero, List.set_cons_succ]
        refine wpAnyH_ready (rs := [33]) (by as_aux_lemma => kernel_rfl) (by simp) (AllReadyH.cons rfl (fun K hK => ?_) (AllReadyH.nil))
        go_simp
        have hcat := HCAT.out v9 g9 [.slice (some ⟨g0, 0, none⟩) 2 2, .slice a1 k1.length c1, .slice a2 l2.length c2, .slice a3 l3.length c3, .slice a4 k4.length c4, .slice a6 k6.length c6, .slice a7 l7.length c7, .slice a8 k8.length c8, .slice f.a bn f.cap] HG.out rfl (fun j hj => by
          rcases (show j = 0 ∨ j = 1 ∨ j = 2 ∨ j = 3 ∨ j = 4 ∨ j = 5 ∨ j = 6 ∨ j = 7 ∨ j = 8 by omega) with rfl | rfl | rfl | rfl | rfl | rfl | rfl | rfl | rfl
          · exact ⟨_, _, HD0.out⟩
          · exact ⟨_, _, HD1.out⟩
          · exact ⟨_, _, HD2.out⟩
          · exact ⟨_, _, HD3.out⟩
          · exact ⟨_, _, HD4.out⟩
          · exact ⟨_, _, HD6.out⟩
          · exact ⟨_, _, HD7.out⟩
          · exact ⟨_, _, HD8.out⟩
          · exact ⟨_, _, HDb.out⟩)
        refine hcat.mono ?_
        rintro _ v10 ⟨aZ, cZ, rfl, hrZ, hb⟩
        have hS_v10 : Below W1.heap.size W1 v10 := Bn hS_v9 hb
        have HRZ := hid hrZ
        clear hcat hrZ hb
        refine hK.out _ _ hS_v10 (fun _ => ?_)
        clear hK K
        try simp only [List.setIfInBounds_toArray, List.set_cons_zero, List.set_cons_succ]
        refine Ord.take (i := 34) (d := 2) (v := ?vWbba34) rfl rfl (by as_aux_lemma => kernel_rfl) (by as_aux_lemma => kernel_rfl) (by as_aux_lemma => kernel_rfl) (fun _ _ _ h => h) (by rfl) ?hWbba34 (by assumption) ?_
        case hWbba34 => intro wx hSw; go_simp; try with_reducible rfl
        try simp only [List.setIfInBounds_toArray, List.set_cons_zero, List.set_cons_succ]
        refine wpAnyH_done (by as_aux_lemma => kernel_rfl) ?_ _
        have HS9 := hid (Bn HB1.out hS_v10)
        clear hS_v10
        go_wp2
        go_ret
        exact ⟨aZ, cZ, rfl, HRZ.out, HS9.out⟩
      · go_simp
        refine (HL3.out v2).mono ?_
        rintro _ v3 ⟨a3, c3, rfl, hr, hb⟩
        have hS_v3 : Below W1.heap.size W1 v3 := Bn hS_v2 hb
        replace HD1 := hid (HD1.out.later hb)
        replace HD2 := hid (HD2.out.later hb)
        have HD3 := hid hr
        clear hr hb
        refine hK.out _ _ hS_v3 (fun _ => ?_)
        clear hK K
        try simp only [List.setIfInBounds_toArray, List.set_cons_zero, List.set_cons_succ]
        refine wpAnyH_ready (rs := [3, 17]) (by as_aux_lemma => kernel_rfl) (by simp) (AllReadyH.cons rfl (fun K hK => ?_) (AllReadyH.cons rfl (fun K hK => ?_) (AllReadyH.nil)))
        · try go_simp
          have hb := bel_alc v3 (.cells #[.int .u8 70, .int .u8 x0] 5)
          have hr := H2R.out v3
          have hS_v4 : Below W1.heap.size W1 (v3.alloc (.cells #[.int .u8 70, .int .u8 x0] 5)) := Bn hS_v3 hb
          replace HD1 := hid (HD1.out.later hb)
          replace HD2 := hid (HD2.out.later hb)
          replace HD3 := hid (HD3.out.later hb)
          have HD0 := hid hr
          clear hr hb
          refine hK.out _ _ hS_v4 (fun _ => ?_)
          clear hK K
          generalize v3.alloc (.cells #[.int .u8 70, .int .u8 x0] 5) = v4 at *
          obtain ⟨g0, hg0⟩ : ∃ g, g = v3.heap.size := ⟨_, rfl⟩
          rw [← hg0] at HD0 ⊢
          clear hg0
          try simp only [List.setIfInBounds_toArray, List.set_cons_zero, List.set_cons_succ]
          refine wpAnyH_ready (rs := [17]) (by as_aux_lemma => kernel_rfl) (by simp) (AllReadyH.cons rfl (fun K hK => ?_) (AllReadyH.nil))
          go_simp
          refine (HV4.out v4).mono ?_
          rintro _ v5 ⟨a4, c4, rfl, hr, hb⟩
          have hS_v5 : Below W1.heap.size W1 v5 := Bn hS_v4 hb
          replace HD1 := hid (HD1.out.later hb)
          replace HD2 := hid (HD2.out.later hb)
          replace HD3 := hid (HD3.out.later hb)
          replace HD0 := hid (HD0.out.later hb)
          have HD4 := hid hr
          clear hr hb
          refine hK.out _ _ hS_v5 (fun _ => ?_)
          clear hK K
          try simp only [List.setIfInBounds_toArray, List.set_cons_zero, List.set_cons_succ]
          refine wpAnyH_ready (rs := [21]) (by as_aux_lemma => kernel_rfl) (by simp) (AllReadyH.cons rfl (fun K hK => ?_) (AllReadyH.nil))
          go_simp
          refine (HV6.out v5).mono ?_
          rintro _ v6 ⟨a6, c6, rfl, hr, hb⟩
          have hS_v6 : Below W1.heap.size W1 v6 := Bn hS_v5 hb
          replace HD1 := hid (HD1.out.later hb)
          replace HD2 := hid (HD2.out.later hb)
          replace HD3 := hid (HD3.out.later hb)
          replace HD0 := hid (HD0.out.later hb)
          replace HD4 := hid (HD4.out.later hb)
          have HD6 := hid hr
          clear hr hb
          refine hK.out _ _ hS_v6 (fun _ => ?_)
          clear hK K
          try simp only [List.setIfInBounds_toArray, List.set_cons_zero, List.set_cons_succ]
          refine wpAnyH_ready (rs := [24]) (by as_aux_lemma => kernel_rfl) (by simp) (AllReadyH.cons rfl (fun K hK => ?_) (AllReadyH.nil))
          go_simp
          refine (HL7.out v6).mono ?_
          rintro _ v7 ⟨a7, c7, rfl, hr, hb⟩
          have hS_v7 : Below W1.heap.size W1 v7 := Bn hS_v6 hb
          replace HD1 := hid (HD1.out.later hb)
          replace HD2 := hid (HD2.out.later hb)
          replace HD3 := hid (HD3.out.later hb)
          replace HD0 := hid (HD0.out.later hb)
          replace HD4 := hid (HD4.out.later hb)
          replace HD6 := hid (HD6.out.later hb)
          have HD7 := hid hr
          clear hr hb
          refine hK.out _ _ hS_v7 (fun _ => ?_)
          clear hK K
          try simp only [List.setIfInBounds_toArray, List.set_cons_zero, List.set_cons_succ]
          refine wpAnyH_ready (rs := [29]) (by as_aux_lemma => kernel_rfl) (by simp) (AllReadyH.cons rfl (fun K hK => ?_) (AllReadyH.nil))
          go_simp
          refine (HV8.out v7).mono ?_
          rintro _ v8 ⟨a8, c8, rfl, hr, hb⟩
          have hS_v8 : Below W1.heap.size W1 v8 := Bn hS_v7 hb
          replace HD1 := hid (HD1.out.later hb)
          replace HD2 := hid (HD2.out.later hb)
          replace HD3 := hid (HD3.out.later hb)
          replace HD0 := hid (HD0.out.later hb)
          replace HD4 := hid (HD4.out.later hb)
          replace HD6 := hid (HD6.out.later hb)
          replace HD7 := hid (HD7.out.later hb)
          have HD8 := hid hr
          clear hr hb
          refine hK.out _ _ hS_v8 (fun _ => ?_)
          clear hK K
          try simp only [List.setIfInBounds_toArray, List.set_cons_zero, List.set_cons_succ]
          refine wpAnyH_ready (rs := [32]) (by as_aux_lemma => kernel_rfl) (by simp) (AllReadyH.cons rfl (fun K hK => ?_) (AllReadyH.nil))
          try go_simp
          have hb := bel_alc v8 (.cells ([.slice (some ⟨g0, 0, none⟩) 2 2, .slice a1 k1.length c1, .slice a2 l2.length c2, .slice a3 l3.length c3, .slice a4 k4.length c4, .slice a6 k6.length c6, .slice a7 l7.length c7, .slice a8 k8.length c8, .slice f.a bn f.cap] : List Value).toArray 22)
          have hg := heap_alc v8 (.cells ([.slice (some ⟨g0, 0, none⟩) 2 2, .slice a1 k1.length c1, .slice a2 l2.length c2, .slice a3 l3.length c3, .slice a4 k4.length c4, .slice a6 k6.length c6, .slice a7 l7.length c7, .slice a8 k8.length c8, .slice f.a bn f.cap] : List Value).toArray 22)
          have hS_v9 : Below W1.heap.size W1 (v8.alloc (.cells ([.slice (some ⟨g0, 0, none⟩) 2 2, .slice a1 k1.length c1, .slice a2 l2.length c2, .slice a3 l3.length c3, .slice a4 k4.length c4, .slice a6 k6.length c6, .slice a7 l7.length c7, .slice a8 k8.length c8, .slice f.a bn f.cap] : List Value).toArray 22)) := Bn hS_v8 hb
          replace HD1 := hid (HD1.out.later hb)
          replace HD2 := hid (HD2.out.later hb)
          replace HD3 := hid (HD3.out.later hb)
          replace HD0 := hid (HD0.out.later hb)
          replace HD4 := hid (HD4.out.later hb)
          replace HD6 := hid (HD6.out.later hb)
          replace HD7 := hid (HD7.out.later hb)
          replace HD8 := hid (HD8.out.later hb)
          have HDb := hid (HBR.out _ hS_v9)
          have HG := hid hg
          refine hK.out _ _ hS_v9 (fun _ => ?_)
          clear hK K hb hg
          generalize v8.alloc (.cells ([.slice (some ⟨g0, 0, none⟩) 2 2, .slice a1 k1.length c1, .slice a2 l2.length c2, .slice a3 l3.length c3, .slice a4 k4.length c4, .slice a6 k6.length c6, .slice a7 l7.length c7, .slice a8 k8.length c8, .slice f.a bn f.cap] : List Value).toArray 22) = v9 at *
          obtain ⟨g9, hg9⟩ : ∃ g, g = v8.heap.size := ⟨_, rfl⟩
          rw [← hg9] at HG ⊢
          clear hg9
          try simp only [List.setIfInBounds_toArray, List.set_cons_zero, List.set_cons_succ]
          refine wpAnyH_ready (rs := [33]) (by as_aux_lemma => kernel_rfl) (by simp) (AllReadyH.cons rfl (fun K hK => ?_) (AllReadyH.nil))
          go_simp
          have hcat := HCAT.out v9 g9 [.slice (some ⟨g0, 0, none⟩) 2 2, .slice a1 k1.length c1, .slice a2 l2.length c2, .slice a3 l3.length c3, .slice a4 k4.length c4, .slice a6 k6.length c6, .slice a7 l7.length c7, .slice a8 k8.length c8, .slice f.a bn f.cap] HG.out rfl (fun j hj => by
            rcases (show j = 0 ∨ j = 1 ∨ j = 2 ∨ j = 3 ∨ j = 4 ∨ j = 5 ∨ j = 6 ∨ j = 7 ∨ j = 8 by omega) with rfl | rfl | rfl | rfl | rfl | rfl | rfl | rfl | rfl
            · exact ⟨_, _, HD0.out⟩
            · exact ⟨_, _, HD1.out⟩
            · exact ⟨_, _, HD2.out⟩
            · exact ⟨_, _, HD3.out⟩
            · exact ⟨_, _, HD4.out⟩
            · exact ⟨_, _, HD6.out⟩
            · exact ⟨_, _, HD7.out⟩
            · exact ⟨_, _, HD8.out⟩
            · exact ⟨_, _, HDb.out⟩)
          refine hcat.mono ?_
          rintro _ v10 ⟨aZ, cZ, rfl, hrZ, hb⟩
          have hS_v10 : Below W1.heap.size W1 v10 := Bn hS_v9 hb
          have HRZ := hid hrZ
          clear hcat hrZ hb
          refine hK.out _ _ hS_v10 (fun _ => ?_)
          clear hK K
          try simp only [List.setIfInBounds_toArray, List.set_cons_zero, List.set_cons_succ]
          refine Ord.take (i := 34) (d := 2) (v := ?vWbbba34) rfl rfl (by as_aux_lemma => kernel_rfl) (by as_aux_lemma => kernel_rfl) (by as_aux_lemma => kernel_rfl) (fun _ _ _ h => h) (by rfl) ?hWbbba34 (by assumption) ?_
          case hWbbba34 => intro wx hSw; go_simp; try with_reducible rfl
          try simp only [List.setIfInBounds_toArray, List.set_cons_zero, List.set_cons_succ]
          refine wpAnyH_done (by as_aux_lemma => kernel_rfl) ?_ _
          have HS9 := hid (Bn HB1.out hS_v10)
          clear hS_v10
          go_wp2
          go_ret
          exact ⟨aZ, cZ, rfl, HRZ.out, HS9.out⟩
        · go_simp
          refine (HV4.out v3).mono ?_
          rintro _ v4 ⟨a4, c4, rfl, hr, hb⟩
          have hS_v4 : Below W1.heap.size W1 v4 := Bn hS_v3 hb
          replace HD1 := hid (HD1.out.later hb)
          replace HD2 := hid (HD2.out.later hb)
          replace HD3 := hid (HD3.out.later hb)
          have HD4 := hid hr
          clear hr hb
          refine hK.out _ _ hS_v4 (fun _ => ?_)
          clear hK K
          try simp only [List.setIfInBounds_toArray, List.set_cons_zero, List.set_cons_succ]
          refine wpAnyH_ready (rs := [3, 21]) (by as_aux_lemma => kernel_rfl) (by simp) (AllReadyH.cons rfl (fun K hK => ?_) (AllReadyH.cons rfl (fun K hK => ?_) (AllReadyH.nil)))
          · try go_simp
            have hb := bel_alc v4 (.cells #[.int .u8 70, .int .u8 x0] 5)
            have hr := H2R.out v4
            have hS_v5 : Below W1.heap.size W1 (v4.alloc (.cells #[.int .u8 70, .int .u8 x0] 5)) := Bn hS_v4 hb
            replace HD1 := hid (HD1.out.later hb)
            replace HD2 := hid (HD2.out.later hb)
            replace HD3 := hid (HD3.out.later hb)
            replace HD4 := hid (HD4.out.later hb)
            have HD0 := hid hr
            clear hr hb
            refine hK.out _ _ hS_v5 (fun _ => ?_)
            clear hK K
            generalize v4.alloc (.cells #[.int .u8 70, .int .u8 x0] 5) = v5 at *
            obtain ⟨g0, hg0⟩ : ∃ g, g = v4.heap.size := ⟨_, rfl⟩
            rw [← hg0] at HD0 ⊢
            clear hg0
            try simp only [List.setIfInBounds_toArray, List.set_cons_zero, List.set_cons_succ]
            refine wpAnyH_ready (rs := [21]) (by as_aux_lemma => kernel_rfl) (by simp) (AllReadyH.cons rfl (fun K hK => ?_) (AllReadyH.nil))
            go_simp
            refine (HV6.out v5).mono ?_
            rintro _ v6 ⟨a6, c6, rfl, hr, hb⟩
            have hS_v6 : Below W1.heap.size W1 v6 := Bn hS_v5 hb
            replace HD1 := hid (HD1.out.later hb)
            replace HD2 := hid (HD2.out.later hb)
            replace HD3 := hid (HD3.out.later hb)
            replace HD4 := hid (HD4.out.later hb)
            replace HD0 := hid (HD0.out.later hb)
            have HD6 := hid hr
            clear hr hb
            refine hK.out _ _ hS_v6 (fun _ => ?_)
            clear hK K
            try simp only [List.setIfInBounds_toArray, List.set_cons_zero, List.set_cons_succ]
            refine wpAnyH_ready (rs := [24]) (by as_aux_lemma => kernel_rfl) (by simp) (AllReadyH.cons rfl (fun K hK => ?_) (AllReadyH.nil))
            go_simp
            refine (HL7.out v6).mono ?_
            rintro _ v7 ⟨a7, c7, rfl, hr, hb⟩
            have hS_v7 : Below W1.heap.size W1 v7 := Bn hS_v6 hb
            replace HD1 := hid (HD1.out.later hb)
            replace HD2 := hid (HD2.out.later hb)
            replace HD3 := hid (HD3.out.later hb)
            replace HD4 := hid (HD4.out.later hb)
            replace HD0 := hid (HD0.out.later hb)
            replace HD6 := hid (HD6.out.later hb)
            have HD7 := hid hr
            clear hr hb
            refine hK.out _ _ hS_v7 (fun _ => ?_)
            clear hK K
            try simp only [List.setIfInBounds_toArray, List.set_cons_zero, List.set_cons_succ]
            refine wpAnyH_ready (rs := [29]) (by as_aux_lemma => kernel_rfl) (by simp) (AllReadyH.cons rfl (fun K hK => ?_) (AllReadyH.nil))
            go_simp
            refine (HV8.out v7).mono ?_
            rintro _ v8 ⟨a8, c8, rfl, hr, hb⟩
            have hS_v8 : Below W1.heap.size W1 v8 := Bn hS_v7 hb
            replace HD1 := hid (HD1.out.later hb)
            replace HD2 := hid (HD2.out.later hb)
            replace HD3 := hid (HD3.out.later hb)
            replace HD4 := hid (HD4.out.later hb)
            replace HD0 := hid (HD0.out.later hb)
            replace HD6 := hid (HD6.out.later hb)
            replace HD7 := hid (HD7.out.later hb)
            have HD8 := hid hr
            clear hr hb
            refine hK.out _ _ hS_v8 (fun _ => ?_)
            clear hK K
            try simp only [List.setIfInBounds_toArray, List.set_cons_zero, List.set_cons_succ]
            refine wpAnyH_ready (rs := [32]) (by as_aux_lemma => kernel_rfl) (by simp) (AllReadyH.cons rfl (fun K hK => ?_) (AllReadyH.nil))
            try go_simp
            have hb := bel_alc v8 (.cells ([.slice (some ⟨g0, 0, none⟩) 2 2, .slice a1 k1.length c1, .slice a2 l2.length c2, .slice a3 l3.length c3, .slice a4 k4.length c4, .slice a6 k6.length c6, .slice a7 l7.length c7, .slice a8 k8.length c8, .slice f.a bn f.cap] : List Value).toArray 22)
            have hg := heap_alc v8 (.cells ([.slice (some ⟨g0, 0, none⟩) 2 2, .slice a1 k1.length c1, .slice a2 l2.length c2, .slice a3 l3.length c3, .slice a4 k4.length c4, .slice a6 k6.length c6, .slice a7 l7.length c7, .slice a8 k8.length c8, .slice f.a bn f.cap] : List Value).toArray 22)
            have hS_v9 : Below W1.heap.size W1 (v8.alloc (.cells ([.slice (some ⟨g0, 0, none⟩) 2 2, .slice a1 k1.length c1, .slice a2 l2.length c2, .slice a3 l3.length c3, .slice a4 k4.length c4, .slice a6 k6.length c6, .slice a7 l7.length c7, .slice a8 k8.length c8, .slice f.a bn f.cap] : List Value).toArray 22)) := Bn hS_v8 hb
            replace HD1 := hid (HD1.out.later hb)
            replace HD2 := hid (HD2.out.later hb)
            replace HD3 := hid (HD3.out.later hb)
            replace HD4 := hid (HD4.out.later hb)
            replace HD0 := hid (HD0.out.later hb)
            replace HD6 := hid (HD6.out.later hb)
            replace HD7 := hid (HD7.out.later hb)
            replace HD8 := hid (HD8.out.later hb)
            have HDb := hid (HBR.out _ hS_v9)
            have HG := hid hg
            refine hK.out _ _ hS_v9 (fun _ => ?_)
            clear hK K hb hg
            generalize v8.alloc (.cells ([.slice (some ⟨g0, 0, none⟩) 2 2, .slice a1 k1.length c1, .slice a2 l2.length c2, .slice a3 l3.length c3, .slice a4 k4.length c4, .slice a6 k6.length c6, .slice a7 l7.length c7, .slice a8 k8.length c8, .slice f.a bn f.cap] : List Value).toArray 22) = v9 at *
            obtain ⟨g9, hg9⟩ : ∃ g, g = v8.heap.size := ⟨_, rfl⟩
            rw [← hg9] at HG ⊢
            clear hg9
            try simp only [List.setIfInBounds_toArray, List.set_cons_zero, List.set_cons_succ]
            refine wpAnyH_ready (rs := [33]) (by as_aux_lemma => kernel_rfl) (by simp) (AllReadyH.cons rfl (fun K hK => ?_) (AllReadyH.nil))
            go_simp
            have hcat := HCAT.out v9 g9 [.slice (some ⟨g0, 0, none⟩) 2 2, .slice a1 k1.length c1, .slice a2 l2.length c2, .slice a3 l3.length c3, .slice a4 k4.length c4, .slice a6 k6.length c6, .slice a7 l7.length c7, .slice a8 k8.length c8, .slice f.a bn f.cap] HG.out rfl (fun j hj => by
              rcases (show j = 0 ∨ j = 1 ∨ j = 2 ∨ j = 3 ∨ j = 4 ∨ j = 5 ∨ j = 6 ∨ j = 7 ∨ j = 8 by omega) with rfl | rfl | rfl | rfl | rfl | rfl | rfl | rfl | rfl
              · exact ⟨_, _, HD0.out⟩
              · exact ⟨_, _, HD1.out⟩
              · exact ⟨_, _, HD2.out⟩
              · exact ⟨_, _, HD3.out⟩
              · exact ⟨_, _, HD4.out⟩
              · exact ⟨_, _, HD6.out⟩
              · exact ⟨_, _, HD7.out⟩
              · exact ⟨_, _, HD8.out⟩
              · exact ⟨_, _, HDb.out⟩)
            refine hcat.mono ?_
            rintro _ v10 ⟨aZ, cZ, rfl, hrZ, hb⟩
            have hS_v10 : Below W1.heap.size W1 v10 := Bn hS_v9 hb
            have HRZ := hid hrZ
            clear hcat hrZ hb
            refine hK.out _ _ hS_v10 (fun _ => ?_)
            clear hK K
            try simp only [List.setIfInBounds_toArray, List.set_cons_zero, List.set_cons_succ]
            refine Ord.take (i := 34) (d := 2) (v := ?vWbbbba34) rfl rfl (by as_aux_lemma => kernel_rfl) (by as_aux_lemma => kernel_rfl) (by as_aux_lemma => kernel_rfl) (fun _ _ _ h => h) (by rfl) ?hWbbbba34 (by assumption) ?_
            case hWbbbba34 => intro wx hSw; go_simp; try with_reducible rfl
            try simp only [List.setIfInBounds_toArray, List.set_cons_zero, List.set_cons_succ]
            refine wpAnyH_done (by as_aux_lemma => kernel_rfl) ?_ _
            have HS9 := hid (Bn HB1.out hS_v10)
            clear hS_v10
            go_wp2
            go_ret
            exact ⟨aZ, cZ, rfl, HRZ.out, HS9.out⟩
          · go_simp
            refine (HV6.out v4).mono ?_
            rintro _ v5 ⟨a6, c6, rfl, hr, hb⟩
            have hS_v5 : Below W1.heap.size W1 v5 := Bn hS_v4 hb
            replace HD1 := hid (HD1.out.later hb)
            replace HD2 := hid (HD2.out.later hb)
            replace HD3 := hid (HD3.out.later hb)
            replace HD4 := hid (HD4.out.later hb)
            have HD6 := hid hr
            clear hr hb
            refine hK.out _ _ hS_v5 (fun _ => ?_)
            clear hK K
            try simp only [List.setIfInBounds_toArray, List.set_cons_zero, List.set_cons_succ]
            refine wpAnyH_ready (rs := [3, 24]) (by as_aux_lemma => kernel_rfl) (by simp) (AllReadyH.cons rfl (fun K hK => ?_) (AllReadyH.cons rfl (fun K hK => ?_) (AllReadyH.nil)))
            · try go_simp
              have hb := bel_alc v5 (.cells #[.int .u8 70, .int .u8 x0] 5)
              have hr := H2R.out v5
              have hS_v6 : Below W1.heap.size W1 (v5.alloc (.cells #[.int .u8 70, .int .u8 x0] 5)) := Bn hS_v5 hb
              replace HD1 := hid (HD1.out.later hb)
              replace HD2 := hid (HD2.out.later hb)
              replace HD3 := hid (HD3.out.later hb)
              replace HD4 := hid (HD4.out.later hb)
              replace HD6 := hid (HD6.out.later hb)
              have HD0 := hid hr
              clear hr hb
              refine hK.out _ _ hS_v6 (fun _ => ?_)
              clear hK K
              generalize v5.alloc (.cells #[.int .u8 70, .int .u8 x0] 5) = v6 at *
              obtain ⟨g0, hg0⟩ : ∃ g, g = v5.heap.size := ⟨_, rfl⟩
              rw [← hg0] at HD0 ⊢
              clear hg0
              try simp only [List.setIfInBounds_toArray, List.set_cons_zero, List.set_cons_succ]
              refine wpAnyH_ready (rs := [24]) (by as_aux_lemma => kernel_rfl) (by simp) (AllReadyH.cons rfl (fun K hK => ?_) (AllReadyH.nil))
              go_simp
              refine (HL7.out v6).mono ?_
              rintro _ v7 ⟨a7, c7, rfl, hr, hb⟩
              have hS_v7 : Below W1.heap.size W1 v7 := Bn hS_v6 hb
              replace HD1 := hid (HD1.out.later hb)
              replace HD2 := hid (HD2.out.later hb)
              replace HD3 := hid (HD3.out.later hb)
              replace HD4 := hid (HD4.out.later hb)
              replace HD6 := hid (HD6.out.later hb)
              replace HD0 := hid (HD0.out.later hb)
              have HD7 := hid hr
              clear hr hb
              refine hK.out _ _ hS_v7 (fun _ => ?_)
              clear hK K
              try simp only [List.setIfInBounds_toArray, List.set_cons_zero, List.set_cons_succ]
              refine wpAnyH_ready (rs := [29]) (by as_aux_lemma => kernel_rfl) (by simp) (AllReadyH.cons rfl (fun K hK => ?_) (AllReadyH.nil))
              go_simp
              refine (HV8.out v7).mono ?_
              rintro _ v8 ⟨a8, c8, rfl, hr, hb⟩
              have hS_v8 : Below W1.heap.size W1 v8 := Bn hS_v7 hb
              replace HD1 := hid (HD1.out.later hb)
              replace HD2 := hid (HD2.out.later hb)
              replace HD3 := hid (HD3.out.later hb)
              replace HD4 := hid (HD4.out.later hb)
              replace HD6 := hid (HD6.out.later hb)
              replace HD0 := hid (HD0.out.later hb)
              replace HD7 := hid (HD7.out.later hb)
              have HD8 := hid hr
              clear hr hb
              refine hK.out _ _ hS_v8 (fun _ => ?_)
              clear hK K
              try simp only [List.setIfInBounds_toArray, List.set_cons_zero, List.set_cons_succ]
              refine wpAnyH_ready (rs := [32]) (by as_aux_lemma => kernel_rfl) (by simp) (AllReadyH.cons rfl (fun K hK => ?_) (AllReadyH.nil))
              try go_simp
              have hb := bel_alc v8 (.cells ([.slice (some ⟨g0, 0, none⟩) 2 2, .slice a1 k1.length c1, .slice a2 l2.length c2, .slice a3 l3.length c3, .slice a4 k4.length c4, .slice a6 k6.length c6, .slice a7 l7.length c7, .slice a8 k8.length c8, .slice f.a bn f.cap] : List Value).toArray 22)
              have hg := heap_alc v8 (.cells ([.slice (some ⟨g0, 0, none⟩) 2 2, .slice a1 k1.length c1, .slice a2 l2.length c2, .slice a3 l3.length c3, .slice a4 k4.length c4, .slice a6 k6.length c6, .slice a7 l7.length c7, .slice a8 k8.length c8, .slice f.a bn f.cap] : List Value).toArray 22)
              have hS_v9 : Below W1.heap.size W1 (v8.alloc (.cells ([.slice (some ⟨g0, 0, none⟩) 2 2, .slice a1 k1.length c1, .slice a2 l2.length c2, .slice a3 l3.length c3, .slice a4 k4.length c4, .slice a6 k6.length c6, .slice a7 l7.length c7, .slice a8 k8.length c8, .slice f.a bn f.cap] : List Value).toArray 22)) := Bn hS_v8 hb
              replace HD1 := hid (HD1.out.later hb)
              replace HD2 := hid (HD2.out.later hb)
              replace HD3 := hid (HD3.out.later hb)
              replace HD4 := hid (HD4.out.later hb)
              replace HD6 := hid (HD6.out.later hb)
              replace HD0 := hid (HD0.out.later hb)
              replace HD7 := hid (HD7.out.later hb)
              replace HD8 := hid (HD8.out.later hb)
              have HDb := hid (HBR.out _ hS_v9)
              have HG := hid hg
              refine hK.out _ _ hS_v9 (fun _ => ?_)
              clear hK K hb hg
              generalize v8.alloc (.cells ([.slice (some ⟨g0, 0, none⟩) 2 2, .slice a1 k1.length c1, .slice a2 l2.length c2, .slice a3 l3.length c3, .slice a4 k4.length c4, .slice a6 k6.length c6, .slice a7 l7.length c7, .slice a8 k8.length c8, .slice f.a bn f.cap] : List Value).toArray 22) = v9 at *
              obtain ⟨g9, hg9⟩ : ∃ g, g = v8.heap.size := ⟨_, rfl⟩
              rw [← hg9] at HG ⊢
              clear hg9
              try simp only [List.setIfInBounds_toArray, List.set_cons_zero, List.set_cons_succ]
              refine wpAnyH_ready (rs := [33]) (by as_aux_lemma => kernel_rfl) (by simp) (AllReadyH.cons rfl (fun K hK => ?_) (AllReadyH.nil))
              go_simp
              have hcat := HCAT.out v9 g9 [.slice (some ⟨g0, 0, none⟩) 2 2, .slice a1 k1.length c1, .slice a2 l2.length c2, .slice a3 l3.length c3, .slice a4 k4.length c4, .slice a6 k6.length c6, .slice a7 l7.length c7, .slice a8 k8.length c8, .slice f.a bn f.cap] HG.out rfl (fun j hj => by
                rcases (show j = 0 ∨ j = 1 ∨ j = 2 ∨ j = 3 ∨ j = 4 ∨ j = 5 ∨ j = 6 ∨ j = 7 ∨ j = 8 by omega) with rfl | rfl | rfl | rfl | rfl | rfl | rfl | rfl | rfl
                · exact ⟨_, _, HD0.out⟩
                · exact ⟨_, _, HD1.out⟩
                · exact ⟨_, _, HD2.out⟩
                · exact ⟨_, _, HD3.out⟩
                · exact ⟨_, _, HD4.out⟩
                · exact ⟨_, _, HD6.out⟩
                · exact ⟨_, _, HD7.out⟩
                · exact ⟨_, _, HD8.out⟩
                · exact ⟨_, _, HDb.out⟩)
              refine hcat.mono ?_
              rintro _ v10 ⟨aZ, cZ, rfl, hrZ, hb⟩
              have hS_v10 : Below W1.heap.size W1 v10 := Bn hS_v9 hb
              have HRZ := hid hrZ
              clear hcat hrZ hb
              refine hK.out _ _ hS_v10 (fun _ => ?_)
              clear hK K
              try simp only [List.setIfInBounds_toArray, List.set_cons_zero, List.set_cons_succ]
              refine Ord.take (i := 34) (d := 2) (v := ?vWbbbbba34) rfl rfl (by as_aux_lemma => kernel_rfl) (by as_aux_lemma => kernel_rfl) (by as_aux_lemma => kernel_rfl) (fun _ _ _ h => h) (by rfl) ?hWbbbbba34 (by assumption) ?_
              case hWbbbbba34 => intro wx hSw; go_simp; try with_reducible rfl
              try simp only [List.setIfInBounds_toArray, List.set_cons_zero, List.set_cons_succ]
              refine wpAnyH_done (by as_aux_lemma => kernel_rfl) ?_ _
              have HS9 := hid (Bn HB1.out hS_v10)
              clear hS_v10
              go_wp2
              go_ret
              exact ⟨aZ, cZ, rfl, HRZ.out, HS9.out⟩
            · go_simp
              refine (HL7.out v5).mono ?_
              rintro _ v6 ⟨a7, c7, rfl, hr, hb⟩
              have hS_v6 : Below W1.heap.size W1 v6 := Bn hS_v5 hb
              replace HD1 := hid (HD1.out.later hb)
              replace HD2 := hid (HD2.out.later hb)
              replace HD3 := hid (HD3.out.later hb)
              replace HD4 := hid (HD4.out.later hb)
              replace HD6 := hid (HD6.out.later hb)
              have HD7 := hid hr
              clear hr hb
              refine hK.out _ _ hS_v6 (fun _ => ?_)
              clear hK K
              try simp only [List.setIfInBounds_toArray, List.set_cons_zero, List.set_cons_succ]
              refine wpAnyH_ready (rs := [3, 29]) (by as_aux_lemma => kernel_rfl) (by simp) (AllReadyH.cons rfl (fun K hK => ?_) (AllReadyH.cons rfl (fun K hK => ?_) (AllReadyH.nil)))
              · try go_simp
                have hb := bel_alc v6 (.cells #[.int .u8 70, .int .u8 x0] 5)
                have hr := H2R.out v6
                have hS_v7 : Below W1.heap.size W1 (v6.alloc (.cells #[.int .u8 70, .int .u8 x0] 5)) := Bn hS_v6 hb
                replace HD1 := hid (HD1.out.later hb)
                replace HD2 := hid (HD2.out.later hb)
                replace HD3 := hid (HD3.out.later hb)
                replace HD4 := hid (HD4.out.later hb)
                replace HD6 := hid (HD6.out.later hb)
                replace HD7 := hid (HD7.out.later hb)
                have HD0 := hid hr
                clear hr hb
                refine hK.out _ _ hS_v7 (fun _ => ?_)
                clear hK K
                generalize v6.alloc (.cells #[.int .u8 70, .int .u8 x0] 5) = v7 at *
                obtain ⟨g0, hg0⟩ : ∃ g, g = v6.heap.size := ⟨_, rfl⟩
                rw [← hg0] at HD0 ⊢
                clear hg0
                try simp only [List.setIfInBounds_toArray, List.set_cons_zero, List.set_cons_succ]
                refine wpAnyH_ready (rs := [29]) (by as_aux_lemma => kernel_rfl) (by simp) (AllReadyH.cons rfl (fun K hK => ?_) (AllReadyH.nil))
                go_simp
                refine (HV8.out v7).mono ?_
                rintro _ v8 ⟨a8, c8, rfl, hr, hb⟩
                have hS_v8 : Below W1.heap.size W1 v8 := Bn hS_v7 hb
                replace HD1 := hid (HD1.out.later hb)
                replace HD2 := hid (HD2.out.later hb)
                replace HD3 := hid (HD3.out.later hb)
                replace HD4 := hid (HD4.out.later hb)
                replace HD6 := hid (HD6.out.later hb)
                replace HD7 := hid (HD7.out.later hb)
                replace HD0 := hid (HD0.out.later hb)
                have HD8 := hid hr
                clear hr hb
                refine hK.out _ _ hS_v8 (fun _ => ?_)
                clear hK K
                try simp only [List.setIfInBounds_toArray, List.set_cons_zero, List.set_cons_succ]
                refine wpAnyH_ready (rs := [32]) (by as_aux_lemma => kernel_rfl) (by simp) (AllReadyH.cons rfl (fun K hK => ?_) (AllReadyH.nil))
                try go_simp
                have hb := bel_alc v8 (.cells ([.slice (some ⟨g0, 0, none⟩) 2 2, .slice a1 k1.length c1, .slice a2 l2.length c2, .slice a3 l3.length c3, .slice a4 k4.length c4, .slice a6 k6.length c6, .slice a7 l7.length c7, .slice a8 k8.length c8, .slice f.a bn f.cap] : List Value).toArray 22)
                have hg := heap_alc v8 (.cells ([.slice (some ⟨g0, 0, none⟩) 2 2, .slice a1 k1.length c1, .slice a2 l2.length c2, .slice a3 l3.length c3, .slice a4 k4.length c4, .slice a6 k6.length c6, .slice a7 l7.length c7, .slice a8 k8.length c8, .slice f.a bn f.cap] : List Value).toArray 22)
                have hS_v9 : Below W1.heap.size W1 (v8.alloc (.cells ([.slice (some ⟨g0, 0, none⟩) 2 2, .slice a1 k1.length c1, .slice a2 l2.length c2, .slice a3 l3.length c3, .slice a4 k4.length c4, .slice a6 k6.length c6, .slice a7 l7.length c7, .slice a8 k8.length c8, .slice f.a bn f.cap] : List Value).toArray 22)) := Bn hS_v8 hb
                replace HD1 := hid (HD1.out.later hb)
                replace HD2 := hid (HD2.out.later hb)
                replace HD3 := hid (HD3.out.later hb)
                replace HD4 := hid (HD4.out.later hb)
                replace HD6 := hid (HD6.out.later hb)
                replace HD7 := hid (HD7.out.later hb)
                replace HD0 := hid (HD0.out.later hb)
                replace HD8 := hid (HD8.out.later hb)
                have HDb := hid (HBR.out _ hS_v9)
                have HG := hid hg
                refine hK.out _ _ hS_v9 (fun _ => ?_)
                clear hK K hb hg
                generalize v8.alloc (.cells ([.slice (some ⟨g0, 0, none⟩) 2 2, .slice a1 k1.length c1, .slice a2 l2.length c2, .slice a3 l3.length c3, .slice a4 k4.length c4, .slice a6 k6.length c6, .slice a7 l7.length c7, .slice a8 k8.length c8, .slice f.a bn f.cap] : List Value).toArray 22) = v9 at *
                obtain ⟨g9, hg9⟩ : ∃ g, g = v8.heap.size := ⟨_, rfl⟩
                rw [← hg9] at HG ⊢
                clear hg9
                try simp only [List.setIfInBounds_toArray, List.set_cons_zero, List.set_cons_succ]
                refine wpAnyH_ready (rs := [33]) (by as_aux_lemma => kernel_rfl) (by simp) (AllReadyH.cons rfl (fun K hK => ?_) (AllReadyH.nil))
                go_simp
                have hcat := HCAT.out v9 g9 [.slice (some ⟨g0, 0, none⟩) 2 2, .slice a1 k1.length c1, .slice a2 l2.length c2, .slice a3 l3.length c3, .slice a4 k4.length c4, .slice a6 k6.length c6, .slice a7 l7.length c7, .slice a8 k8.length c8, .slice f.a bn f.cap] HG.out rfl (fun j hj => by
                  rcases (show j = 0 ∨ j = 1 ∨ j = 2 ∨ j = 3 ∨ j = 4 ∨ j = 5 ∨ j = 6 ∨ j = 7 ∨ j = 8 by omega) with rfl | rfl | rfl | rfl | rfl | rfl | rfl | rfl | rfl
                  · exact ⟨_, _, HD0.out⟩
                  · exact ⟨_, _, HD1.out⟩
                  · exact ⟨_, _, HD2.out⟩
                  · exact ⟨_, _, HD3.out⟩
                  · exact ⟨_, _, HD4.out⟩
                  · exact ⟨_, _, HD6.out⟩
                  · exact ⟨_, _, HD7.out⟩
                  · exact ⟨_, _, HD8.out⟩
                  · exact ⟨_, _, HDb.out⟩)
                refine hcat.mono ?_
                rintro _ v10 ⟨aZ, cZ, rfl, hrZ, hb⟩
                have hS_v10 : Below W1.heap.size W1 v10 := Bn hS_v9 hb
                have HRZ := hid hrZ
                clear hcat hrZ hb
                refine hK.out _ _ hS_v10 (fun _ => ?_)
                clear hK K
                try simp only [List.setIfInBounds_toArray, List.set_cons_zero, List.set_cons_succ]
                refine Ord.take (i := 34) (d := 2) (v := ?vWbbbbbba34) rfl rfl (by as_aux_lemma => kernel_rfl) (by as_aux_lemma => kernel_rfl) (by as_aux_lemma => kernel_rfl) (fun _ _ _ h => h) (by rfl) ?hWbbbbbba34 (by assumption) ?_
                case hWbbbbbba34 => intro wx hSw; go_simp; try with_reducible rfl
                try simp only [List.setIfInBounds_toArray, List.set_cons_zero, List.set_cons_succ]
                refine wpAnyH_done (by as_aux_lemma => kernel_rfl) ?_ _
                have HS9 := hid (Bn HB1.out hS_v10)
                clear hS_v10
                go_wp2
                go_ret
                exact ⟨aZ, cZ, rfl, HRZ.out, HS9.out⟩
              · go_simp
                refine (HV8.out v6).mono ?_
                rintro _ v7 ⟨a8, c8, rfl, hr, hb⟩
                have hS_v7 : Below W1.heap.size W1 v7 := Bn hS_v6 hb
                replace HD1 := hid (HD1.out.later hb)
                replace HD2 := hid (HD2.out.later hb)
                replace HD3 := hid (HD3.out.later hb)
                replace HD4 := hid (HD4.out.later hb)
                replace HD6 := hid (HD6.out.later hb)
                replace HD7 := hid (HD7.out.later hb)
                have HD8 := hid hr
                clear hr hb
                refine hK.out _ _ hS_v7 (fun _ => ?_)
                clear hK K
                try simp only [List.setIfInBounds_toArray, List.set_cons_zero, List.set_cons_succ]
                refine wpAnyH_ready (rs := [3]) (by as_aux_lemma => kernel_rfl) (by simp) (AllReadyH.cons rfl (fun K hK => ?_) (AllReadyH.nil))
                try go_simp
                have hb := bel_alc v7 (.cells #[.int .u8 70, .int .u8 x0] 5)
                have hr := H2R.out v7
                have hS_v8 : Below W1.heap.size W1 (v7.alloc (.cells #[.int .u8 70, .int .u8 x0] 5)) := Bn hS_v7 hb
                replace HD1 := hid (HD1.out.later hb)
                replace HD2 := hid (HD2.out.later hb)
                replace HD3 := hid (HD3.out.later hb)
                replace HD4 := hid (HD4.out.later hb)
                replace HD6 := hid (HD6.out.later hb)
                replace HD7 := hid (HD7.out.later hb)
                replace HD8 := hid (HD8.out.later hb)
                have HD0 := hid hr
                clear hr hb
                refine hK.out _ _ hS_v8 (fun _ => ?_)
                clear hK K
                generalize v7.alloc (.cells #[.int .u8 70, .int .u8 x0] 5) = v8 at *
                obtain ⟨g0, hg0⟩ : ∃ g, g = v7.heap.size := ⟨_, rfl⟩
                rw [← hg0] at HD0 ⊢
                clear hg0
                try simp only [List.setIfInBounds_toArray, List.set_cons_zero, List.set_cons_succ]
                refine wpAnyH_ready (rs := [32]) (by as_aux_lemma => kernel_rfl) (by simp) (AllReadyH.cons rfl (fun K hK => ?_) (AllReadyH.nil))
                try go_simp
                have hb := bel_alc v8 (.cells ([.slice (some ⟨g0, 0, none⟩) 2 2, .slice a1 k1.length c1, .slice a2 l2.length c2, .slice a3 l3.length c3, .slice a4 k4.length c4, .slice a6 k6.length c6, .slice a7 l7.length c7, .slice a8 k8.length c8, .slice f.a bn f.cap] : List Value).toArray 22)
                have hg := heap_alc v8 (.cells ([.slice (some ⟨g0, 0, none⟩) 2 2, .slice a1 k1.length c1, .slice a2 l2.length c2, .slice a3 l3.length c3, .slice a4 k4.length c4, .slice a6 k6.length c6, .slice a7 l7.length c7, .slice a8 k8.length c8, .slice f.a bn f.cap] : List Value).toArray 22)
                have hS_v9 : Below W1.heap.size W1 (v8.alloc (.cells ([.slice (some ⟨g0, 0, none⟩) 2 2, .slice a1 k1.length c1, .slice a2 l2.length c2, .slice a3 l3.length c3, .slice a4 k4.length c4, .slice a6 k6.length c6, .slice a7 l7.length c7, .slice a8 k8.length c8, .slice f.a bn f.cap] : List Value).toArray 22)) := Bn hS_v8 hb
                replace HD1 := hid (HD1.out.later hb)
                replace HD2 := hid (HD2.out.later hb)
                replace HD3 := hid (HD3.out.later hb)
                replace HD4 := hid (HD4.out.later hb)
                replace HD6 := hid (HD6.out.later hb)
                replace HD7 := hid (HD7.out.later hb)
                replace HD8 := hid (HD8.out.later hb)
                replace HD0 := hid (HD0.out.later hb)
                have HDb := hid (HBR.out _ hS_v9)
                have HG := hid hg
                refine hK.out _ _ hS_v9 (fun _ => ?_)
                clear hK K hb hg
                generalize v8.alloc (.cells ([.slice (some ⟨g0, 0, none⟩) 2 2, .slice a1 k1.length c1, .slice a2 l2.length c2, .slice a3 l3.length c3, .slice a4 k4.length c4, .slice a6 k6.length c6, .slice a7 l7.length c7, .slice a8 k8.length c8, .slice f.a bn f.cap] : List Value).toArray 22) = v9 at *
                obtain ⟨g9, hg9⟩ : ∃ g, g = v8.heap.size := ⟨_, rfl⟩
                rw [← hg9] at HG ⊢
                clear hg9
                try simp only [List.setIfInBounds_toArray, List.set_cons_zero, List.set_cons_succ]
                refine wpAnyH_ready (rs := [33]) (by as_aux_lemma => kernel_rfl) (by simp) (AllReadyH.cons rfl (fun K hK => ?_) (AllReadyH.nil))
                go_simp
                have hcat := HCAT.out v9 g9 [.slice (some ⟨g0, 0, none⟩) 2 2, .slice a1 k1.length c1, .slice a2 l2.length c2, .slice a3 l3.length c3, .slice a4 k4.length c4, .slice a6 k6.length c6, .slice a7 l7.length c7, .slice a8 k8.length c8, .slice f.a bn f.cap] HG.out rfl (fun j hj => by
                  rcases (show j = 0 ∨ j = 1 ∨ j = 2 ∨ j = 3 ∨ j = 4 ∨ j = 5 ∨ j = 6 ∨ j = 7 ∨ j = 8 by omega) with rfl | rfl | rfl | rfl | rfl | rfl | rfl | rfl | rfl
                  · exact ⟨_, _, HD0.out⟩
                  · exact ⟨_, _, HD1.out⟩
                  · exact ⟨_, _, HD2.out⟩
                  · exact ⟨_, _, HD3.out⟩
                  · exact ⟨_, _, HD4.out⟩
                  · exact ⟨_, _, HD6.out⟩
                  · exact ⟨_, _, HD7.out⟩
                  · exact ⟨_, _, HD8.out⟩
                  · exact ⟨_, _, HDb.out⟩)
                refine hcat.mono ?_
                rintro _ v10 ⟨aZ, cZ, rfl, hrZ, hb⟩
                have hS_v10 : Below W1.heap.size W1 v10 := Bn hS_v9 hb
                have HRZ := hid hrZ
                clear hcat hrZ hb
                refine hK.out _ _ hS_v10 (fun _ => ?_)
                clear hK K
                try simp only [List.setIfInBounds_toArray, List.set_cons_zero, List.set_cons_succ]
                refine Ord.take (i := 34) (d := 2) (v := ?vWbbbbbbb34) rfl rfl (by as_aux_lemma => kernel_rfl) (by as_aux_lemma => kernel_rfl) (by as_aux_lemma => kernel_rfl) (fun _ _ _ h => h) (by rfl) ?hWbbbbbbb34 (by assumption) ?_
                case hWbbbbbbb34 => intro wx hSw; go_simp; try with_reducible rfl
                try simp only [List.setIfInBounds_toArray, List.set_cons_zero, List.set_cons_succ]
                refine wpAnyH_done (by as_aux_lemma => kernel_rfl) ?_ _
                have HS9 := hid (Bn HB1.out hS_v10)
                clear hS_v10
                go_wp2
                go_ret
                exact ⟨aZ, cZ, rfl, HRZ.out, HS9.out⟩
end Go.Proofs.YtgnjicpmfpgdeaaDoor
