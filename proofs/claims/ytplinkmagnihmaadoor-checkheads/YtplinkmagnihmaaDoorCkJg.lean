/-
  The document's side of marks: whether a mark is sealed. The document's side of marks: its seal. The document's side of marks: body.
-/
import Derived.Test.YtplinkmagnihmaaDoorCkJf
import Derived.Test.YtplinkmagnihmaaDoorCkJa
import Derived.Test.YtplinkmagnihmaaDoorShJe
import Derived.Test.YtplinkmagnihmaaDoorCkJb
namespace Go.Proofs.YtplinkmagnihmaaDoor
open Go.ChangeShapes Go.WideShapes Go.ChangeAt Go.RowKit Go.Deep Go.Lib

theorem vint_pos (x : Int) : 0 < (vint x).length := by unfold vint vintL; split <;> simp
theorem own2 (V : World) (s : Int) : (V.alloc (.cells #[.int .u8 77, .int .u8 s] 5)).ownsRow V.heap.size 5 1 (.slice (some ⟨V.heap.size, 0, none⟩) 2 2) ([77, s] : List Int).length (([77, s] : List Int).map (Value.int .u8)) :=
  ⟨rfl, .inr ⟨V.heap.size, 2, #[.int .u8 77, .int .u8 s], rfl, Nat.le_refl _, heap_alc V _, Nat.le_refl _, by unfold maxLen; omega, rfl, rfl⟩⟩
theorem wp_own_app (w : World) {o : Oper} {ac : Act} {K : Act → World → Prop} {Q : Exit → Act → World → Prop} (s x : Operand)
    (ho : o.op = .call { callee := .builtin .append, args := #[s, x], argTypes := #[22, 22] }) (B : Nat) (v : Value) (l : List Int) (hs : ac.eval s = v) (hown : w.ownsRow B 5 1 v l.length (l.map (Value.int .u8)))
    (a : Option Addr) (cap : Nat) (zs : List Int) (hx : ac.eval x = .slice a zs.length cap) (hrd : Ri w .u8 a cap zs) (h0 : 0 < zs.length) (hbd : l.length + zs.length ≤ 1000000) (hB : B ≤ w.heap.size)
    (h : ∀ v' w', w'.ownsRow B 5 1 v' (l ++ zs).length ((l ++ zs).map (Value.int .u8)) → Below B w w' → K (ac.put o.dst v') w') : o.wp Tryd.prog ac w K Q := by
  obtain ⟨i0, hi, hz0, hz1, hz2⟩ := info_parts Tryd.info5Z
  cases a with
  | none =>
    obtain ⟨_, _, h', _⟩ := hrd.cells h0
    cases h'
  | some ad =>
    refine wp_append_own w s x 22 ho B 5 i0 (.int .u8 0) 1 1 Tryd.underlying22 hi hz0 hz1 hz2 rfl (by decide) v l.length _ hs hown ad zs.length cap (zs.map (Value.int .u8)) hx (by simp) ?_ (fun u hu => by obtain ⟨y, _, rfl⟩ := List.mem_map.1 hu; rfl) (by unfold maxLen; omega) (by omega) hB ?_
    · intro j u hj
      have hjl : j < zs.length := by
        have := (List.getElem?_eq_some_iff.1 hj).1
        simpa using this
      obtain ⟨b, off, hb, _, hc⟩ := hrd.cells (by omega)
      have hb' := Option.some.inj hb
      subst hb'
      rw [Go.WideShapes.add_plain, hc j hjl, ← hj]
      simp [List.getD, List.getElem?_eq_getElem hjl]
    · intro v' w' h1 h2 _
      refine h v' w' ?_ ((Below.refl B w).grown h2 hB (fun j hj => (hown.lt j hj).1))
      rw [List.length_append, List.map_append]
      exact h1
set_option maxHeartbeats 6400000 in
set_option maxRecDepth 100000 in
theorem dbody_word (m : Mrk) (w : World) (h : MOk m) (hm : mayM m = true) :
    Calls Tryd.prog 59 #[.agg (mkV m).toArray] w fun e w' => ∃ v, e = .returned v ∧ w'.ownsRow w.heap.size 5 1 v (bodB m).length ((bodB m).map (Value.int .u8)) ∧ Below w.heap.size w w' := by
  obtain ⟨⟨hs0, hs1⟩, ⟨hn0, hn1⟩, ⟨hk0, hk1⟩⟩ := may_parts2 hm
  have HV1 := hid (fun V => varr_ri m.2.1.1 V (by omega) (by omega))
  have HV2 := hid (fun V => varr_ri m.2.1.2.1 V (by omega) (by omega))
  have HL1 := hid (vint10 m.2.1.1)
  have HP1 := hid (vint_pos m.2.1.1)
  have HL2 := hid (vint10 m.2.1.2.1)
  have HMO := hid h
  have hbx := heap_alc w (.cells (mkV m).toArray 45)
  have hB1 := bel_alc w (.cells (mkV m).toArray 45)
  have hsz : (w.alloc (.cells (mkV m).toArray 45)).heap.size = w.heap.size + 1 := by simp
  obtain ⟨W1, hW1⟩ : ∃ W1, W1 = w.alloc (.cells (mkV m).toArray 45) := ⟨_, rfl⟩
  rw [← hW1] at hbx hB1 hsz
  have HW1 := hid hW1
  have HB1 := hid hB1
  have HBX := hid hbx
  have HS1 := hid hsz
  have HCS := hid (fun X (hX : Below W1.heap.size W1 X) => mk_site (blk_range (blk_later hbx hX)))
  have HCN := hid (fun X (hX : Below W1.heap.size W1 X) => hd_seq (mk_hd (blk_range (blk_later hbx hX))))
  clear h hm hbx hB1 hsz hW1
  obtain ⟨BB, hBB⟩ : ∃ BB, BB = bodB m := ⟨_, rfl⟩
  rw [← hBB]
  have HBB : Hid ((([77, m.1] ++ vint m.2.1.1) ++ vint m.2.1.2.1) ++ m.2.1.2.2 = BB) := hBB.symm
  clear hBB
  obtain ⟨s, hs⟩ : ∃ s, s = m.1 := ⟨_, rfl⟩
  obtain ⟨n, hn⟩ : ∃ n, n = m.2.1.1 := ⟨_, rfl⟩
  obtain ⟨k, hk⟩ : ∃ k, k = m.2.1.2.1 := ⟨_, rfl⟩
  rw [← hs] at hs0 hs1 HCS HBB
  rw [← hn] at hn0 hn1 HV1 HL1 HP1 HCN HBB
  rw [← hk] at hk0 hk1 HV2 HL2 HBB
  have HKK := hid hk
  have HWS := hid (show IntKind.u8.wrap s = s by rw [IntKind.wrap_u8]; omega)
  have HWN := hid (show IntKind.u64.wrap n = n by rw [IntKind.wrap_u64]; omega)
  clear hs hn hk
  go_enter Tryd.func59, Tryd.ntmps59
  go_wp2_with fail
  rw [← HW1.out]
  refine wp_region_held_drew (S := fun X => Below W1.heap.size W1 X) (by kernel_rfl) (Below.refl _ _).drew (fun hS_v0 => ?_)
  have hd_v0 : Below W1.heap.size W1 W1.drew := (Below.refl _ _).drew
  generalize W1.drew = v0 at *
  simp only [List.size_toArray, List.length_cons, List.length_nil, Nat.reduceAdd]
  clear hd_v0
  refine Ord.take (i := 0) (d := 4) (v := ?vM0) rfl rfl (by as_aux_lemma => kernel_rfl) (by as_aux_lemma => kernel_rfl) (by as_aux_lemma => kernel_rfl) (fun _ _ _ h => h) (by rfl) ?hM0 (by assumption) ?_
  case hM0 => intro wx hSw; go_simp; try with_reducible rfl
  try simp only [List.setIfInBounds_toArray, List.set_cons_zero, List.set_cons_succ]
  refine Ord.take (i := 1) (d := 5) (v := .int .i64 s) rfl rfl (by as_aux_lemma => kernel_rfl) (by as_aux_lemma => kernel_rfl) (by as_aux_lemma => kernel_rfl) (fun _ _ _ h => h) (by rfl) ?hM1 (by assumption) ?_
  case hM1 => intro wx hSw; have hc := HCS.out _ hSw; go_simp; try with_reducible rfl
  try simp only [List.setIfInBounds_toArray, List.set_cons_zero, List.set_cons_succ]
  refine Ord.take (i := 2) (d := 6) (v := .int .u8 s) rfl rfl (by as_aux_lemma => kernel_rfl) (by as_aux_lemma => kernel_rfl) (by as_aux_lemma => kernel_rfl) (fun _ _ _ h => h) (by rfl) ?hM2 (by assumption) ?_
  case hM2 => intro wx hSw; have hw := HWS.out; go_simp; try with_reducible rfl
  try simp only [List.setIfInBounds_toArray, List.set_cons_zero, List.set_cons_succ]
  refine Ord.take (i := 4) (d := 8) (v := ?vM4) rfl rfl (by as_aux_lemma => kernel_rfl) (by as_aux_lemma => kernel_rfl) (by as_aux_lemma => kernel_rfl) (fun _ _ _ h => h) (by rfl) ?hM4 (by assumption) ?_
  case hM4 => intro wx hSw; go_simp; try with_reducible rfl
  try simp only [List.setIfInBounds_toArray, List.set_cons_zero, List.set_cons_succ]
  refine Ord.take (i := 5) (d := 9) (v := ?vM5) rfl rfl (by as_aux_lemma => kernel_rfl) (by as_aux_lemma => kernel_rfl) (by as_aux_lemma => kernel_rfl) (fun _ _ _ h => h) (by rfl) ?hM5 (by assumption) ?_
  case hM5 => intro wx hSw; go_simp; try with_reducible rfl
  try simp only [List.setIfInBounds_toArray, List.set_cons_zero, List.set_cons_succ]
  refine Ord.take (i := 6) (d := 10) (v := .int .i64 n) rfl rfl (by as_aux_lemma => kernel_rfl) (by as_aux_lemma => kernel_rfl) (by as_aux_lemma => kernel_rfl) (fun _ _ _ h => h) (by rfl) ?hM6 (by assumption) ?_
  case hM6 => intro wx hSw; have hc := HCN.out _ hSw; go_simp; try with_reducible rfl
  try simp only [List.setIfInBounds_toArray, List.set_cons_zero, List.set_cons_succ]
  refine Ord.take (i := 7) (d := 11) (v := .int .u64 n) rfl rfl (by as_aux_lemma => kernel_rfl) (by as_aux_lemma => kernel_rfl) (by as_aux_lemma => kernel_rfl) (fun _ _ _ h => h) (by rfl) ?hM7 (by assumption) ?_
  case hM7 => intro wx hSw; have hw := HWN.out; go_simp; try with_reducible rfl
  try simp only [List.setIfInBounds_toArray, List.set_cons_zero, List.set_cons_succ]
  refine wpAnyH_ready (rs := [3, 8]) (by as_aux_lemma => kernel_rfl) (by simp) (AllReadyH.cons rfl (fun K hK => ?_) (AllReadyH.cons rfl (fun K hK => ?_) (AllReadyH.nil)))
  · go_simp
    have HOA := hid (own2 v0 s)
    have hbA := bel_alc v0 (.cells #[.int .u8 77, .int .u8 s] 5)
    have hS_v1 : Below W1.heap.size W1 (v0.alloc (.cells #[.int .u8 77, .int .u8 s] 5)) := Bn hS_v0 hbA
    have HGA : Hid (W1.heap.size ≤ v0.heap.size) := hS_v0.size
    have HBA := hid hbA
    refine hK.out _ _ hS_v1 (fun _ => ?_)
    clear hK K hbA
    obtain ⟨gA, hgA⟩ : ∃ g, g = v0.heap.size := ⟨_, rfl⟩
    rw [← hgA] at HOA HGA ⊢
    generalize v0.alloc (.cells #[.int .u8 77, .int .u8 s] 5) = v1 at *
    clear hgA
    try simp only [List.setIfInBounds_toArray, List.set_cons_zero, List.set_cons_succ]
    refine wpAnyH_ready (rs := [8]) (by as_aux_lemma => kernel_rfl) (by simp) (AllReadyH.cons rfl (fun K hK => ?_) (AllReadyH.nil))
    go_simp
    refine (HV1.out v1).mono ?_
    rintro _ v2 ⟨a1, c1, rfl, hr1, hb1⟩
    have hS_v2 : Below W1.heap.size W1 v2 := Bn hS_v1 hb1
    have HR1 := hid hr1
    have HBC := hid hb1
    refine hK.out _ _ hS_v2 (fun _ => ?_)
    clear hK K hr1 hb1
    try simp only [List.setIfInBounds_toArray, List.set_cons_zero, List.set_cons_succ]
    have HOZ := hid (own_base (own_later HOA.out HBC.out) HGA.out)
    have HRZ := HR1
    refine wpAnyH_ready (rs := [9]) (by as_aux_lemma => kernel_rfl) (by simp) (AllReadyH.cons rfl (fun K hK => ?_) (AllReadyH.nil))
    refine wp_own_app v2 _ _ rfl W1.heap.size (.slice (some ⟨gA, 0, none⟩) 2 2) [77, s] rfl HOZ.out a1 c1 (vint n) rfl HRZ.out HP1.out (by have := HL1.out; simp; omega) hS_v2.size ?_
    intro v9 v3 ho3 hb3
    have hS_v3 : Below W1.heap.size W1 v3 := hS_v2.trans hb3
    have HO3 := hid ho3
    refine hK.out _ _ hS_v3 (fun _ => ?_)
    clear hK K ho3 hb3
    try simp only [List.setIfInBounds_toArray, List.set_cons_zero, List.set_cons_succ]
    refine Ord.take (i := 10) (d := 3) (v := ?vA10) rfl rfl (by as_aux_lemma => kernel_rfl) (by as_aux_lemma => kernel_rfl) (by as_aux_lemma => kernel_rfl) (fun _ _ _ h => h) (by rfl) ?hA10 (by assumption) ?_
    case hA10 => intro wx hSw; go_simp; try with_reducible rfl
    try simp only [List.setIfInBounds_toArray, List.set_cons_zero, List.set_cons_succ]
    refine wpAnyH_done (by as_aux_lemma => kernel_rfl) ?_ _
    have HS3 := hid hS_v3
    clear hS_v3 hS_v2 hS_v1 hS_v0
    have H2 : Hid (Wm w v3 m v9 ([77, s] ++ vint n)) := ⟨by rw [← HS1.out]; simpa using HO3.out, blk_later HBX.out HS3.out, Bn HB1.out HS3.out⟩
    have c2 := hd_epoch (mk_hd (blk_range H2.out.box))
    rw [← HKK.out] at c2
    clear HO3 HOZ HRZ
    generalize hA2 : [77, s] ++ vint n = A2 at *
    have HA2 := hid hA2
    have HN2 : Hid (A2.length ≤ 12) := by show _ ≤ _; rw [← hA2]; have := HL1.out; simp; omega
    clear hA2
    go_wp2_with fail
    refine (HV2.out _).mono ?_
    rintro _ W3 ⟨a3, c3, rfl, hr3, hb3⟩
    have H3 := hid (H2.out.later hb3)
    have R3 := hid hr3
    clear hr3 hb3 H2 HV2 c2
    go_wp2_with (at_builtin; refine own_app _ rfl _ _ rfl (w.heap.size + 1) _ A2 rfl H3.out.own a3 c3 (vint k) rfl R3.out (by have := HL2.out; have := HN2.out; omega) H3.out.ge ?_)
    intro v4 W4 ho4 hb4
    have H4 := hid (H3.out.app (Z := vint k) (by simpa using ho4) hb4)
    have R4 := hid (mk_ri (blk_lt H4.out.box) (blk_range H4.out.box) HMO.out.hd)
    have HPL := hid HMO.out.hd.len
    clear ho4 hb4 H3 R3
    generalize hA4 : A2 ++ vint k = A4 at *
    have HA4 := hid hA4
    have HN4 : Hid (A4.length ≤ 22) := by show _ ≤ _; rw [← hA4]; have := HL2.out; have := HN2.out; simp; omega
    clear hA4
    go_wp2_with (at_builtin; refine own_app _ rfl _ _ rfl (w.heap.size + 1) _ A4 rfl H4.out.own (some ⟨w.heap.size, 3, none⟩) 32 m.2.1.2.2 (by rw [HPL.out]; rfl) R4.out (by have := HPL.out; have := HN4.out; omega) H4.out.ge ?_)
    intro v5 W5 ho5 hb5
    have H5 := hid (H4.out.app (Z := m.2.1.2.2) (by simpa using ho5) hb5)
    clear ho5 hb5 H4 R4
    go_wp2
    go_ret
    have HE : A4 ++ m.2.1.2.2 = BB := HBB.out
    rw [← HE]
    exact ⟨_, rfl, own_base H5.out.own (Nat.le_succ _), H5.out.bel⟩
  · go_simp
    refine (HV1.out v0).mono ?_
    rintro _ v1 ⟨a1, c1, rfl, hr1, hb1⟩
    have hS_v1 : Below W1.heap.size W1 v1 := Bn hS_v0 hb1
    have HR1 := hid hr1
    have HBC := hid hb1
    refine hK.out _ _ hS_v1 (fun _ => ?_)
    clear hK K hr1 hb1
    try simp only [List.setIfInBounds_toArray, List.set_cons_zero, List.set_cons_succ]
    refine wpAnyH_ready (rs := [3]) (by as_aux_lemma => kernel_rfl) (by simp) (AllReadyH.cons rfl (fun K hK => ?_) (AllReadyH.nil))
    go_simp
    have HOA := hid (own2 v1 s)
    have hbA := bel_alc v1 (.cells #[.int .u8 77, .int .u8 s] 5)
    have hS_v2 : Below W1.heap.size W1 (v1.alloc (.cells #[.int .u8 77, .int .u8 s] 5)) := Bn hS_v1 hbA
    have HGA : Hid (W1.heap.size ≤ v1.heap.size) := hS_v1.size
    have HBA := hid hbA
    refine hK.out _ _ hS_v2 (fun _ => ?_)
    clear hK K hbA
    obtain ⟨gA, hgA⟩ : ∃ g, g = v1.heap.size := ⟨_, rfl⟩
    rw [← hgA] at HOA HGA ⊢
    generalize v1.alloc (.cells #[.int .u8 77, .int .u8 s] 5) = v2 at *
    clear hgA
    try simp only [List.setIfInBounds_toArray, List.set_cons_zero, List.set_cons_succ]
    have HOZ := hid (own_base HOA.out HGA.out)
    have HRZ := hid (HR1.out.later HBA.out)
    refine wpAnyH_ready (rs := [9]) (by as_aux_lemma => kernel_rfl) (by simp) (AllReadyH.cons rfl (fun K hK => ?_) (AllReadyH.nil))
    refine wp_own_app v2 _ _ rfl W1.heap.size (.slice (some ⟨gA, 0, none⟩) 2 2) [77, s] rfl HOZ.out a1 c1 (vint n) rfl HRZ.out HP1.out (by have := HL1.out; simp; omega) hS_v2.size ?_
    intro v9 v3 ho3 hb3
    have hS_v3 : Below W1.heap.size W1 v3 := hS_v2.trans hb3
    have HO3 := hid ho3
    refine hK.out _ _ hS_v3 (fun _ => ?_)
    clear hK K ho3 hb3
    try simp only [List.setIfInBounds_toArray, List.set_cons_zero, List.set_cons_succ]
    refine Ord.take (i := 10) (d := 3) (v := ?vB10) rfl rfl (by as_aux_lemma => kernel_rfl) (by as_aux_lemma => kernel_rfl) (by as_aux_lemma => kernel_rfl) (fun _ _ _ h => h) (by rfl) ?hB10 (by assumption) ?_
    case hB10 => intro wx hSw; go_simp; try with_reducible rfl
    try simp only [List.setIfInBounds_toArray, List.set_cons_zero, List.set_cons_succ]
    refine wpAnyH_done (by as_aux_lemma => kernel_rfl) ?_ _
    have HS3 := hid hS_v3
    clear hS_v3 hS_v2 hS_v1 hS_v0
    have H2 : Hid (Wm w v3 m v9 ([77, s] ++ vint n)) := ⟨by rw [← HS1.out]; simpa using HO3.out, blk_later HBX.out HS3.out, Bn HB1.out HS3.out⟩
    have c2 := hd_epoch (mk_hd (blk_range H2.out.box))
    rw [← HKK.out] at c2
    clear HO3 HOZ HRZ
    generalize hA2 : [77, s] ++ vint n = A2 at *
    have HA2 := hid hA2
    have HN2 : Hid (A2.length ≤ 12) := by show _ ≤ _; rw [← hA2]; have := HL1.out; simp; omega
    clear hA2
    go_wp2_with fail
    refine (HV2.out _).mono ?_
    rintro _ W3 ⟨a3, c3, rfl, hr3, hb3⟩
    have H3 := hid (H2.out.later hb3)
    have R3 := hid hr3
    clear hr3 hb3 H2 HV2 c2
    go_wp2_with (at_builtin; refine own_app _ rfl _ _ rfl (w.heap.size + 1) _ A2 rfl H3.out.own a3 c3 (vint k) rfl R3.out (by have := HL2.out; have := HN2.out; omega) H3.out.ge ?_)
    intro v4 W4 ho4 hb4
    have H4 := hid (H3.out.app (Z := vint k) (by simpa using ho4) hb4)
    have R4 := hid (mk_ri (blk_lt H4.out.box) (blk_range H4.out.box) HMO.out.hd)
    have HPL := hid HMO.out.hd.len
    clear ho4 hb4 H3 R3
    generalize hA4 : A2 ++ vint k = A4 at *
    have HA4 := hid hA4
    have HN4 : Hid (A4.length ≤ 22) := by show _ ≤ _; rw [← hA4]; have := HL2.out; have := HN2.out; simp; omega
    clear hA4
    go_wp2_with (at_builtin; refine own_app _ rfl _ _ rfl (w.heap.size + 1) _ A4 rfl H4.out.own (some ⟨w.heap.size, 3, none⟩) 32 m.2.1.2.2 (by rw [HPL.out]; rfl) R4.out (by have := HPL.out; have := HN4.out; omega) H4.out.ge ?_)
    intro v5 W5 ho5 hb5
    have H5 := hid (H4.out.app (Z := m.2.1.2.2) (by simpa using ho5) hb5)
    clear ho5 hb5 H4 R4
    go_wp2
    go_ret
    have HE : A4 ++ m.2.1.2.2 = BB := HBB.out
    rw [← HE]
    exact ⟨_, rfl, own_base H5.out.own (Nat.le_succ _), H5.out.bel⟩
end Go.Proofs.YtplinkmagnihmaaDoor
namespace Go.Proofs.YtplinkmagnihmaaDoor
open Go.ChangeShapes Go.WideShapes Go.ChangeAt Go.RowKit Go.Deep Go.Lib

set_option maxHeartbeats 6400000 in
set_option maxRecDepth 100000 in
theorem dseal_word (a : Option Addr) (cap : Nat) (key : List Nat) (m : Mrk) (w : World) (hr : Sh.Rd w (.slice a key.length cap) a cap key) (hk : key.length ≤ 100000) (h : MOk m) (hm : mayM m = true) :
    Calls Tryd.prog 41 #[.slice a key.length cap, .agg (mkV m).toArray] w fun e w' => e = .returned (.agg (u8A (sealL key m))) ∧ Below w.heap.size w w' := by
  obtain ⟨⟨hs0, hs1⟩, _, _⟩ := may_parts2 hm
  obtain ⟨n, hn⟩ : ∃ n : Nat, m.1 = (n : Int) := ⟨m.1.toNat, by omega⟩
  have hn1 : n ≤ 1 := by omega
  have HB1 := hid (bel_alc w (.cells (mkV m).toArray 45))
  have hbx := heap_alc w (.cells (mkV m).toArray 45)
  have hsz : (w.alloc (.cells (mkV m).toArray 45)).heap.size = w.heap.size + 1 := by simp
  obtain ⟨W1, hW1⟩ : ∃ W1, W1 = w.alloc (.cells (mkV m).toArray 45) := ⟨_, rfl⟩
  rw [← hW1] at HB1 hbx hsz
  have HW1 := hid hW1
  have HBX := hid hbx
  have HS1 := hid hsz
  have HLN := hid (mkV_len h)
  have HKR := hid hr
  have HKL := hid hk
  have HBW := hid (fun V => dbody_word m V h hm)
  have HBL := hid (bodB_len h)
  have HB8 := hid (get_u8 (bodB_u8 h hm))
  have HNE : Hid (0 < (bodB m).length) := by show _ < _; unfold bodB; simp
  have HSE : Hid (u8A (sealL key m) = Sh.arr .u8 (Sh.Sha.hmac (sealK key n) (nats (bodB m)))) := by show _ = _; unfold sealL; rw [hn, Int.toNat_natCast]; exact (arr_dig _).symm
  have HZ := hid Tryd.zero25
  have c0 : W1.cell? ⟨w.heap.size, 0, none⟩ = some (.int .i64 (n : Int)) := by rw [← hn]; exact mk_site (blk_range hbx)
  have HDV := hid (fun V r => Sh.derive_ref a cap key markS n V r hk (by decide) (by omega))
  have HDL : Hid ((sealK key n).length = 32) := Sh.Sha.hmac_length _ _
  have HD8 := hid (hmac_u8 key (Sh.purposeL markS n))
  rw [HSE.out]
  clear hr hk h hm hs0 hs1 hn hbx hsz hW1 HSE
  obtain ⟨D1, hD1⟩ : ∃ D1, D1 = sealK key n := ⟨_, rfl⟩
  have HD1 := hid hD1
  rw [← hD1] at HDL ⊢
  generalize bodB m = BB at *
  obtain ⟨DD, hDD⟩ : ∃ DD, DD = Sh.arr .u8 (Sh.Sha.hmac D1 (nats BB)) := ⟨_, rfl⟩
  have HDD := hid hDD
  have HDS : Hid (DD.size = 32) := by show _ = _; rw [hDD, Sh.arr_size]; exact Sh.Sha.hmac_length _ _
  have HDO : Hid (DD.all (·.oneCell') = true) := by show _ = _; rw [hDD]; exact Sh.arr_one _ _
  rw [← hDD]
  clear hD1 hDD
  go_enter Tryd.func41, Tryd.ntmps41
  go_wp2_with (first | refine wpList_alloc_W rfl 25 rfl (some 4) rfl _ HZ.out (w.heap.size + 1) (by simp) ?_ | fail)
  intro W2 HG2 HB2 HS2
  rw [← HW1.out] at HB2
  have c02 : W2.cell? ⟨w.heap.size, 0, none⟩ = some (.int .i64 (n : Int)) := (HB2.out.cell (p := ⟨w.heap.size, 0, none⟩) (Nat.lt_succ_self _)).trans c0
  have HX2 : Hid (W2.heap[w.heap.size]? = some (.cells (mkV m).toArray 45)) := (HB2.out.block _ (Nat.lt_succ_self _)).trans HBX.out
  have HW2 : Hid (Below w.heap.size w W2) := HB1.out.trans (HB2.out.mono (Nat.le_succ _))
  clear c0 HB2 HBX HB1 HS1 HW1
  go_wp2_with fail
  refine (HDV.out W2 (HKR.out.later HW2.out)).mono ?_
  rintro _ W3 ⟨rfl, hb3⟩
  have hd1 : Sh.Sha.hmac key (Sh.purposeL markS n) = D1 := HD1.out.symm
  rw [hd1] at HD8 ⊢
  have HW3 := hid (Bn HW2.out hb3)
  have HG3 := hid (blk_later HG2.out hb3)
  have HX3 := hid (blk_later HX2.out hb3)
  obtain ⟨g2, hg2⟩ : ∃ g2, g2 = W3.heap.size := ⟨_, rfl⟩
  have HGE : Hid (w.heap.size + 1 < g2) := by show _ < _; rw [hg2]; have := hb3.size; have := HS2.out; omega
  clear hb3 hd1 c02 HG2 HX2 HDV HS2
  go_wp2_with (first | refine wpList_alloc_W rfl 25 rfl (some 5) rfl _ HZ.out g2 hg2 ?_ | fail)
  intro W4 HG4 HB4 HS4
  go_wp2_with (first | refine wpList_store_W rfl 25 _ _ rfl rfl g2 (Sh.arr .u8 D1) rfl rfl 25 _ HG4.out (by rw [Sh.arr_size, HDL.out]; exact Tryd.size25) (by rw [Sh.arr_size, HDL.out]; rfl) (Sh.arr_one _ _) ?_ | fail)
  intro W5 HG5 HGR5 HS5
  have HB5 : Hid (Below W3.heap.size W3 W5) := by
    show Below _ _ _
    rw [← hg2]
    exact HB4.out.trans (bel_grown HGR5.out (Nat.le_refl _) (by rw [hg2]; exact HB4.out.size))
  have HW5 := hid (Bn HW3.out HB5.out)
  have HX5 := hid (blk_later HX3.out HB5.out)
  have HZ5 := hid (blk_later HG3.out HB5.out)
  have HSK : Hid (Sh.Rd W5 (.slice (some ⟨g2, 0, none⟩) 32 32) (some ⟨g2, 0, none⟩) 32 D1) := Sh.Rd.block 32 HDL.out HG5.out (by decide) HD8.out
  clear HG4 HB4 HS4 HGR5 HS5 HB5 hg2 HG3 HX3 HW3
  go_wp2_with fail
  refine wp_region_held_drew (S := fun V => V.heap[w.heap.size]? = some (.cells (mkV m).toArray 45) ∧ Below w.heap.size w V) (by kernel_rfl) ⟨HX5.out, HW5.out.drew⟩ (fun hS0 => ?_)
  have hd0 : Below W5.heap.size W5 W5.drew := (Below.refl _ _).drew
  generalize W5.drew = v0 at *
  simp only [List.size_toArray, List.length_cons, List.length_nil, Nat.reduceAdd]
  refine Ord.take (i := 0) (d := 11) (v := .slice (some ⟨g2, 0, none⟩) 32 32) rfl rfl (by as_aux_lemma => kernel_rfl) (by as_aux_lemma => kernel_rfl) (by as_aux_lemma => kernel_rfl) (fun _ _ _ h => h) (by rfl) ?hA0 (by assumption) ?_
  case hA0 => intro V hSw; go_simp; try with_reducible rfl
  try simp only [List.setIfInBounds_toArray, List.set_cons_zero, List.set_cons_succ]
  refine Ord.take (i := 1) (d := 12) (v := .agg (mkV m).toArray) rfl rfl (by as_aux_lemma => kernel_rfl) (by as_aux_lemma => kernel_rfl) (by as_aux_lemma => kernel_rfl) (fun _ _ _ h => h) (by rfl) ?hA1 (by assumption) ?_
  case hA1 => intro V hSw; exact exec_load 45 (.tmp 3) rfl w.heap.size 0 rfl (run_loadVar_mid V w.heap.size 0 45 (mkV m) _ (blk_range hSw.1) Tryd.underlying45 rfl (by rw [HLN.out]; exact Tryd.size45))
  try simp only [List.setIfInBounds_toArray, List.set_cons_zero, List.set_cons_succ]
  refine wpAnyH_ready (rs := [2]) (by as_aux_lemma => kernel_rfl) (by simp) (AllReadyH.cons rfl (fun K hK => ?_) AllReadyH.nil)
  go_simp
  refine (HBW.out v0).mono ?_
  rintro _ v1 ⟨v, rfl, ho, hb1⟩
  obtain ⟨ax, cx, rfl, hrx⟩ := Ri.own ho HB8.out
  obtain ⟨bx, ox, rfl, _, _⟩ := hrx.cells HNE.out
  have hS1 : v1.heap[w.heap.size]? = some (.cells (mkV m).toArray 45) ∧ Below w.heap.size w v1 := ⟨blk_later hS0.1 hb1, Bn hS0.2 hb1⟩
  have HRX := hid hrx.rdS
  have HSK1 := hid (HSK.out.later (Bn hd0 hb1))
  have HZ1 := hid (blk_later HZ5.out (Bn hd0 hb1))
  refine hK.out _ _ hS1 (fun _ => ?_)
  clear hK K ho hrx hb1
  try simp only [List.setIfInBounds_toArray, List.set_cons_zero, List.set_cons_succ]
  refine wpAnyH_ready (rs := [3]) (by as_aux_lemma => kernel_rfl) (by simp) (AllReadyH.cons rfl (fun K hK => ?_) AllReadyH.nil)
  go_simp
  have hmac := Sh.macOf_ref (some ⟨g2, 0, none⟩) 32 D1 (some ⟨bx, ox, none⟩) cx (nats BB) v1 (by rw [HDL.out]; exact HSK1.out) (by rw [nats_len]; exact HRX.out) (by rw [HDL.out]; decide) (by rw [nats_len]; have := HBL.out; omega)
  rw [HDL.out, nats_len, ← HDD.out] at hmac
  refine hmac.mono ?_
  rintro _ v3 ⟨rfl, hb3⟩
  have hS3 : v3.heap[w.heap.size]? = some (.cells (mkV m).toArray 45) ∧ Below w.heap.size w v3 := ⟨blk_later hS1.1 hb3, Bn hS1.2 hb3⟩
  have HZ3 := hid (blk_later HZ1.out hb3)
  refine hK.out _ _ hS3 (fun _ => ?_)
  clear hK K hmac
  try simp only [List.setIfInBounds_toArray, List.set_cons_zero, List.set_cons_succ]
  refine wpAnyH_ready (rs := [4]) (by as_aux_lemma => kernel_rfl) (by simp) (AllReadyH.cons rfl (fun K hK => ?_) AllReadyH.nil)
  rw [if_pos (by rfl)]
  refine wp_store_row 25 _ _ rfl (w.heap.size + 1) DD rfl rfl 25 _ HZ3.out (by rw [HDS.out]; exact Tryd.size25) (by rw [HDS.out]; rfl) HDO.out ?_
  have hS4 : (v3.setRow (w.heap.size + 1) DD).heap[w.heap.size]? = some (.cells (mkV m).toArray 45) ∧ Below w.heap.size w (v3.setRow (w.heap.size + 1) DD) := ⟨(other_setRow _ _ _ _ (by omega)).trans hS3.1, below_setRow hS3.2 (by omega) _⟩
  refine hK.out _ _ hS4 (fun _ => ?_)
  clear hK K
  have HE4 := hid (setRow_heap _ _ _ DD _ _ HZ3.out)
  generalize v3.setRow (w.heap.size + 1) DD = v4 at *
  try simp only [List.setIfInBounds_toArray, List.set_cons_zero, List.set_cons_succ]
  refine wpAnyH_done (by as_aux_lemma => kernel_rfl) ?_ _
  have HB9 := hid hS4.2
  clear hS4 hS3 hS1 hS0
  go_wp2
  refine bodyPost_ret (results_cell_row (ty := 25) rfl _ _ _ _ _ _ _ rfl HE4.out Tryd.underlying25 rfl (by rw [HDS.out]; exact Tryd.size25)) rfl ?_
  exact ⟨rfl, HB9.out⟩
end Go.Proofs.YtplinkmagnihmaaDoor
namespace Go.Proofs.YtplinkmagnihmaaDoor
open Go.ChangeShapes Go.WideShapes Go.ChangeAt Go.RowKit Go.Deep Go.Lib
open Sh (run_eql_op)

set_option maxHeartbeats 6400000 in
set_option maxRecDepth 100000 in
theorem dsealed_word (a : Option Addr) (cap : Nat) (key : List Nat) (m : Mrk) (w : World) (hr : Sh.Rd w (.slice a key.length cap) a cap key) (hk : key.length ≤ 100000) (h : MOk m) :
    Calls Tryd.prog 27 #[.slice a key.length cap, .agg (mkV m).toArray] w fun e w' => e = .returned (.bool (sealedB key m)) ∧ Below w.heap.size w w' := by
  have HB1 := hid (bel_alc w (.cells (mkV m).toArray 45))
  have hbx := heap_alc w (.cells (mkV m).toArray 45)
  obtain ⟨W1, hW1⟩ : ∃ W1, W1 = w.alloc (.cells (mkV m).toArray 45) := ⟨_, rfl⟩
  rw [← hW1] at HB1 hbx
  have HW1 := hid hW1
  have HR := hid (fun X (hX : Below W1.heap.size W1 X) => blk_range (blk_later hbx hX))
  have HLN := hid (mkV_len h)
  have HML := hid h.mlen
  have HCL := hid h.hd.len
  have HMY := hid (fun V => dcheckM_word m V h)
  have HSL := hid (fun V (hV : Below W1.heap.size W1 V) (hm : mayM m = true) => dseal_word a cap key m V (hr.later (Bn HB1.out hV)) hk h hm)
  have HEQ := hid (fun V => eqD 9998 m.2.2 (sealL key m) h.mlen (sealL_len key m) V)
  clear hW1 hbx hr hk h
  obtain ⟨q, hq⟩ : ∃ q, q = sealedB key m := ⟨_, rfl⟩
  rw [← hq]
  obtain ⟨r, hr⟩ : ∃ r, r = mayM m := ⟨_, rfl⟩
  have HRR := hid hr
  unfold sealedB at hq
  rw [← hr] at hq HMY
  have HQ := hid hq
  clear hq hr
  cases r
  · have HQF : Hid (q = false) := HQ.out
    rw [HQF.out]
    clear HQF HQ HSL HEQ
    go_enter Tryd.func27, Tryd.ntmps27
    go_wp2_with fail
    rw [← HW1.out]
    refine wp_region_held_drew (S := fun X => Below W1.heap.size W1 X) (by kernel_rfl) (Below.refl _ _).drew (fun hS_v0 => ?_)
    have hd_v0 : Below W1.heap.size W1 W1.drew := (Below.refl _ _).drew
    generalize W1.drew = v0 at *
    simp only [List.size_toArray, List.length_cons, List.length_nil, Nat.reduceAdd]
    clear hd_v0
    refine Ord.take (i := 0) (d := 5) (v := .agg (mkV m).toArray) rfl rfl (by as_aux_lemma => kernel_rfl) (by as_aux_lemma => kernel_rfl) (by as_aux_lemma => kernel_rfl) (fun _ _ _ h => h) (by rfl) ?hF0 (by assumption) ?_
    case hF0 => intro wx hSw; exact exec_load 45 (.tmp 3) rfl w.heap.size 0 rfl (run_loadVar_mid wx w.heap.size 0 45 (mkV m) _ (HR.out _ hSw) Tryd.underlying45 rfl (by rw [HLN.out]; exact Tryd.size45))
    try simp only [List.setIfInBounds_toArray, List.set_cons_zero, List.set_cons_succ]
    refine wpAnyH_ready (rs := [1]) (by as_aux_lemma => kernel_rfl) (by simp) (AllReadyH.cons rfl (fun K hK => ?_) AllReadyH.nil)
    go_simp
    refine (HMY.out v0).mono ?_
    rintro _ v1 ⟨rfl, hb_v1⟩
    have hS_v1 : Below W1.heap.size W1 v1 := Bn hS_v0 hb_v1
    clear hb_v1
    refine hK.out _ _ hS_v1 (fun _ => ?_)
    clear hK K
    try simp only [List.setIfInBounds_toArray, List.set_cons_zero, List.set_cons_succ]
    refine Ord.take (i := 2) (d := 7) (v := .bool false) rfl rfl (by as_aux_lemma => kernel_rfl) (by as_aux_lemma => kernel_rfl) (by as_aux_lemma => kernel_rfl) (fun _ _ _ h => h) (by rfl) ?hF2 (by assumption) ?_
    case hF2 => intro wx hSw; have he : e160 false = 160 := rfl; go_simp; try with_reducible rfl
    try simp only [List.setIfInBounds_toArray, List.set_cons_zero, List.set_cons_succ]
    refine Ord.take (i := 3) (d := 8) (v := ?vF3) rfl rfl (by as_aux_lemma => kernel_rfl) (by as_aux_lemma => kernel_rfl) (by as_aux_lemma => kernel_rfl) (fun _ _ _ h => h) (by rfl) ?hF3 (by assumption) ?_
    case hF3 => intro wx hSw; go_simp; try with_reducible rfl
    try simp only [List.setIfInBounds_toArray, List.set_cons_zero, List.set_cons_succ]
    refine Ord.skip (i := 4) (d := 9) rfl rfl (by as_aux_lemma => kernel_rfl) (by as_aux_lemma => kernel_rfl) (by as_aux_lemma => kernel_rfl) (fun _ _ _ h => h) (by rfl) (by assumption) ?_
    simp only [List.setIfInBounds_toArray, List.set_cons_zero, List.set_cons_succ]
    refine Ord.skip (i := 5) (d := 10) rfl rfl (by as_aux_lemma => kernel_rfl) (by as_aux_lemma => kernel_rfl) (by as_aux_lemma => kernel_rfl) (fun _ _ _ h => h) (by rfl) (by assumption) ?_
    simp only [List.setIfInBounds_toArray, List.set_cons_zero, List.set_cons_succ]
    refine Ord.skip (i := 6) (d := 11) rfl rfl (by as_aux_lemma => kernel_rfl) (by as_aux_lemma => kernel_rfl) (by as_aux_lemma => kernel_rfl) (fun _ _ _ h => h) (by rfl) (by assumption) ?_
    simp only [List.setIfInBounds_toArray, List.set_cons_zero, List.set_cons_succ]
    refine Ord.skip (i := 7) (d := 12) rfl rfl (by as_aux_lemma => kernel_rfl) (by as_aux_lemma => kernel_rfl) (by as_aux_lemma => kernel_rfl) (fun _ _ _ h => h) (by rfl) (by assumption) ?_
    simp only [List.setIfInBounds_toArray, List.set_cons_zero, List.set_cons_succ]
    refine Ord.skip (i := 8) (d := 13) rfl rfl (by as_aux_lemma => kernel_rfl) (by as_aux_lemma => kernel_rfl) (by as_aux_lemma => kernel_rfl) (fun _ _ _ h => h) (by rfl) (by assumption) ?_
    simp only [List.setIfInBounds_toArray, List.set_cons_zero, List.set_cons_succ]
    refine Ord.skip (i := 9) (d := 14) rfl rfl (by as_aux_lemma => kernel_rfl) (by as_aux_lemma => kernel_rfl) (by as_aux_lemma => kernel_rfl) (fun _ _ _ h => h) (by rfl) (by assumption) ?_
    simp only [List.setIfInBounds_toArray, List.set_cons_zero, List.set_cons_succ]
    refine Ord.take (i := 10) (d := 15) (v := .bool false) rfl rfl (by as_aux_lemma => kernel_rfl) (by as_aux_lemma => kernel_rfl) (by as_aux_lemma => kernel_rfl) (fun _ _ _ h => h) (by rfl) ?hF10 (by assumption) ?_
    case hF10 => intro wx hSw; go_simp; try with_reducible rfl
    try simp only [List.setIfInBounds_toArray, List.set_cons_zero, List.set_cons_succ]
    refine Ord.take (i := 11) (d := 4) (v := ?vF11) rfl rfl (by as_aux_lemma => kernel_rfl) (by as_aux_lemma => kernel_rfl) (by as_aux_lemma => kernel_rfl) (fun _ _ _ h => h) (by rfl) ?hF11 (by assumption) ?_
    case hF11 => intro wx hSw; go_simp; try with_reducible rfl
    try simp only [List.setIfInBounds_toArray, List.set_cons_zero, List.set_cons_succ]
    refine wpAnyH_done (by as_aux_lemma => kernel_rfl) ?_ _
    have HS9 := hid (Bn HB1.out hS_v1)
    clear hS_v0 hS_v1
    go_wp2
    go_ret
    exact ⟨rfl, HS9.out⟩
  · have HQT : Hid (decide (m.2.2 = sealL key m) = q) := by show _ = _; rw [HQ.out]; simp
    rw [HQT.out] at HEQ
    have HSL2 := hid (fun V hV => HSL.out V hV HRR.out.symm)
    clear HSL HQT HQ
    go_enter Tryd.func27, Tryd.ntmps27
    go_wp2_with fail
    rw [← HW1.out]
    refine wp_region_held_drew (S := fun X => Below W1.heap.size W1 X) (by kernel_rfl) (Below.refl _ _).drew (fun hS_v0 => ?_)
    have hd_v0 : Below W1.heap.size W1 W1.drew := (Below.refl _ _).drew
    generalize W1.drew = v0 at *
    simp only [List.size_toArray, List.length_cons, List.length_nil, Nat.reduceAdd]
    clear hd_v0
    refine Ord.take (i := 0) (d := 5) (v := .agg (mkV m).toArray) rfl rfl (by as_aux_lemma => kernel_rfl) (by as_aux_lemma => kernel_rfl) (by as_aux_lemma => kernel_rfl) (fun _ _ _ h => h) (by rfl) ?hT0 (by assumption) ?_
    case hT0 => intro wx hSw; exact exec_load 45 (.tmp 3) rfl w.heap.size 0 rfl (run_loadVar_mid wx w.heap.size 0 45 (mkV m) _ (HR.out _ hSw) Tryd.underlying45 rfl (by rw [HLN.out]; exact Tryd.size45))
    try simp only [List.setIfInBounds_toArray, List.set_cons_zero, List.set_cons_succ]
    refine wpAnyH_ready (rs := [1]) (by as_aux_lemma => kernel_rfl) (by simp) (AllReadyH.cons rfl (fun K hK => ?_) AllReadyH.nil)
    go_simp
    refine (HMY.out v0).mono ?_
    rintro _ v1 ⟨rfl, hb_v1⟩
    have hS_v1 : Below W1.heap.size W1 v1 := Bn hS_v0 hb_v1
    clear hb_v1
    refine hK.out _ _ hS_v1 (fun _ => ?_)
    clear hK K
    try simp only [List.setIfInBounds_toArray, List.set_cons_zero, List.set_cons_succ]
    refine Ord.take (i := 2) (d := 7) (v := .bool true) rfl rfl (by as_aux_lemma => kernel_rfl) (by as_aux_lemma => kernel_rfl) (by as_aux_lemma => kernel_rfl) (fun _ _ _ h => h) (by rfl) ?hT2 (by assumption) ?_
    case hT2 => intro wx hSw; have he : e160 true = 0 := rfl; go_simp; try with_reducible rfl
    try simp only [List.setIfInBounds_toArray, List.set_cons_zero, List.set_cons_succ]
    refine Ord.take (i := 3) (d := 8) (v := ?vT3) rfl rfl (by as_aux_lemma => kernel_rfl) (by as_aux_lemma => kernel_rfl) (by as_aux_lemma => kernel_rfl) (fun _ _ _ h => h) (by rfl) ?hT3 (by assumption) ?_
    case hT3 => intro wx hSw; go_simp; try with_reducible rfl
    try simp only [List.setIfInBounds_toArray, List.set_cons_zero, List.set_cons_succ]
    refine Ord.take (i := 4) (d := 9) (v := ?vT4) rfl rfl (by as_aux_lemma => kernel_rfl) (by as_aux_lemma => kernel_rfl) (by as_aux_lemma => kernel_rfl) (fun _ _ _ h => h) (by rfl) ?hT4 (by assumption) ?_
    case hT4 => intro wx hSw; go_simp; try with_reducible rfl
    try simp only [List.setIfInBounds_toArray, List.set_cons_zero, List.set_cons_succ]
    refine Ord.take (i := 5) (d := 10) (v := .agg (u8A m.2.2)) rfl rfl (by as_aux_lemma => kernel_rfl) (by as_aux_lemma => kernel_rfl) (by as_aux_lemma => kernel_rfl) (fun _ _ _ h => h) (by rfl) ?hT5 (by assumption) ?_
    case hT5 => intro wx hSw; exact exec_load 25 (.tmp 9) rfl w.heap.size 35 rfl (run_loadVar_mid wx w.heap.size 35 25 (m.2.2.map (Value.int .u8)) _ (mk_mac HCL.out (HR.out _ hSw)) Tryd.underlying25 rfl (by rw [List.length_map, HML.out]; exact Tryd.size25))
    try simp only [List.setIfInBounds_toArray, List.set_cons_zero, List.set_cons_succ]
    refine Ord.take (i := 6) (d := 11) (v := ?vT6) rfl rfl (by as_aux_lemma => kernel_rfl) (by as_aux_lemma => kernel_rfl) (by as_aux_lemma => kernel_rfl) (fun _ _ _ h => h) (by rfl) ?hT6 (by assumption) ?_
    case hT6 => intro wx hSw; go_simp; try with_reducible rfl
    try simp only [List.setIfInBounds_toArray, List.set_cons_zero, List.set_cons_succ]
    refine Ord.take (i := 7) (d := 12) (v := .agg (mkV m).toArray) rfl rfl (by as_aux_lemma => kernel_rfl) (by as_aux_lemma => kernel_rfl) (by as_aux_lemma => kernel_rfl) (fun _ _ _ h => h) (by rfl) ?hT7 (by assumption) ?_
    case hT7 => intro wx hSw; exact exec_load 45 (.tmp 3) rfl w.heap.size 0 rfl (run_loadVar_mid wx w.heap.size 0 45 (mkV m) _ (HR.out _ hSw) Tryd.underlying45 rfl (by rw [HLN.out]; exact Tryd.size45))
    try simp only [List.setIfInBounds_toArray, List.set_cons_zero, List.set_cons_succ]
    refine wpAnyH_ready (rs := [8]) (by as_aux_lemma => kernel_rfl) (by simp) (AllReadyH.cons rfl (fun K hK => ?_) AllReadyH.nil)
    go_simp
    refine (HSL2.out v1 hS_v1).mono ?_
    rintro _ v2 ⟨rfl, hb_v2⟩
    have hS_v2 : Below W1.heap.size W1 v2 := Bn hS_v1 hb_v2
    clear hb_v2
    refine hK.out _ _ hS_v2 (fun _ => ?_)
    clear hK K
    try simp only [List.setIfInBounds_toArray, List.set_cons_zero, List.set_cons_succ]
    refine Ord.take (i := 9) (d := 14) (v := .bool q) rfl rfl (by as_aux_lemma => kernel_rfl) (by as_aux_lemma => kernel_rfl) (by as_aux_lemma => kernel_rfl) (fun _ _ _ h => h) (by rfl) ?hT9 (by assumption) ?_
    case hT9 => intro wx hSw; exact run_eql_op rfl rfl rfl guard25d (HEQ.out _)
    try simp only [List.setIfInBounds_toArray, List.set_cons_zero, List.set_cons_succ]
    refine Ord.take (i := 10) (d := 15) (v := .bool q) rfl rfl (by as_aux_lemma => kernel_rfl) (by as_aux_lemma => kernel_rfl) (by as_aux_lemma => kernel_rfl) (fun _ _ _ h => h) (by rfl) ?hT10 (by assumption) ?_
    case hT10 => intro wx hSw; go_simp; try with_reducible rfl
    try simp only [List.setIfInBounds_toArray, List.set_cons_zero, List.set_cons_succ]
    refine Ord.take (i := 11) (d := 4) (v := ?vT11) rfl rfl (by as_aux_lemma => kernel_rfl) (by as_aux_lemma => kernel_rfl) (by as_aux_lemma => kernel_rfl) (fun _ _ _ h => h) (by rfl) ?hT11 (by assumption) ?_
    case hT11 => intro wx hSw; go_simp; try with_reducible rfl
    try simp only [List.setIfInBounds_toArray, List.set_cons_zero, List.set_cons_succ]
    refine wpAnyH_done (by as_aux_lemma => kernel_rfl) ?_ _
    have HS9 := hid (Bn HB1.out hS_v2)
    clear hS_v0 hS_v1 hS_v2
    go_wp2
    go_ret
    exact ⟨rfl, HS9.out⟩
end Go.Proofs.YtplinkmagnihmaaDoor
