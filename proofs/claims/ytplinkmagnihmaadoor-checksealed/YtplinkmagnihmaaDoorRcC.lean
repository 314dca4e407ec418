/-
  Which records may be: the contracts of record's mayOfKind, may, Check.
-/
import Derived.Test.YtplinkmagnihmaaDoorRcB
namespace Go.Proofs.YtplinkmagnihmaaDoor
open Go.ChangeShapes Go.WideShapes Go.ChangeAt Go.RowKit Go.Deep

def kindB (r : Rec) : Bool :=
  if r.kind = 1 then decide (r.site = 0 ∨ r.site = 1) && decide (r.path.size = 0) && decide (r.ps.length = 0)
  else if r.kind = 3 then decide (r.ps.length = 0) && (decide (r.site = 0) && pathB r.path && decide ((sizO r.ps).2 = 0))
  else if r.kind = 2 then decide (r.site = 0) && pathB r.path && decide ((sizO r.ps).2 = 0)
  else false
def mayB (r : Rec) : Bool := decide (1 ≤ r.seq ∧ r.seq ≤ 1073741824) && decide (1 ≤ r.epoch ∧ r.epoch ≤ 1073741824) && kindB r
def e130 : Bool → Int
  | true => 0
  | false => 130
theorem siz_or (l : List Pc) : (sizO l).2 = 0 ∨ (sizO l).2 = 130 := by
  unfold sizO
  split
  · exact .inr rfl
  · split
    · split
      · exact .inr rfl
      · exact .inl rfl
    · exact .inr rfl
theorem ba_nil (s : ByteArray) (h : s.size = 0) : s = ByteArray.empty := by
  cases s with
  | mk d =>
    have : d.size = 0 := h
    rw [Array.size_eq_zero_iff] at this
    subst this
    rfl
theorem ba_some (s : ByteArray) (h : s ≠ ByteArray.empty) : s.toList.isEmpty = false := by
  rw [ByteArray.toList_eq]
  cases e : s.data.toList with
  | nil =>
    refine absurd (ba_nil s ?_) h
    show s.data.size = 0
    rw [← Array.length_toList, e]
    rfl
  | cons a b => rfl
theorem beq_nat (n : Nat) : ((n : Int) == 0) = decide (n = 0) := by
  by_cases h : n = 0
  · subst h; rfl
  · rw [decide_eq_false h, beq_eq_false_iff_ne]; omega
set_option maxHeartbeats 3200000 in
set_option maxRecDepth 100000 in
theorem kind_lead (r : Rec) (w : World) (h : Rv w r) (hk : r.kind = 1) : Calls Tryd.prog 96 #[.agg r.cs.toArray] w fun e w' => e = .returned (.bool (kindB r)) ∧ Below w.heap.size w w' := by
  have hb := hid (bel_alc w (.cells r.cs.toArray 58))
  have B0 := Bx.mk' w r h.len
  have c34 := B0.c34
  have c35 := B0.c35
  have c36 := B0.c36
  have c37 := B0.c37
  have hroom := h.row.room
  have hmost := h.row.most
  unfold maxLen at hmost
  have HK : Hid (kindB r = (decide (r.site = 0 ∨ r.site = 1) && decide (r.path.size = 0) && decide (r.ps.length = 0))) := by show _ = _; unfold kindB; rw [if_pos hk]
  rw [hk] at c34
  clear B0 h hk
  generalize r.cs.toArray = H at *
  have hpn : r.path = ByteArray.empty ↔ r.path.size = 0 := ⟨fun e => by rw [e]; rfl, ba_nil _⟩
  generalize kindB r = KB at *
  generalize r.ps.length = L at *
  generalize r.site = si at *
  generalize r.path = pa at *
  by_cases hp : pa = ByteArray.empty
  · have HP : Hid (decide (pa.size = 0) = true) := decide_eq_true (hpn.1 hp)
    subst hp
    by_cases hs : si = 0
    · subst hs
      go_enter Tryd.func96, Tryd.ntmps96
      go_wp2
      go_ret
      exact ⟨by rw [HK.out, HP.out]; simp [beq_nat], hb.out⟩
    · by_cases hs1 : si = 1
      · subst hs1
        go_enter Tryd.func96, Tryd.ntmps96
        go_wp2
        go_ret
        exact ⟨by rw [HK.out, HP.out]; simp [beq_nat], hb.out⟩
      · have HS : Hid (decide (si = 0 ∨ si = 1) = false) := decide_eq_false (by omega)
        go_enter Tryd.func96, Tryd.ntmps96
        go_wp2
        go_ret
        exact ⟨by rw [HK.out, HS.out]; rfl, hb.out⟩
  · have HP : Hid (decide (pa.size = 0) = false) := decide_eq_false (fun e => hp (hpn.2 e))
    have hpe := ba_some pa hp
    by_cases hs : si = 0
    · subst hs
      go_enter Tryd.func96, Tryd.ntmps96
      go_wp2
      go_ret
      exact ⟨by rw [HK.out, HP.out]; simp, hb.out⟩
    · by_cases hs1 : si = 1
      · subst hs1
        go_enter Tryd.func96, Tryd.ntmps96
        go_wp2
        go_ret
        exact ⟨by rw [HK.out, HP.out]; simp, hb.out⟩
      · have HS : Hid (decide (si = 0 ∨ si = 1) = false) := decide_eq_false (by omega)
        go_enter Tryd.func96, Tryd.ntmps96
        go_wp2
        go_ret
        exact ⟨by rw [HK.out, HS.out]; rfl, hb.out⟩
set_option maxHeartbeats 3200000 in
set_option maxRecDepth 100000 in
theorem kind_none (r : Rec) (w : World) (h : Rv w r) (h1 : r.kind ≠ 1) (h2 : r.kind ≠ 2) (h3 : r.kind ≠ 3) : Calls Tryd.prog 96 #[.agg r.cs.toArray] w fun e w' => e = .returned (.bool (kindB r)) ∧ Below w.heap.size w w' := by
  have hb := hid (bel_alc w (.cells r.cs.toArray 58))
  have c34 := (Bx.mk' w r h.len).c34
  have HK : Hid (kindB r = false) := by show _ = _; unfold kindB; rw [if_neg h1, if_neg h3, if_neg h2]
  clear h
  generalize r.cs.toArray = H at *
  generalize kindB r = KB at *
  generalize r.kind = ki at *
  go_enter Tryd.func96, Tryd.ntmps96
  go_wp2
  go_ret
  exact ⟨by rw [HK.out]; rfl, hb.out⟩
set_option maxHeartbeats 3200000 in
set_option maxRecDepth 100000 in
theorem kind_file (r : Rec) (w : World) (h : Rv w r) (hk : r.kind = 2 ∨ r.kind = 3) : Calls Tryd.prog 96 #[.agg r.cs.toArray] w fun e w' => e = .returned (.bool (kindB r)) ∧ Below w.heap.size w w' := by
  have hb := hid (bel_alc w (.cells r.cs.toArray 58))
  have B0 := Bx.mk' w r h.len
  have HBX := hid B0
  have c34 := B0.c34
  have c37 := B0.c37
  have HSZ := hid (fun V (hV : Below w.heap.size w V) => size_word r.a r.cap r.ps V (h.row.later hV))
  have HPT := hid (fun V => path_word r.path V h.path)
  have hroom := h.row.room
  have hmost := h.row.most
  have hor := siz_or r.ps
  unfold maxLen at hmost
  have HK : Hid (kindB r = (decide (r.kind = 2 ∨ r.ps.length = 0) && (decide (r.site = 0) && pathB r.path && decide ((sizO r.ps).2 = 0)))) := by
    show _ = _
    unfold kindB
    rcases hk with hk | hk <;> rw [hk] <;> simp
  by_cases hz : r.kind = 3 ∧ 0 < r.ps.length
  · obtain ⟨hz1, hz2⟩ := hz
    have HF : Hid (kindB r = false) := by show _ = _; rw [HK.out, decide_eq_false (by omega)]; rfl
    rw [hz1] at c34
    clear B0 h hk HBX HSZ HPT HK hz1
    generalize r.cs.toArray = H at *
    generalize kindB r = KB at *
    generalize r.ps.length = L at *
    go_enter Tryd.func96, Tryd.ntmps96
    go_wp2
    go_ret
    exact ⟨by rw [HF.out]; rfl, hb.out⟩
  · have HK2 : Hid (kindB r = (decide (r.site = 0) && pathB r.path && decide ((sizO r.ps).2 = 0))) := by show _ = _; rw [HK.out, decide_eq_true (by omega)]; rfl
    clear B0 h HK
    have hz' : r.kind = 3 → r.ps.length = 0 := fun e => by
      rcases Nat.eq_zero_or_pos r.ps.length with q | q
      · exact q
      · exact absurd ⟨e, q⟩ hz
    clear hz
    generalize hkk : kindB r = KB at *
    generalize hC : r.cs.toArray = H at *
    generalize hLL : r.ps.length = L at *
    rcases hk with hk | hk
    · rw [hk] at c34
      go_enter Tryd.func96, Tryd.ntmps96
      go_wp2_with fail
      refine (HSZ.out _ hb.out).mono ?_
      rintro _ W1 ⟨rfl, hb1⟩
      have B1 := HBX.out.later hb1
      have c35 := B1.c35
      have c36 := B1.c36
      have HB1 := hid (Bn hb.out hb1)
      clear hb1 B1 HSZ hb HBX c34 c37
      generalize (sizO r.ps).1 = E1 at *
      generalize (sizO r.ps).2 = E2 at *
      generalize pathB r.path = PB at *
      by_cases hs : r.site = 0
      · rw [hs] at c35
        have HK3 : Hid (KB = (PB && decide (E2 = 0))) := by show _ = _; rw [HK2.out, hs]; simp
        clear HK2
        go_wp2_with fail
        refine (HPT.out _).mono ?_
        rintro _ w0 ⟨rfl, hw⟩
        obtain rfl := hw.symm
        clear hw HPT
        cases PB with
        | false =>
          go_wp2
          go_ret
          exact ⟨by rw [HK3.out]; rfl, HB1.out⟩
        | true =>
          rcases hor with ho | ho
          · subst ho
            go_wp2
            go_ret
            exact ⟨by rw [HK3.out]; rfl, HB1.out⟩
          · subst ho
            go_wp2
            go_ret
            exact ⟨by rw [HK3.out]; rfl, HB1.out⟩
      · have HK3 : Hid (KB = false) := by show _ = _; rw [HK2.out, decide_eq_false hs]; rfl
        generalize r.site = si at *
        clear HK2 HPT
        go_wp2
        go_ret
        exact ⟨by rw [HK3.out]; rfl, HB1.out⟩
    · rw [hk] at c34
      have h0 := hz' hk
      subst h0
      go_enter Tryd.func96, Tryd.ntmps96
      go_wp2_with fail
      refine (HSZ.out _ hb.out).mono ?_
      rintro _ W1 ⟨rfl, hb1⟩
      have B1 := HBX.out.later hb1
      have c35 := B1.c35
      have c36 := B1.c36
      have HB1 := hid (Bn hb.out hb1)
      clear hb1 B1 HSZ hb HBX c34 c37
      generalize (sizO r.ps).1 = E1 at *
      generalize (sizO r.ps).2 = E2 at *
      generalize pathB r.path = PB at *
      by_cases hs : r.site = 0
      · rw [hs] at c35
        have HK3 : Hid (KB = (PB && decide (E2 = 0))) := by show _ = _; rw [HK2.out, hs]; simp
        clear HK2
        go_wp2_with fail
        refine (HPT.out _).mono ?_
        rintro _ w0 ⟨rfl, hw⟩
        obtain rfl := hw.symm
        clear hw HPT
        cases PB with
        | false =>
          go_wp2
          go_ret
          exact ⟨by rw [HK3.out]; rfl, HB1.out⟩
        | true =>
          rcases hor with ho | ho
          · subst ho
            go_wp2
            go_ret
            exact ⟨by rw [HK3.out]; rfl, HB1.out⟩
          · subst ho
            go_wp2
            go_ret
            exact ⟨by rw [HK3.out]; rfl, HB1.out⟩
      · have HK3 : Hid (KB = false) := by show _ = _; rw [HK2.out, decide_eq_false hs]; rfl
        generalize r.site = si at *
        clear HK2 HPT
        go_wp2
        go_ret
        exact ⟨by rw [HK3.out]; rfl, HB1.out⟩
theorem kind_word (r : Rec) (w : World) (h : Rv w r) : Calls Tryd.prog 96 #[.agg r.cs.toArray] w fun e w' => e = .returned (.bool (kindB r)) ∧ Below w.heap.size w w' := by
  by_cases h1 : r.kind = 1
  · exact kind_lead r w h h1
  by_cases h2 : r.kind = 2
  · exact kind_file r w h (.inl h2)
  by_cases h3 : r.kind = 3
  · exact kind_file r w h (.inr h3)
  exact kind_none r w h h1 h2 h3
set_option maxHeartbeats 3200000 in
set_option maxRecDepth 100000 in
theorem may_word (r : Rec) (w : World) (h : Rv w r) : Calls Tryd.prog 92 #[.agg r.cs.toArray] w fun e w' => e = .returned (.bool (mayB r)) ∧ Below w.heap.size w w' := by
  have hb := hid (bel_alc w (.cells r.cs.toArray 58))
  have B0 := Bx.mk' w r h.len
  have c0 := B0.c0
  have c1 := B0.c1
  have HLD := hid B0.range
  have HLL := hid (Rec.cs_len h.len)
  have HKW := hid (kind_word r _ (h.later hb.out))
  have HW1 := hid (fun V => within_word r.seq 1073741824 V)
  have HW2 := hid (fun V => within_word r.epoch 1073741824 V)
  have HM : Hid (mayB r = (decide (1 ≤ r.seq ∧ r.seq ≤ 1073741824) && decide (1 ≤ r.epoch ∧ r.epoch ≤ 1073741824) && kindB r)) := rfl
  clear B0 h
  generalize mayB r = MB at *
  generalize kindB r = KB at *
  generalize decide (1 ≤ r.seq ∧ r.seq ≤ 1073741824) = A1 at *
  generalize decide (1 ≤ r.epoch ∧ r.epoch ≤ 1073741824) = A2 at *
  generalize r.seq = sq at *
  generalize r.epoch = ep at *
  go_enter Tryd.func92, Tryd.ntmps92
  go_wp2_with fail
  refine (HW1.out _).mono ?_
  rintro _ w0 ⟨rfl, hw⟩
  obtain rfl := hw.symm
  clear hw HW1
  cases A1 with
  | false =>
    go_wp2
    go_ret
    exact ⟨by rw [HM.out]; rfl, hb.out⟩
  | true =>
    go_wp2_with fail
    refine (HW2.out _).mono ?_
    rintro _ w0 ⟨rfl, hw⟩
    obtain rfl := hw.symm
    clear hw HW2
    cases A2 with
    | false =>
      go_wp2
      go_ret
      exact ⟨by rw [HM.out]; rfl, hb.out⟩
    | true =>
      go_wp2_with (first | refine wpList_load_g rfl 58 _ rfl w.heap.size 0 rfl r.cs _ HLD.out Tryd.underlying58 rfl (by rw [HLL.out]; exact Tryd.size58) ?_ | fail)
      refine HKW.out.mono ?_
      rintro _ w2 ⟨rfl, hb2⟩
      have HB2 := hid (Bn hb.out hb2)
      clear hb2 HKW HLD
      go_wp2
      go_ret
      exact ⟨by rw [HM.out]; cases KB <;> rfl, HB2.out⟩
set_option maxHeartbeats 3200000 in
set_option maxRecDepth 100000 in
theorem check_word (r : Rec) (w : World) (h : Rv w r) : Calls Tryd.prog 77 #[.agg r.cs.toArray] w fun e w' => e = .returned (.int .i64 (e130 (mayB r))) ∧ Below w.heap.size w w' := by
  have hb := hid (bel_alc w (.cells r.cs.toArray 58))
  have HLD := hid (Bx.mk' w r h.len).range
  have HLL := hid (Rec.cs_len h.len)
  have HMW := hid (may_word r _ (h.later hb.out))
  clear h
  generalize mayB r = MB at *
  go_enter Tryd.func77, Tryd.ntmps77
  go_wp2_with (first | refine wpList_load_g rfl 58 _ rfl w.heap.size 0 rfl r.cs _ HLD.out Tryd.underlying58 rfl (by rw [HLL.out]; exact Tryd.size58) ?_ | fail)
  refine HMW.out.mono ?_
  rintro _ w2 ⟨rfl, hb2⟩
  have HB2 := hid (Bn hb.out hb2)
  clear hb2 HMW HLD
  cases MB with
  | false =>
    go_wp2
    go_ret
    exact ⟨rfl, HB2.out⟩
  | true =>
    go_wp2
    go_ret
    exact ⟨rfl, HB2.out⟩
end Go.Proofs.YtplinkmagnihmaaDoor
