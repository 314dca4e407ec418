/-
  The document's side: which records may be.
-/
import Derived.Test.YtcbjlnabbfkkeaaRcS
namespace Go.Proofs.Ytcbjlnabbfkkeaa
open Go.ChangeShapes Go.WideShapes Go.ChangeAt Go.RowKit Go.Deep

set_option maxHeartbeats 3200000 in
set_option maxRecDepth 100000 in
theorem dcheck_word (r : Rec) (w : World) (h : Rv w r) : Calls Try.prog 26 #[.agg r.cs.toArray] w fun e w' => e = .returned (.int .i64 (e130 (mayB r))) ∧ Below w.heap.size w w' := by
  have hb := hid (bel_alc w (.cells r.cs.toArray 36))
  have B0 := Bx.mk' w r h.len
  have c0 := B0.c0
  have c1 := B0.c1
  have c34 := B0.c34
  have c35 := B0.c35
  have c36 := B0.c36
  have c37 := B0.c37
  have hroom := h.row.room
  have hmost := h.row.most
  unfold maxLen at hmost
  have HSZ := hid (dsize_word r.a r.cap r.ps _ (h.row.later hb.out))
  have HPT := hid (fun V => dpath_word r.path V h.path)
  have hor := siz_or r.ps
  have hpn : r.path = ByteArray.empty ↔ r.path.size = 0 := ⟨fun e => by rw [e]; rfl, ba_nil _⟩
  have hz0 : r.ps.length = 0 → (sizO r.ps).2 = 0 := fun e => by rw [List.length_eq_zero_iff.1 e]; rfl
  have HM : Hid (mayB r = (decide (1 ≤ r.seq ∧ r.seq ≤ 1073741824) && decide (1 ≤ r.epoch ∧ r.epoch ≤ 1073741824) && (if r.kind = 1 then decide (r.site = 0 ∨ r.site = 1) && decide (r.path.size = 0) && decide (r.ps.length = 0)
    else if r.kind = 3 then decide (r.ps.length = 0) && (decide (r.site = 0) && pathB r.path && decide ((sizO r.ps).2 = 0))
    else if r.kind = 2 then decide (r.site = 0) && pathB r.path && decide ((sizO r.ps).2 = 0)
    else false))) := rfl
  clear B0 h
  generalize r.cs.toArray = H at *
  generalize mayB r = MB at *
  generalize (sizO r.ps).1 = E1 at *
  generalize (sizO r.ps).2 = E2 at *
  generalize pathB r.path = PB at *
  generalize r.ps.length = L at *
  generalize r.site = si at *
  generalize r.path = pa at *
  generalize r.seq = sq at *
  generalize r.epoch = ep at *
  generalize r.kind = ki at *
  by_cases s1 : sq < 1
  · have HE : Hid (MB = false) := by show _ = _; rw [HM.out, decide_eq_false (show ¬ (1 ≤ sq ∧ sq ≤ 1073741824) by omega)]; rfl
    go_enter Try.func26, Try.ntmps26
    go_wp2
    go_ret
    exact ⟨by rw [HE.out]; rfl, hb.out⟩
  by_cases s2 : 1073741824 < sq
  · have HE : Hid (MB = false) := by show _ = _; rw [HM.out, decide_eq_false (show ¬ (1 ≤ sq ∧ sq ≤ 1073741824) by omega)]; rfl
    go_enter Try.func26, Try.ntmps26
    go_wp2
    go_ret
    exact ⟨by rw [HE.out]; rfl, hb.out⟩
  by_cases s3 : ep < 1
  · have HE : Hid (MB = false) := by show _ = _; rw [HM.out, decide_eq_false (show ¬ (1 ≤ ep ∧ ep ≤ 1073741824) by omega)]; simp
    go_enter Try.func26, Try.ntmps26
    go_wp2
    go_ret
    exact ⟨by rw [HE.out]; rfl, hb.out⟩
  by_cases s4 : 1073741824 < ep
  · have HE : Hid (MB = false) := by show _ = _; rw [HM.out, decide_eq_false (show ¬ (1 ≤ ep ∧ ep ≤ 1073741824) by omega)]; simp
    go_enter Try.func26, Try.ntmps26
    go_wp2
    go_ret
    exact ⟨by rw [HE.out]; rfl, hb.out⟩
  rw [decide_eq_true (show 1 ≤ sq ∧ sq ≤ 1073741824 by omega), decide_eq_true (show 1 ≤ ep ∧ ep ≤ 1073741824 by omega)] at HM
  simp only [Bool.true_and, Bool.and_self] at HM
  go_enter Try.func26, Try.ntmps26
  go_wp2_with fail
  refine HSZ.out.mono ?_
  rintro _ w0 ⟨rfl, hw⟩
  obtain rfl := hw.symm
  clear hw HSZ
  by_cases k1 : ki = 1
  · subst k1
    rw [if_pos rfl] at HM
    clear HPT
    by_cases hp : pa = ByteArray.empty
    · rw [decide_eq_true (hpn.1 hp)] at HM
      subst hp
      clear hpn hz0 hor
      by_cases hl : L = 0
      · rw [decide_eq_true hl] at HM
        subst hl
        by_cases hs : si = 0
        · subst hs
          have HE : Hid (MB = true) := HM.out
          go_wp2
          go_ret
          exact ⟨by rw [HE.out]; rfl, hb.out⟩
        · by_cases hs1 : si = 1
          · subst hs1
            have HE : Hid (MB = true) := HM.out
            go_wp2
            go_ret
            exact ⟨by rw [HE.out]; rfl, hb.out⟩
          · have HE : Hid (MB = false) := by show _ = _; rw [HM.out, decide_eq_false (show ¬ (si = 0 ∨ si = 1) by omega)]; rfl
            go_wp2
            go_ret
            exact ⟨by rw [HE.out]; rfl, hb.out⟩
      · have HE : Hid (MB = false) := by show _ = _; rw [HM.out, decide_eq_false hl]; simp
        have hl2 : ((L : Int) == 0) = false := by rw [beq_eq_false_iff_ne]; omega
        by_cases hs : si = 0
        · subst hs
          go_wp2
          go_ret
          exact ⟨by rw [HE.out]; rfl, hb.out⟩
        · by_cases hs1 : si = 1
          · subst hs1
            go_wp2
            go_ret
            exact ⟨by rw [HE.out]; rfl, hb.out⟩
          · go_wp2
            go_ret
            exact ⟨by rw [HE.out]; rfl, hb.out⟩
    · have HE : Hid (MB = false) := by show _ = _; rw [HM.out, decide_eq_false (fun e => hp (hpn.2 e))]; simp
      have hpe := ba_some pa hp
      clear hpn hz0 hor
      by_cases hs : si = 0
      · subst hs
        go_wp2
        go_ret
        exact ⟨by rw [HE.out]; rfl, hb.out⟩
      · by_cases hs1 : si = 1
        · subst hs1
          go_wp2
          go_ret
          exact ⟨by rw [HE.out]; rfl, hb.out⟩
        · go_wp2
          go_ret
          exact ⟨by rw [HE.out]; rfl, hb.out⟩
  · rw [if_neg k1] at HM
    clear hpn
    by_cases k2 : ki = 2
    · subst k2
      rw [if_neg (by decide), if_pos rfl] at HM
      by_cases hs : si = 0
      · subst hs
        go_wp2_with fail
        refine (HPT.out _).mono ?_
        rintro _ w0 ⟨rfl, hw⟩
        obtain rfl := hw.symm
        clear hw HPT
        cases PB with
        | false =>
          have HE : Hid (MB = false) := by show _ = _; rw [HM.out]; simp
          go_wp2
          go_ret
          exact ⟨by rw [HE.out]; rfl, hb.out⟩
        | true =>
          clear hz0
          rcases hor with ho | ho
          · subst ho
            have HE : Hid (MB = true) := HM.out
            go_wp2
            go_ret
            exact ⟨by rw [HE.out]; rfl, hb.out⟩
          · subst ho
            have HE : Hid (MB = false) := HM.out
            go_wp2
            go_ret
            exact ⟨by rw [HE.out]; rfl, hb.out⟩
      · have HE : Hid (MB = false) := by show _ = _; rw [HM.out, decide_eq_false hs]; simp
        clear HPT
        go_wp2
        go_ret
        exact ⟨by rw [HE.out]; rfl, hb.out⟩
    · by_cases k3 : ki = 3
      · subst k3
        rw [if_pos rfl] at HM
        by_cases hs : si = 0
        · subst hs
          go_wp2_with fail
          refine (HPT.out _).mono ?_
          rintro _ w0 ⟨rfl, hw⟩
          obtain rfl := hw.symm
          clear hw HPT
          cases PB with
          | false =>
            have HE : Hid (MB = false) := by show _ = _; rw [HM.out]; simp
            go_wp2
            go_ret
            exact ⟨by rw [HE.out]; rfl, hb.out⟩
          | true =>
            by_cases hl : L = 0
            · have hE2 := hz0 hl
              subst hl hE2
              have HE : Hid (MB = true) := HM.out
              go_wp2
              go_ret
              exact ⟨by rw [HE.out]; rfl, hb.out⟩
            · have HE : Hid (MB = false) := by show _ = _; rw [HM.out, decide_eq_false hl]; rfl
              have hl2 : ((L : Int) == 0) = false := by rw [beq_eq_false_iff_ne]; omega
              go_wp2
              go_ret
              exact ⟨by rw [HE.out]; rfl, hb.out⟩
        · have HE : Hid (MB = false) := by show _ = _; rw [HM.out, decide_eq_false hs]; simp
          clear HPT
          go_wp2
          go_ret
          exact ⟨by rw [HE.out]; rfl, hb.out⟩
      · rw [if_neg k3, if_neg k2] at HM
        have HE : Hid (MB = false) := HM.out
        clear HPT
        go_wp2
        go_ret
        exact ⟨by rw [HE.out]; rfl, hb.out⟩
end Go.Proofs.Ytcbjlnabbfkkeaa
