/-
  The contracts of slices.IndexFunc and slices.ContainsFunc at the two predicates of huff, and of areCounts; the document's Counted.
-/
import Derived.Test.YtgecoiakhmnilaaRefCodes
namespace Go.Proofs.Ytgecoiakhmnilaa
open Go.RowKit Hf

def wrongC (z : Int) : Bool := decide (z < 0) || decide (1073741824 < z)
def deepC (z : Int) : Bool := decide (15 < z)

theorem wrong_word (z : Int) (w : World) : Calls Try.prog 43 #[.int .i64 z] w fun e w' => e = .returned (.bool (wrongC z)) ∧ w' = w := by
  by_cases h : z < 0
  · have e : wrongC z = true := by simp [wrongC, h]
    rw [e]
    go_enter Try.func43, Try.ntmps43
    go_wp2
    go_ret
    exact ⟨rfl, rfl⟩
  · have e : wrongC z = decide (1073741824 < z) := by simp [wrongC, h]
    rw [e]
    go_enter Try.func43, Try.ntmps43
    go_wp2
    go_ret
    exact ⟨rfl, rfl⟩
theorem deepC_word (z : Int) (w : World) : Calls Try.prog 29 #[.int .i64 z] w fun e w' => e = .returned (.bool (deepC z)) ∧ w' = w := by
  unfold deepC
  go_enter Try.func29, Try.ntmps29
  go_wp2
  go_ret
  exact ⟨rfl, rfl⟩

set_option maxHeartbeats 800000 in
theorem index_43 (a : Option Addr) (cap : Nat) (zs : List Int) (w : World) (hr : Ri w .i64 a cap zs) :
    Calls Try.prog 46 #[.slice a zs.length cap, .func (.func 43) #[] #[]] w fun e w' => (∃ r, e = .returned (.int .i64 r) ∧ (0 ≤ r ↔ zs.any wrongC = true) ∧ -1 ≤ r) ∧ w' = w := by
  have HR := hid hr
  have hmax := hr.most
  have hroom := hr.room
  unfold maxLen at hmax
  obtain ⟨len, hl⟩ : ∃ n, n = zs.length := ⟨_, rfl⟩
  have HL := hid hl
  rw [← hl] at hroom ⊢
  clear hr hl
  go_enter Try.func46, Try.ntmps46
  go_wp2
  go_loop [8] (fun i => ∃ k : Nat, k ≤ len ∧ i = .int .i64 k ∧ Hid (∀ j, j < k → wrongC (zs.getD j 0) = false)) (fun i => len - (intOf i).toNat)
  case atStart => exact ⟨0, by omega, rfl, fun j hj => absurd hj (by omega)⟩
  case round =>
    obtain ⟨k, hk, rfl, HA⟩ := hrel
    by_cases hlt : k < len
    · have hkl : (k : Int) < (len : Int) := by omega
      have HZ : Hid (k < zs.length) := by show _ < _; rw [← HL.out]; exact hlt
      obtain ⟨b, off, rfl, hbw, hc⟩ := (HR.out).cells (by rw [← HL.out]; omega)
      have ck := hc k HZ.out
      have HW := hid (wrong_word (zs.getD k 0))
      clear hc
      cases hq : wrongC (zs.getD k 0) with
      | true =>
        have HQ := hid hq
        rw [hq] at HW
        clear hq
        generalize hzz : zs.getD k 0 = z at *
        have HZZ := hid hzz
        clear hzz
        go_wp2_with fail
        refine (HW.out _).mono ?_
        rintro _ w1 ⟨rfl, hw⟩
        obtain rfl := hw.symm
        clear hw
        go_wp2
        go_ret
        refine ⟨⟨_, rfl, ⟨fun _ => ?_, fun _ => by omega⟩, by omega⟩, rfl⟩
        rw [List.any_eq_true]
        exact ⟨zs.getD k 0, getD_mem zs k HZ.out, by rw [HZZ.out]; exact HQ.out⟩
      | false =>
        have HQ := hid hq
        rw [hq] at HW
        clear hq
        have HA2 : Hid (∀ j, j < k + 1 → wrongC (zs.getD j 0) = false) := fun j hj => by
          by_cases e : j = k
          · subst e; exact HQ.out
          · exact HA.out j (by omega)
        generalize zs.getD k 0 = z at *
        go_wp2_with fail
        refine (HW.out _).mono ?_
        rintro _ w1 ⟨rfl, hw⟩
        obtain rfl := hw.symm
        clear hw
        go_wp2
        exact ⟨⟨k + 1, by omega, by go_num, HA2⟩, by simp [intOf]; omega⟩
    · obtain rfl : k = len := by omega
      go_wp2
      go_ret
      refine ⟨⟨_, rfl, ⟨fun h => absurd h (by decide), fun h => ?_⟩, by omega⟩, rfl⟩
      obtain ⟨x, hx, hpx⟩ := h
      obtain ⟨i, hi, rfl⟩ := List.getElem_of_mem hx
      have := HA.out i (by rw [HL.out]; exact hi)
      simp only [List.getD, List.getElem?_eq_getElem hi, Option.getD_some] at this
      rw [this] at hpx
      cases hpx

theorem contains_43 (a : Option Addr) (cap : Nat) (zs : List Int) (w : World) (hr : Ri w .i64 a cap zs) :
    Calls Try.prog 28 #[.slice a zs.length cap, .func (.func 43) #[] #[]] w fun e w' => e = .returned (.bool (zs.any wrongC)) ∧ w' = w := by
  have HI := hid (index_43 a cap zs w hr)
  clear hr
  generalize zs.any wrongC = q at *
  generalize zs.length = len at *
  go_enter Try.func28, Try.ntmps28
  go_wp2_with fail
  refine HI.out.mono ?_
  rintro _ w1 ⟨⟨r, rfl, hiff, hr1⟩, hw⟩
  obtain rfl := hw.symm
  clear hw
  have HF := hid hiff
  clear hiff
  go_wp2
  go_ret
  refine ⟨?_, rfl⟩
  have : decide (0 ≤ r) = q := by
    have := HF.out
    cases q
    · simp at this ⊢; omega
    · simp at this ⊢; omega
  rw [← this]; rfl

set_option maxHeartbeats 800000 in
theorem index_29 (a : Option Addr) (cap : Nat) (zs : List Int) (w : World) (hr : Ri w .i64 a cap zs) :
    Calls Try.prog 46 #[.slice a zs.length cap, .func (.func 29) #[] #[]] w fun e w' => (∃ r, e = .returned (.int .i64 r) ∧ (0 ≤ r ↔ zs.any deepC = true) ∧ -1 ≤ r) ∧ w' = w := by
  have HR := hid hr
  have hmax := hr.most
  have hroom := hr.room
  unfold maxLen at hmax
  obtain ⟨len, hl⟩ : ∃ n, n = zs.length := ⟨_, rfl⟩
  have HL := hid hl
  rw [← hl] at hroom ⊢
  clear hr hl
  go_enter Try.func46, Try.ntmps46
  go_wp2
  go_loop [8] (fun i => ∃ k : Nat, k ≤ len ∧ i = .int .i64 k ∧ Hid (∀ j, j < k → deepC (zs.getD j 0) = false)) (fun i => len - (intOf i).toNat)
  case atStart => exact ⟨0, by omega, rfl, fun j hj => absurd hj (by omega)⟩
  case round =>
    obtain ⟨k, hk, rfl, HA⟩ := hrel
    by_cases hlt : k < len
    · have hkl : (k : Int) < (len : Int) := by omega
      have HZ : Hid (k < zs.length) := by show _ < _; rw [← HL.out]; exact hlt
      obtain ⟨b, off, rfl, hbw, hc⟩ := (HR.out).cells (by rw [← HL.out]; omega)
      have ck := hc k HZ.out
      have HW := hid (deepC_word (zs.getD k 0))
      clear hc
      cases hq : deepC (zs.getD k 0) with
      | true =>
        have HQ := hid hq
        rw [hq] at HW
        clear hq
        generalize hzz : zs.getD k 0 = z at *
        have HZZ := hid hzz
        clear hzz
        go_wp2_with fail
        refine (HW.out _).mono ?_
        rintro _ w1 ⟨rfl, hw⟩
        obtain rfl := hw.symm
        clear hw
        go_wp2
        go_ret
        refine ⟨⟨_, rfl, ⟨fun _ => ?_, fun _ => by omega⟩, by omega⟩, rfl⟩
        rw [List.any_eq_true]
        exact ⟨zs.getD k 0, getD_mem zs k HZ.out, by rw [HZZ.out]; exact HQ.out⟩
      | false =>
        have HQ := hid hq
        rw [hq] at HW
        clear hq
        have HA2 : Hid (∀ j, j < k + 1 → deepC (zs.getD j 0) = false) := fun j hj => by
          by_cases e : j = k
          · subst e; exact HQ.out
          · exact HA.out j (by omega)
        generalize zs.getD k 0 = z at *
        go_wp2_with fail
        refine (HW.out _).mono ?_
        rintro _ w1 ⟨rfl, hw⟩
        obtain rfl := hw.symm
        clear hw
        go_wp2
        exact ⟨⟨k + 1, by omega, by go_num, HA2⟩, by simp [intOf]; omega⟩
    · obtain rfl : k = len := by omega
      go_wp2
      go_ret
      refine ⟨⟨_, rfl, ⟨fun h => absurd h (by decide), fun h => ?_⟩, by omega⟩, rfl⟩
      obtain ⟨x, hx, hpx⟩ := h
      obtain ⟨i, hi, rfl⟩ := List.getElem_of_mem hx
      have := HA.out i (by rw [HL.out]; exact hi)
      simp only [List.getD, List.getElem?_eq_getElem hi, Option.getD_some] at this
      rw [this] at hpx
      cases hpx

theorem contains_29 (a : Option Addr) (cap : Nat) (zs : List Int) (w : World) (hr : Ri w .i64 a cap zs) :
    Calls Try.prog 28 #[.slice a zs.length cap, .func (.func 29) #[] #[]] w fun e w' => e = .returned (.bool (zs.any deepC)) ∧ w' = w := by
  have HI := hid (index_29 a cap zs w hr)
  clear hr
  generalize zs.any deepC = q at *
  generalize zs.length = len at *
  go_enter Try.func28, Try.ntmps28
  go_wp2_with fail
  refine HI.out.mono ?_
  rintro _ w1 ⟨⟨r, rfl, hiff, hr1⟩, hw⟩
  obtain rfl := hw.symm
  clear hw
  have HF := hid hiff
  clear hiff
  go_wp2
  go_ret
  refine ⟨?_, rfl⟩
  have : decide (0 ≤ r) = q := by
    have := HF.out
    cases q
    · simp at this ⊢; omega
    · simp at this ⊢; omega
  rw [← this]; rfl

/-- May counts be? -/
def areC (zs : List Int) : Bool := decide (zs.length ≤ 512) && !(zs.any wrongC)

theorem are_word (a : Option Addr) (cap : Nat) (zs : List Int) (w : World) (hr : Ri w .i64 a cap zs) :
    Calls Try.prog 25 #[.slice a zs.length cap] w fun e w' => e = .returned (.bool (areC zs)) ∧ w' = w := by
  have HI := hid (contains_43 a cap zs w hr)
  clear hr
  unfold areC
  generalize zs.any wrongC = q at *
  generalize zs.length = len at *
  by_cases h : len ≤ 512
  · have h' : (len : Int) ≤ 512 := by omega
    rw [decide_eq_true h]
    go_enter Try.func25, Try.ntmps25
    go_wp2_with fail
    refine HI.out.mono ?_
    rintro _ w1 ⟨rfl, hw⟩
    obtain rfl := hw.symm
    clear hw
    go_wp2
    go_ret
    exact ⟨rfl, rfl⟩
  · have h' : ¬ (len : Int) ≤ 512 := by omega
    rw [decide_eq_false h]
    go_enter Try.func25, Try.ntmps25
    go_wp2
    go_ret
    exact ⟨rfl, rfl⟩
end Go.Proofs.Ytgecoiakhmnilaa
