/-
  The contract of the document's Check.
-/
import Derived.Test.YtgecoiakhmnilaaTally
namespace Go.Proofs.Ytgecoiakhmnilaa
open Go.RowKit Hf

theorem checkF_long (zs : List Int) (h : 512 < zs.length) : checkF zs = 51 := by
  have hb : checkB zs = false := by
    unfold checkB lenOk
    simp [show ¬ zs.length ≤ 512 from by omega]
  unfold checkF; rw [hb]; rfl
theorem checkF_bad (zs : List Int) (k : Nat) (hk : k < zs.length) (h : ¬ (0 ≤ zs.getD k 0 ∧ zs.getD k 0 ≤ 15)) : checkF zs = 51 := by
  unfold checkF; rw [not_ok zs k hk h]; rfl

theorem checkr_long (a : Option Addr) (cap : Nat) (zs : List Int) (w : World) (h : 512 < zs.length) :
    Calls Try.prog 17 #[.slice a zs.length cap] w fun e w' => e = .returned (.int .i64 (checkF zs)) ∧ w' = w := by
  rw [checkF_long zs h]
  generalize zs.length = len at *
  go_enter Try.func17, Try.ntmps17
  go_wp2
  go_ret
  exact ⟨rfl, rfl⟩

theorem pow_up (n m : Nat) (h : n < m) : 2 ^ (m - n) = 2 ^ (m - (n + 1)) * 2 := by
  rw [show m - n = (m - (n + 1)) + 1 from by omega, Nat.pow_succ]

set_option maxHeartbeats 1600000 in
set_option maxRecDepth 100000 in
theorem checkr_short (a : Option Addr) (cap : Nat) (zs : List Int) (w : World) (hr : Ri w .i64 a cap zs) (h : zs.length ≤ 512) :
    Calls Try.prog 17 #[.slice a zs.length cap] w fun e w' => e = .returned (.int .i64 (checkF zs)) ∧ w' = w := by
  have HR := hid hr
  obtain ⟨len, hlen⟩ : ∃ n, n = zs.length := ⟨_, rfl⟩
  have HL := hid hlen
  rw [← hlen] at h ⊢
  clear hr hlen
  go_enter Try.func17, Try.ntmps17
  go_wp2
  go_loop [3, 4, 5, 6] (fun s3 s4 s5 i => ∃ k : Nat, k ≤ len ∧ i = .int .i64 k ∧ s3 = .int .i64 ((sumR (zs.take k) : Nat) : Int) ∧ s4 = .int .i64 ((someR (zs.take k) : Nat) : Int) ∧ s5 = .int .i64 ((oneR (zs.take k) : Nat) : Int) ∧ Hid (∀ j, j < k → 0 ≤ zs.getD j 0 ∧ zs.getD j 0 ≤ 15)) (fun _ _ _ i => len - (intOf i).toNat)
  case atStart => exact ⟨0, by omega, rfl, by simp [sumR], by simp [someR], by simp [oneR], fun j hj => absurd hj (by omega)⟩
  case round =>
    obtain ⟨k, hk, rfl, rfl, rfl, rfl, HA⟩ := hrel
    by_cases hlt : k < len
    · have hkl : (k : Int) < (len : Int) := by omega
      obtain ⟨b, off, rfl, hbw, hc⟩ := (HR.out).cells (by rw [← HL.out]; omega)
      have ck : w.cell? ⟨b, off + k, none⟩ = some (.int .i64 (zs.getD k 0)) := hc k (by rw [← HL.out]; exact hlt)
      clear hc
      have HZ : Hid (k < zs.length) := by show _ < _; rw [← HL.out]; exact hlt
      by_cases hbad : 0 ≤ zs.getD k 0 ∧ zs.getD k 0 ≤ 15
      · have HA2 : Hid (∀ j, j < k + 1 → 0 ≤ zs.getD j 0 ∧ zs.getD j 0 ≤ 15) := fun j hj => by
          by_cases e : j = k
          · subst e; exact hbad
          · exact HA.out j (by omega)
        have S1 := hid (sumR_snoc (zs.take k) (zs.getD k 0))
        have S2 := hid (someR_snoc (zs.take k) (zs.getD k 0))
        have S3 := hid (oneR_snoc (zs.take k) (zs.getD k 0))
        rw [← take_snoc zs k HZ.out] at S1 S2 S3
        have hs1 := sumR_le (zs.take k)
        have hs2 : someR (zs.take k) ≤ (zs.take k).length := List.countP_le_length
        have hs3 : oneR (zs.take k) ≤ (zs.take k).length := List.countP_le_length
        have hl2 : (zs.take k).length ≤ 512 := by rw [List.length_take]; omega
        generalize (zs.take k).length = tl at *
        generalize sumR (zs.take k) = a1 at *
        generalize someR (zs.take k) = a2 at *
        generalize oneR (zs.take k) = a3 at *
        by_cases hz : 0 < zs.getD k 0
        · obtain ⟨l, hlz⟩ : ∃ l : Nat, zs.getD k 0 = (l : Int) := ⟨(zs.getD k 0).toNat, by omega⟩
          rw [hlz] at ck hz hbad S1 S2 S3
          clear hlz
          rw [if_pos hz, Int.toNat_natCast] at S1
          rw [if_pos hz] at S2
          go_wp2
          go_loop [8, 9] (fun x y => ∃ (m : Nat), l ≤ m ∧ m ≤ 15 ∧ y = .int .i64 m ∧ x = .int .i64 ((2 ^ (m - l) : Nat) : Int)) (fun _ y => 15 - (intOf y).toNat)
          case atStart => exact ⟨l, by omega, by omega, rfl, by simp⟩
          case round =>
            obtain ⟨m, hm1, hm2, rfl, rfl⟩ := hrel
            have hp : 2 ^ (m - l) ≤ 2 ^ 15 := Nat.pow_le_pow_right (by decide) (by omega)
            by_cases hm : m < 15
            · have hm' : (m : Int) < 15 := by omega
              have HP : Hid (2 ^ (m + 1 - l) = 2 ^ (m - l) * 2) := by
                show _ = _
                rw [show m + 1 - l = (m - l) + 1 from by omega, Nat.pow_succ]
              generalize 2 ^ (m - l) = q at *
              go_wp2
              exact ⟨⟨m + 1, by omega, by omega, by go_num, by rw [HP.out]; simp⟩, by simp [intOf]; omega⟩
            · obtain rfl : m = 15 := by omega
              generalize 2 ^ (15 - l) = q at *
              by_cases h1 : l = 1
              · have h1' : (l : Int) = 1 := by omega
                rw [if_pos h1'] at S3
                have hb : ((l : Int) == 1) = true := by simp [h1]
                go_wp2
                exact ⟨⟨k + 1, by omega, by go_num, by rw [S1.out]; simp, by rw [S2.out]; simp, by rw [S3.out]; simp, HA2⟩, by simp [intOf]; omega⟩
              · have h1' : ¬ (l : Int) = 1 := by omega
                rw [if_neg h1'] at S3
                have hb : ((l : Int) == 1) = false := by simp; omega
                go_wp2
                exact ⟨⟨k + 1, by omega, by go_num, by rw [S1.out]; simp, by rw [S2.out]; simp, by rw [S3.out]; simp, HA2⟩, by simp [intOf]; omega⟩
        · have hz0 : zs.getD k 0 = 0 := by omega
          rw [hz0] at ck S1 S2 S3
          clear hz hz0 hbad
          go_wp2
          exact ⟨⟨k + 1, by omega, by go_num, by rw [S1.out]; simp, by rw [S2.out]; simp, by rw [S3.out]; simp, HA2⟩, by simp [intOf]; omega⟩
      · have E := hid (checkF_bad zs k HZ.out hbad)
        clear HZ
        generalize zs.getD k 0 = z at *
        by_cases hneg : z < 0
        · go_wp2
          go_ret
          exact ⟨by rw [E.out]; rfl, rfl⟩
        · have h15 : (15 : Int) < z := by omega
          clear hbad
          go_wp2
          go_ret
          exact ⟨by rw [E.out]; rfl, rfl⟩
    · obtain rfl : k = len := by omega
      have hok := ok_mk zs (by rw [← HL.out]; exact h) (fun j hj => HA.out j (by rw [HL.out]; exact hj))
      have e0 : checkF zs = if okR zs then 0 else 51 := by unfold checkF checkB; rw [hok, okR_okT hok]; rfl
      rw [show zs.take k = zs from by rw [HL.out]; exact List.take_length]
      have b1 : (((someR zs : Nat) : Int) == 0) = (someR zs == 0) := by rw [Bool.eq_iff_iff, beq_iff_eq, beq_iff_eq]; omega
      have b2 : (((someR zs : Nat) : Int) == 1) = (someR zs == 1) := by rw [Bool.eq_iff_iff, beq_iff_eq, beq_iff_eq]; omega
      have b3 : (((oneR zs : Nat) : Int) == 1) = (oneR zs == 1) := by rw [Bool.eq_iff_iff, beq_iff_eq, beq_iff_eq]; omega
      have b4 : (((sumR zs : Nat) : Int) == 32768) = (sumR zs == 32768) := by rw [Bool.eq_iff_iff, beq_iff_eq, beq_iff_eq]; omega
      unfold okR at e0
      have E := hid e0
      clear e0 hok
      generalize (someR zs == 0) = x1 at *
      generalize (someR zs == 1) = x2 at *
      generalize (oneR zs == 1) = x3 at *
      generalize (sumR zs == 32768) = x4 at *
      generalize ((someR zs : Nat) : Int) = n1 at *
      generalize ((oneR zs : Nat) : Int) = n2 at *
      generalize ((sumR zs : Nat) : Int) = n3 at *
      cases x1 <;> cases x2 <;> cases x3 <;> cases x4 <;> (go_wp2; go_ret; exact ⟨by rw [E.out]; rfl, rfl⟩)

theorem check_ref (a : Option Addr) (cap : Nat) (zs : List Int) (w : World) (hr : Ri w .i64 a cap zs) :
    Calls Try.prog 17 #[.slice a zs.length cap] w fun e w' => e = .returned (.int .i64 (checkF zs)) ∧ w' = w := by
  by_cases h : zs.length ≤ 512
  · exact checkr_short a cap zs w hr h
  · exact checkr_long a cap zs w (by omega)
end Go.Proofs.Ytgecoiakhmnilaa
