/-
  The contract of the document's Turn: the same number as word.Turn's.
-/
import Derived.Test.YtphfcklfgmjboaaTurn
namespace Go.Proofs.Ytphfcklfgmjboaa
open Go.RowKit

theorem turn_ref_no (x b y : Int) (w : World) (hs : wdB b = false) :
    Calls Try.prog 10 #[.int .u64 x, .int .i64 b, .int .i64 y] w fun e w' => e = .returned (.tuple #[.int .u64 0, .int .i64 10]) ∧ w' = w := by
  go_enter Try.func10, Try.ntmps10
  go_wp2_with (go_at_call 28; refine (width_any _ _).mono ?_; rintro e w' ⟨rfl, rfl⟩)
  go_ret2
  exact ⟨rfl, rfl⟩

/-- The loop's number behind k rounds. -/
def rotI (b l : Int) (k : Nat) : Int := ((Num.rotN b.toNat k l.toNat : Nat) : Int)

theorem rotI_bound (b l : Int) (k : Nat) (hb0 : 0 ≤ b) (hb1 : b ≤ 64) (hl0 : 0 ≤ l) (hl1 : l < 2 ^ b.toNat) (hk : (k : Int) ≤ b) :
    0 ≤ rotI b l k ∧ rotI b l k < 2 ^ b.toNat ∧ rotI b l k < 18446744073709551616 := by
  have h := Num.rotN_lt b.toNat k l.toNat (by omega) (by have e : (l.toNat : Int) < ((2 ^ b.toNat : Nat) : Int) := by rw [Num.two_pow_cast]; omega
                                                         omega)
  have h2 : ((Num.rotN b.toNat k l.toNat : Nat) : Int) < ((2 ^ b.toNat : Nat) : Int) := by omega
  have h64 : (2 : Nat) ^ b.toNat ≤ 2 ^ 64 := Nat.pow_le_pow_right (n := 2) (by decide) (by omega)
  unfold rotI
  refine ⟨by omega, by rw [Num.two_pow_cast] at h2; exact h2, by omega⟩

theorem rotI_step (b l : Int) (k : Nat) (hb0 : 1 ≤ b) (hb1 : b ≤ 64) (hl0 : 0 ≤ l) (hl1 : l < 2 ^ b.toNat) (hk : (k : Int) < b) :
    lowF (IntKind.u64.wrap (rotI b l k * 2)) b + rotI b l k / powF (b - 1) = rotI b l (k + 1) := by
  have h := Num.rot_step b.toNat k l.toNat (by omega) (by have e : (l.toNat : Int) < ((2 ^ b.toNat : Nat) : Int) := by rw [Num.two_pow_cast]; omega
                                                          omega)
  have hd : (2 : Int) ^ b.toNat ∣ 18446744073709551616 := by
    have := Nat.pow_dvd_pow (n := 64) 2 (show b.toNat ≤ 64 from by omega)
    have e := Int.natCast_dvd_natCast.2 this
    simpa using e
  unfold rotI lowF powF
  rw [IntKind.wrap_u64, Int.emod_emod_of_dvd _ hd, show (b - 1).toNat = b.toNat - 1 from by omega, ← h]
  simp

theorem turn_ref (x b y : Int) (w : World) (h0 : 0 ≤ x) (h1 : x < 18446744073709551616) (hb0 : 8 ≤ b) (hb1 : b ≤ 64) (hs : wdB b = true) :
    Calls Try.prog 10 #[.int .u64 x, .int .i64 b, .int .i64 y] w fun e w' => e = .returned (.tuple #[.int .u64 (Num.turnI x b y), .int .i64 0]) ∧ w' = w := by
  obtain ⟨n, hn⟩ : ∃ n, n = y % b := ⟨_, rfl⟩
  have hn0 : 0 ≤ n := by rw [hn]; exact Int.emod_nonneg _ (by omega)
  have hn1 : n < b := by rw [hn]; exact Int.emod_lt_of_pos _ (by omega)
  have HN : Hid (n = y % b) := hn
  obtain ⟨l, hl⟩ : ∃ l, l = lowF x b := ⟨_, rfl⟩
  have hpb : (0 : Int) < 2 ^ b.toNat := Int.pow_pos (by decide)
  have hpb1 := powF_pos (b - 1)
  have hl0 : 0 ≤ l := by rw [hl]; exact Int.emod_nonneg _ (by omega)
  have hl1 : l < 2 ^ b.toNat := by rw [hl]; exact Int.emod_lt_of_pos _ hpb
  have HL : Hid (l = lowF x b) := hl
  have hlz : lowF x b = rotI b l 0 := by
    rw [rotI, Num.rot_zero _ _ (by have e : (l.toNat : Int) < ((2 ^ b.toNat : Nat) : Int) := by rw [Num.two_pow_cast]; omega
                                   omega)]; omega
  have hr0 := rotI_bound b l 0 (by omega) hb1 hl0 hl1 (by omega)
  obtain ⟨r0, er0⟩ : ∃ r, r = rotI b l 0 := ⟨_, rfl⟩
  rw [← er0] at hlz hr0
  have ER0 : Hid (r0 = rotI b l 0) := er0
  clear er0
  have fin : ∀ w : World, Calls Try.prog 10 #[.int .u64 x, .int .i64 b, .int .i64 y] w fun e w' => e = .returned (.tuple #[.int .u64 (rotI b l n.toNat), .int .i64 0]) ∧ w' = w := by
    intro w
    clear hn hl
    have ht : y.tmod b = n ∨ y.tmod b = n - b := by
      have e := HN.out
      rw [Int.tmod_eq_emod]; split <;> omega
    by_cases hneg : y.tmod b < 0
    all_goals
      first
        | (have hmod : y.tmod b = n - b := by omega
           have hdn : decide (n - b < 0) = true := by simp; omega)
        | (have hmod : y.tmod b = n := by omega
           have hdn : decide (n < 0) = false := by simp; omega)
      clear ht hneg
      go_enter Try.func10, Try.ntmps10
      go_wp2_with (first | (go_at_call 28; refine (width_any _ _).mono ?_; rintro e w' ⟨rfl, rfl⟩) | (go_at_call 29; refine (low_ref _ _ _ (by omega) (by omega) (by omega) (by omega)).mono ?_; rintro e w' ⟨rfl, rfl⟩))
      go_loop [0, 8] (fun x m => ∃ k : Nat, (k : Int) ≤ n ∧ m = .int .i64 (n - k) ∧ x = .int .u64 (rotI b l k)) (fun _ m => (intOf m).toNat)
      case atStart => exact ⟨0, by omega, by simp, by rw [ER0.out]⟩
      case round =>
        obtain ⟨k, hk, rfl, rfl⟩ := hrel
        by_cases hlt : (k : Int) < n
        · have hst := rotI_step b l k (by omega) hb1 hl0 hl1 (by omega)
          have hb4 : 0 ≤ rotI b l k / powF (b - 1) := Int.ediv_nonneg (rotI_bound b l k (by omega) hb1 hl0 hl1 (by omega)).1 (by omega)
          have hb5 : 0 ≤ lowF (IntKind.u64.wrap (rotI b l k * 2)) b := Int.emod_nonneg _ (by omega)
          have hb6 : rotI b l k / powF (b - 1) ≤ rotI b l k := Int.ediv_le_self _ (rotI_bound b l k (by omega) hb1 hl0 hl1 (by omega)).1
          have hb2 := rotI_bound b l k (by omega) hb1 hl0 hl1 (by omega)
          have hb3 := rotI_bound b l (k + 1) (by omega) hb1 hl0 hl1 (by omega)
          obtain ⟨r, er⟩ : ∃ r, r = rotI b l k := ⟨_, rfl⟩
          obtain ⟨r', er'⟩ : ∃ r, r = rotI b l (k + 1) := ⟨_, rfl⟩
          rw [← er] at hst hb2 hb4 hb5 hb6
          rw [← er'] at hst hb3
          rw [← er]
          have ER : Hid (r' = rotI b l (k + 1)) := er'
          clear er er'
          go_wp2_with (first | (go_at_call 32; refine (power_any _ _ (by omega) (by omega)).mono ?_; rintro e w' ⟨rfl, rfl⟩) | (go_at_call 29; refine (low_ref _ _ _ (by first | omega | (rw [IntKind.wrap_u64]; omega)) (by first | omega | (rw [IntKind.wrap_u64]; omega)) (by omega) (by omega)).mono ?_; rintro e w' ⟨rfl, rfl⟩))
          go_round
          case rel => exact ⟨k + 1, by omega, by go_num, by rw [← ER.out]⟩
          case measure => simp [intOf]; omega
        · go_wp2
          go_ret2
          exact ⟨ret_pair (by rw [show n.toNat = k from by omega]), rfl⟩
  refine (fin w).mono fun e w' ⟨he, hw⟩ => ⟨?_, hw⟩
  rw [he]
  exact ret_pair (by rw [rotI, Num.turnI, hn, hl]; rfl)
end Go.Proofs.Ytphfcklfgmjboaa
