/-
  The contracts of word.Word and the document's Word: the number of the first bytes.
-/
import Derived.Test.YtphfcklfgmjboaaNumber
import Derived.Test.YtphfcklfgmjboaaCut
namespace Go.Proofs.Ytphfcklfgmjboaa
open Go.RowKit

theorem word_no (a : Option Addr) (len cap : Nat) (b o : Int) (w : World) (hf : (faultF b o != 0) = true) :
    Calls Try.prog 15 #[.slice a len cap, .int .i64 b, .int .i64 o] w fun e w' => e = .returned (.tuple #[.int .u64 0, .int .i64 (faultF b o)]) ∧ w' = w := by
  go_enter Try.func15, Try.ntmps15
  go_wp2_with (go_at_call 33; refine (fault_any _ _ _).mono ?_; rintro e w' ⟨rfl, rfl⟩)
  go_ret2
  exact ⟨rfl, rfl⟩

theorem word_short (a : Option Addr) (len cap : Nat) (b o : Int) (n : Nat) (w : World) (hf : (faultF b o != 0) = false) (hs : sizeF b = n) (hlt : len < n) :
    Calls Try.prog 15 #[.slice a len cap, .int .i64 b, .int .i64 o] w fun e w' => e = .returned (.tuple #[.int .u64 0, .int .i64 11]) ∧ w' = w := by
  go_enter Try.func15, Try.ntmps15
  go_wp2_with (first | (go_at_call 33; refine (fault_any _ _ _).mono ?_; rintro e w' ⟨rfl, rfl⟩) | (go_at_call 30; refine (size_any _ _).mono ?_; rintro e w' ⟨rfl, rfl⟩))
  go_ret2
  exact ⟨rfl, rfl⟩

theorem word_ok (a : Option Addr) (cap : Nat) (zs : List Int) (b o : Int) (n : Nat) (w : World) (hr : Rd w (.slice a zs.length cap) a cap zs) (hf : (faultF b o != 0) = false) (hs : sizeF b = n) (h1 : 1 ≤ n) (h8 : n ≤ 8) (hle : n ≤ zs.length) :
    Calls Try.prog 15 #[.slice a zs.length cap, .int .i64 b, .int .i64 o] w fun e w' => e = .returned (.tuple #[.int .u64 (numF o (zs.take n)), .int .i64 0]) ∧ ∃ m, w' = w.drewN m := by
  have hcap := hr.room
  have hmax := hr.most
  unfold maxLen at hmax
  obtain ⟨bk, off, rfl, _, _⟩ := hr.cells (by omega)
  have hl : (zs.take n).length = n := by simp; omega
  have hn := number_any (some ⟨bk, off, none⟩) cap (zs.take n) o w (hr.take n) (by omega)
  rw [hl] at hn
  have HN := hid hn
  clear hn hr hl
  generalize zs.length = len at *
  generalize numF o (zs.take n) = r at *
  have hc1 : n ≤ cap := by omega
  have hc2 : (n : Int) ≤ (cap : Int) := by omega
  have hc3 : (n : Int) ≤ (len : Int) := by omega
  go_enter Try.func15, Try.ntmps15
  go_wp2_with (first | (go_at_call 33; refine (fault_any _ _ _).mono ?_; rintro e w' ⟨rfl, hw⟩; obtain rfl := hw.symm; clear hw) | (go_at_call 30; refine (size_any _ _).mono ?_; rintro e w' ⟨rfl, hw⟩; obtain rfl := hw.symm; clear hw) | (go_at_call 36; refine (HN.out).mono ?_; rintro e w' ⟨rfl, m, rfl⟩))
  go_ret2
  exact ⟨rfl, _, rfl⟩

theorem wordr_no (a : Option Addr) (len cap : Nat) (b o : Int) (w : World) (hf : (faultF b o != 0) = true) :
    Calls Try.prog 16 #[.slice a len cap, .int .i64 b, .int .i64 o] w fun e w' => e = .returned (.tuple #[.int .u64 0, .int .i64 (faultF b o)]) ∧ w' = w := by
  go_enter Try.func16, Try.ntmps16
  go_wp2_with (go_at_call 35; refine (asked_any _ _ _).mono ?_; rintro e w' ⟨rfl, rfl⟩)
  go_ret2
  exact ⟨rfl, rfl⟩

theorem wordr_short (a : Option Addr) (len cap : Nat) (b o : Int) (n : Nat) (w : World) (hf : (faultF b o != 0) = false) (hq : b / 8 = n) (hb0 : 8 ≤ b) (hb1 : b ≤ 64) (hlt : len < n) :
    Calls Try.prog 16 #[.slice a len cap, .int .i64 b, .int .i64 o] w fun e w' => e = .returned (.tuple #[.int .u64 0, .int .i64 11]) ∧ w' = w := by
  go_enter Try.func16, Try.ntmps16
  go_wp2_with (go_at_call 35; refine (asked_any _ _ _).mono ?_; rintro e w' ⟨rfl, rfl⟩)
  go_ret2
  exact ⟨rfl, rfl⟩

/-- The document's number behind k bytes of n. -/
def refF (o : Int) (n : Nat) (zs : List Int) (k : Nat) : Int := if o = 1 then numBE (zs.take k) else numBE ((zs.take n).reverse.take k)

theorem refF_zero (o : Int) (n : Nat) (zs : List Int) : refF o n zs 0 = 0 := by simp [refF, numBE]
theorem refF_full (o : Int) (n : Nat) (zs : List Int) : refF o n zs n = numF o (zs.take n) := by
  unfold refF numF
  rw [show (zs.take n).reverse.take n = (zs.take n).reverse from List.take_of_length_le (by simp; omega)]

theorem refF_step (o : Int) (n : Nat) (zs : List Int) (k : Nat) (hn : n ≤ zs.length) (hk : k < n) : refF o n zs (k + 1) = refF o n zs k * 256 + (if o = 1 then zs.getD k 0 else zs.getD (n - 1 - k) 0) := by
  unfold refF
  by_cases ho : o = 1
  · simp only [if_pos ho]
    rw [take_snoc zs k (by omega), numBE_snoc]
  · simp only [if_neg ho]
    have hl : (zs.take n).length = n := by simp; omega
    rw [take_snoc _ k (by simp; omega), numBE_snoc, getD_reverse _ _ (by omega), hl, getD_take _ _ _ (by omega)]

theorem refF_bound (o : Int) (n : Nat) (zs : List Int) (k : Nat) (hk : k ≤ 7) (h : ∀ j, 0 ≤ zs.getD j 0 ∧ zs.getD j 0 ≤ 255) : 0 ≤ refF o n zs k ∧ refF o n zs k < 72057594037927936 := by
  have aux : ∀ l : List Int, l.length ≤ k → (∀ c ∈ l, 0 ≤ c ∧ c ≤ 255) → 0 ≤ numBE l ∧ numBE l < 72057594037927936 := by
    intro l hl hc
    have hb := numBE_range l hc
    have hp := Nat.pow_le_pow_right (n := 256) (by decide) (show l.length ≤ 7 from by omega)
    have e : ((256 ^ l.length : Nat) : Int) ≤ ((256 ^ 7 : Nat) : Int) := by omega
    have e2 : (256 : Int) ^ l.length ≤ 72057594037927936 := by simpa using e
    omega
  unfold refF
  split
  · exact aux _ (by simp; omega) (take_bytes h k)
  · refine aux _ (by simp; omega) (fun c hc => take_bytes h n c (List.mem_reverse.1 (List.mem_of_mem_take hc)))

set_option maxHeartbeats 800000 in
theorem wordr_ok (a : Option Addr) (cap : Nat) (zs : List Int) (b o : Int) (n : Nat) (w : World) (hr : Rd w (.slice a zs.length cap) a cap zs) (hf : (faultF b o != 0) = false) (hq : b / 8 = n) (hb0 : 8 ≤ b) (hb1 : b ≤ 64) (h1 : 1 ≤ n) (h8 : n ≤ 8) (hle : n ≤ zs.length) :
    Calls Try.prog 16 #[.slice a zs.length cap, .int .i64 b, .int .i64 o] w fun e w' => e = .returned (.tuple #[.int .u64 (numF o (zs.take n)), .int .i64 0]) ∧ w' = w := by
  have hcap := hr.room
  have hmax := hr.most
  unfold maxLen at hmax
  obtain ⟨bk, off, rfl, _, hc⟩ := hr.cells (by omega)
  have HC := hid hc
  have hby : ∀ j, 0 ≤ zs.getD j 0 ∧ zs.getD j 0 ≤ 255 := fun j => ⟨hr.lo j, hr.hi j⟩
  have HY := hid hby
  obtain ⟨len, hlen⟩ : ∃ n, n = zs.length := ⟨_, rfl⟩
  rw [← hlen] at hcap hle ⊢
  have HL := hid hlen
  have hc3 : (n : Int) ≤ (len : Int) := by omega
  clear hc hby hlen hr
  go_enter Try.func16, Try.ntmps16
  go_wp2_with (go_at_call 35; refine (asked_any _ _ _).mono ?_; rintro e w' ⟨rfl, hw⟩; obtain rfl := hw.symm; clear hw)
  go_loop [9, 10] (fun x i => ∃ k : Nat, k ≤ n ∧ i = .int .i64 k ∧ x = .int .u64 (refF o n zs k)) (fun _ i => n - (intOf i).toNat)
  case atStart => exact ⟨0, by omega, rfl, by rw [refF_zero]⟩
  case round =>
    obtain ⟨k, hk, rfl, rfl⟩ := hrel
    by_cases hlt : k < n
    · have hst := refF_step o n zs k (by rw [← HL.out]; exact hle) hlt
      have hbd := refF_bound o n zs k (by omega) HY.out
      by_cases ho : o = 1
      · subst ho
        rw [if_pos rfl] at hst
        have hyk := HY.out k
        have hck := HC.out k (by rw [← HL.out]; omega)
        generalize zs.getD k 0 = c at *
        generalize refF 1 n zs k = r at *
        have HS := hid hst
        clear hst
        go_wp2
        go_round
        case rel => exact ⟨k + 1, by omega, by go_num, by rw [HS.out]⟩
        case measure => simp [intOf]; omega
      · have g1 : (o == 1) = false := by rw [beq_eq_false_iff_ne]; exact ho
        rw [if_neg ho] at hst
        have hyk := HY.out (n - 1 - k)
        have hck := HC.out (n - 1 - k) (by rw [← HL.out]; omega)
        obtain ⟨j, hj⟩ : ∃ j : Nat, j = n - 1 - k := ⟨_, rfl⟩
        rw [← hj] at hst hyk hck
        have hj1 : (n : Int) - 1 - (k : Int) = (j : Int) := by omega
        have hj2 : j < len := by omega
        generalize zs.getD j 0 = c at *
        generalize refF o n zs k = r at *
        have HS := hid hst
        clear hst hj
        go_wp2
        go_round
        case rel => exact ⟨k + 1, by omega, by go_num, by rw [HS.out]⟩
        case measure => simp [intOf]; omega
    · have hkn : k = n := by omega
      subst hkn
      rw [refF_full]
      go_wp2
      go_ret2
      exact ⟨rfl, rfl⟩
end Go.Proofs.Ytphfcklfgmjboaa
