/-
  The contract of word's number: the number that has just these bytes.
-/
import Derived.Test.YtphfcklfgmjboaaBytesR
namespace Go.Proofs.Ytphfcklfgmjboaa
open Go.RowKit

/-- The number behind k bytes of n. -/
def accF (o : Int) (n : Nat) (zs : List Int) (k : Nat) : Int := if o = 1 then numBE (zs.take k) * 256 ^ (n - k) else numBE (zs.take k).reverse

theorem take_snoc (zs : List Int) (k : Nat) (hk : k < zs.length) : zs.take (k + 1) = zs.take k ++ [zs.getD k 0] := by
  rw [List.take_succ_eq_append_getElem hk]
  simp [List.getD, List.getElem?_eq_getElem hk]

theorem take_bytes {zs : List Int} (h : ∀ j, 0 ≤ zs.getD j 0 ∧ zs.getD j 0 ≤ 255) (k : Nat) : ∀ c ∈ zs.take k, 0 ≤ c ∧ c ≤ 255 := by
  intro c hc
  obtain ⟨j, hj, rfl⟩ := List.getElem_of_mem (List.mem_of_mem_take hc)
  have := h j
  simpa [List.getD, List.getElem?_eq_getElem hj] using this

theorem or_sum (i : Nat) (a b : Int) (ha0 : 0 ≤ a) (ha : a < 18446744073709551616) (hm : a % 2 ^ i = 0) (hb0 : 0 ≤ b) (hb : b < 2 ^ i) (hb64 : b < 18446744073709551616) : bits .or .u64 a b = a + b := by
  obtain ⟨m, rfl⟩ := Int.eq_ofNat_of_zero_le ha0
  obtain ⟨n, rfl⟩ := Int.eq_ofNat_of_zero_le hb0
  have e1 : m % 2 ^ i = 0 := by
    have : ((m % 2 ^ i : Nat) : Int) = 0 := by simpa using hm
    omega
  have e2 : n < 2 ^ i := by
    have : (n : Int) < ((2 ^ i : Nat) : Int) := by simpa using hb
    omega
  rw [u64_or_nat _ _ (by omega) (by omega), nat_join i m n e1 e2]
  omega

theorem or_sum' (i : Nat) (a b : Int) (ha0 : 0 ≤ a) (ha : a < 2 ^ i) (ha64 : a < 18446744073709551616) (hb0 : 0 ≤ b) (hb : b < 18446744073709551616) (hm : b % 2 ^ i = 0) : bits .or .u64 a b = a + b := by
  have h := or_sum i b a hb0 hb hm ha0 ha ha64
  obtain ⟨m, rfl⟩ := Int.eq_ofNat_of_zero_le ha0
  obtain ⟨n, rfl⟩ := Int.eq_ofNat_of_zero_le hb0
  rw [u64_or_nat _ _ (by omega) (by omega)] at h ⊢
  rw [Nat.or_comm, h]; omega

theorem pow256_le (k : Nat) (hk : k ≤ 8) : (256 : Int) ^ k ≤ 18446744073709551616 := by
  have h := Nat.pow_le_pow_right (n := 256) (by decide) hk
  have e : ((256 ^ k : Nat) : Int) ≤ ((256 ^ 8 : Nat) : Int) := by omega
  simpa using e

theorem accF_bound (o : Int) (n : Nat) (zs : List Int) (k : Nat) (hz : zs.length = n) (hn : n ≤ 8) (hk : k ≤ n) (h : ∀ j, 0 ≤ zs.getD j 0 ∧ zs.getD j 0 ≤ 255) : 0 ≤ accF o n zs k ∧ accF o n zs k < 18446744073709551616 := by
  have hl : (zs.take k).length = k := by simp; omega
  have hb := numBE_range (zs.take k) (take_bytes h k)
  have hb' := numBE_range (zs.take k).reverse (fun c hc => take_bytes h k c (List.mem_reverse.1 hc))
  rw [List.length_reverse] at hb'
  rw [hl] at hb hb'
  have hp : (0 : Int) < 256 ^ (n - k) := Int.pow_pos (by decide)
  unfold accF
  split
  · refine ⟨Int.mul_nonneg hb.1 (by omega), ?_⟩
    have h1 : numBE (zs.take k) * 256 ^ (n - k) < 256 ^ k * 256 ^ (n - k) := Int.mul_lt_mul_of_pos_right hb.2 hp
    rw [← Int.pow_add, show k + (n - k) = n from by omega] at h1
    exact Int.lt_of_lt_of_le h1 (pow256_le n hn)
  · exact ⟨hb'.1, Int.lt_of_lt_of_le hb'.2 (pow256_le k (by omega))⟩

theorem accF_step0 (o : Int) (n : Nat) (zs : List Int) (k : Nat) (hz : zs.length = n) (hn : n ≤ 8) (hk : k < n) (h : ∀ j, 0 ≤ zs.getD j 0 ∧ zs.getD j 0 ≤ 255) :
    0 ≤ zs.getD k 0 * 2 ^ (shF n o k) ∧ zs.getD k 0 * 2 ^ (shF n o k) < 18446744073709551616 ∧ bits .or .u64 (accF o n zs k) (zs.getD k 0 * 2 ^ (shF n o k)) = accF o n zs (k + 1) := by
  have hc := h k
  have hl : (zs.take k).length = k := by simp; omega
  have hb := numBE_range (zs.take k) (take_bytes h k)
  have hb' := numBE_range (zs.take k).reverse (fun c hc => take_bytes h k c (List.mem_reverse.1 hc))
  rw [List.length_reverse] at hb'
  rw [hl] at hb hb'
  have hab := accF_bound o n zs k hz hn (by omega) h
  have hab' := accF_bound o n zs (k + 1) hz hn (by omega) h
  have hs := take_snoc zs k (by omega)
  unfold accF shF at *
  by_cases ho : o = 1
  · simp only [if_pos ho] at *
    rw [← pow256]
    have hp : (0 : Int) < 256 ^ (n - 1 - k) := Int.pow_pos (by decide)
    have hnk : (256 : Int) ^ (n - k) = 256 ^ (n - 1 - k) * 256 := by rw [← Int.pow_succ, show (n - 1 - k).succ = n - k from by omega]
    rw [hs, numBE_snoc] at hab' ⊢
    rw [show n - (k + 1) = n - 1 - k from by omega] at hab' ⊢
    have e1 : (numBE (zs.take k) * 256 + zs.getD k 0) * 256 ^ (n - 1 - k) = numBE (zs.take k) * 256 ^ (n - k) + zs.getD k 0 * 256 ^ (n - 1 - k) := by
      rw [hnk, Int.add_mul, Int.mul_assoc, Int.mul_comm 256]
    rw [e1] at hab' ⊢
    have h5 : 0 ≤ zs.getD k 0 * 256 ^ (n - 1 - k) := Int.mul_nonneg hc.1 (by omega)
    have h6 : zs.getD k 0 * 256 ^ (n - 1 - k) ≤ 255 * 256 ^ (n - 1 - k) := Int.mul_le_mul_of_nonneg_right hc.2 (by omega)
    refine ⟨h5, by omega, or_sum (8 * (n - k)) _ _ hab.1 hab.2 ?_ h5 ?_ (by omega)⟩
    · rw [← pow256]; exact Int.mul_emod_left _ _
    · rw [← pow256, hnk]; omega
  · simp only [if_neg ho] at *
    rw [← pow256]
    have hp : (0 : Int) < 256 ^ k := Int.pow_pos (by decide)
    rw [hs, List.reverse_append, List.reverse_singleton, List.singleton_append, numBE_cons, List.length_reverse, hl] at hab' ⊢
    have h5 : 0 ≤ zs.getD k 0 * 256 ^ k := Int.mul_nonneg hc.1 (by omega)
    refine ⟨h5, by omega, ?_⟩
    rw [or_sum' (8 * k) _ _ hab.1 (by rw [← pow256]; exact hb'.2) hab.2 h5 (by omega) (by rw [← pow256]; exact Int.mul_emod_left _ _)]
    omega

theorem accF_step (o : Int) (n : Nat) (zs : List Int) (k : Nat) (hz : zs.length = n) (hn : n ≤ 8) (hk : k < n) (h : ∀ j, 0 ≤ zs.getD j 0 ∧ zs.getD j 0 ≤ 255) :
    bits .or .u64 (accF o n zs k) (IntKind.u64.wrap (zs.getD k 0 * 2 ^ (shF n o k))) = accF o n zs (k + 1) := by
  obtain ⟨h1, h2, h3⟩ := accF_step0 o n zs k hz hn hk h
  rw [IntKind.wrap_u64, Int.emod_eq_of_lt h1 h2, h3]

theorem accF_full (o : Int) (n : Nat) (zs : List Int) (hz : zs.length = n) : accF o n zs n = numF o zs := by
  unfold accF numF
  rw [List.take_of_length_le (by omega)]
  simp

theorem accF_zero (o : Int) (n : Nat) (zs : List Int) : accF o n zs 0 = 0 := by
  simp [accF, numBE]

theorem number_any (a : Option Addr) (cap : Nat) (zs : List Int) (o : Int) (w : World) (hr : Rd w (.slice a zs.length cap) a cap zs) (hn : zs.length ≤ 8) :
    Calls Try.prog 36 #[.slice a zs.length cap, .int .i64 o] w fun e w' => e = .returned (.int .u64 (numF o zs)) ∧ ∃ m, w' = w.drewN m := by
  have hcells := hr.cells
  have hby : ∀ j, 0 ≤ zs.getD j 0 ∧ zs.getD j 0 ≤ 255 := fun j => ⟨hr.lo j, hr.hi j⟩
  obtain ⟨n, hlen⟩ : ∃ n, n = zs.length := ⟨_, rfl⟩
  clear hr
  rw [← hlen] at hcells hn ⊢
  have HL : Hid (zs.length = n) := hlen.symm
  have HY := hid hby
  clear hlen hby
  go_enter Try.func36, Try.ntmps36
  go_wp2
  go_loopw [5, 9] (fun x i wr => ∃ k : Nat, k ≤ n ∧ i = .int .i64 k ∧ x = .int .u64 (accF o n zs k) ∧ ∃ m, wr = w.drewN m) (fun _ i _ => n - (intOf i).toNat)
  case atStart => exact ⟨0, by omega, rfl, by rw [accF_zero], 0, rfl⟩
  case round =>
    obtain ⟨k, hk, rfl, rfl, m, rfl⟩ := hrel
    by_cases hlt : k < n
    · obtain ⟨b, off, rfl, hbw, hc⟩ := hcells (by omega)
      have hck : (w.drewN m).cell? ⟨b, off + k, none⟩ = some (.int .u8 (zs.getD k 0)) := by simpa using hc k hlt
      have hyk := HY.out k
      have hst := accF_step o n zs k HL.out hn hlt HY.out
      have hb1 := accF_bound o n zs k HL.out hn hk HY.out
      have hsh := shF_le n o k hn hlt
      have hkn : (k : Int) < (n : Int) := by omega
      generalize zs.getD k 0 = c at *
      generalize hac : accF o n zs k = ac at *
      generalize hac' : accF o n zs (k + 1) = ac' at *
      have HAC := hid hac'
      generalize hW : w.drewN m = W at *
      have HW := hid hW
      clear hc hcells hac hac' hW
      go_wp2_with fail
      go_quiet ((go_at_call 34; exact Calls.quiet_of_same (shift_any k n o _ hlt hn)))
      go_wp2
      go_roundw
      case rel => exact ⟨k + 1, by omega, by go_num, by rw [HAC.out], m + nq, by rw [← HW.out, World.drewN_drewN]⟩
      case measure => simp [intOf]; omega
    · have hkn : k = n := by omega
      subst hkn
      rw [accF_full _ _ _ HL.out]
      go_wp2
      go_ret
      exact ⟨rfl, m, rfl⟩
end Go.Proofs.Ytphfcklfgmjboaa
