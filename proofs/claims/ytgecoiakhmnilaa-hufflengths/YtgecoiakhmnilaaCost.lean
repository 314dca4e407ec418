/-
  The contracts of Cost, the code's and the document's, and of the document's Counted and Deep.
-/
import Derived.Test.YtgecoiakhmnilaaCounts
namespace Go.Proofs.Ytgecoiakhmnilaa
open Go.RowKit Hf

theorem areC_bad (cs : List Int) (k : Nat) (hk : k < cs.length) (h : 512 ≤ k ∨ cs.getD k 0 < 0 ∨ 1073741824 < cs.getD k 0) : areC cs = false := by
  unfold areC
  rcases h with h | h
  · rw [decide_eq_false (by omega)]; rfl
  · have : cs.any wrongC = true := by
      rw [List.any_eq_true]
      refine ⟨_, getD_mem cs k hk, ?_⟩
      unfold wrongC
      rw [Bool.or_eq_true, decide_eq_true_eq, decide_eq_true_eq]; exact h
    rw [this]; simp
theorem areC_good (cs : List Int) (h : ∀ k, k < cs.length → ¬ (512 ≤ k ∨ cs.getD k 0 < 0 ∨ 1073741824 < cs.getD k 0)) : areC cs = true := by
  unfold areC
  rw [Bool.and_eq_true, decide_eq_true_eq, Bool.not_eq_true']
  refine ⟨?_, ?_⟩
  · by_cases hl : cs.length ≤ 512
    · exact hl
    · exact absurd (Or.inl (by omega)) (h 512 (by omega))
  · cases hq : cs.any wrongC with
    | false => rfl
    | true =>
      rw [List.any_eq_true] at hq
      obtain ⟨x, hx, hp⟩ := hq
      obtain ⟨i, hi, rfl⟩ := List.getElem_of_mem hx
      have := h i hi
      simp only [List.getD, List.getElem?_eq_getElem hi, Option.getD_some] at this
      unfold wrongC at hp
      rw [Bool.or_eq_true, decide_eq_true_eq, decide_eq_true_eq] at hp
      exact absurd (Or.inr hp) this
theorem areC_rng {cs : List Int} (h : areC cs = true) : cs.length ≤ 512 ∧ ∀ k, 0 ≤ cs.getD k 0 ∧ cs.getD k 0 ≤ 1073741824 := by
  unfold areC at h
  rw [Bool.and_eq_true, decide_eq_true_eq, Bool.not_eq_true'] at h
  refine ⟨h.1, fun k => ?_⟩
  by_cases hk : k < cs.length
  · have h2 := h.2
    rw [List.any_eq_false] at h2
    have := h2 _ (getD_mem cs k hk)
    unfold wrongC at this
    rw [Bool.or_eq_true, decide_eq_true_eq, decide_eq_true_eq] at this
    omega
  · rw [getD_out cs k (by omega)]; omega

set_option maxHeartbeats 800000 in
theorem counted_ref (a : Option Addr) (cap : Nat) (cs : List Int) (w : World) (hr : Ri w .i64 a cap cs) :
    Calls Try.prog 31 #[.slice a cs.length cap] w fun e w' => e = .returned (.bool (areC cs)) ∧ w' = w := by
  have HR := hid hr
  have hmax := hr.most
  have hroom := hr.room
  unfold maxLen at hmax
  obtain ⟨len, hl⟩ : ∃ n, n = cs.length := ⟨_, rfl⟩
  have HL := hid hl
  rw [← hl] at hroom ⊢
  clear hr hl
  go_enter Try.func31, Try.ntmps31
  go_wp2
  go_loop [3] (fun i => ∃ k : Nat, k ≤ len ∧ i = .int .i64 k ∧ Hid (∀ j, j < k → ¬ (512 ≤ j ∨ cs.getD j 0 < 0 ∨ 1073741824 < cs.getD j 0))) (fun i => len - (intOf i).toNat)
  case atStart => exact ⟨0, by omega, rfl, fun j hj => absurd hj (by omega)⟩
  case round =>
    obtain ⟨k, hk, rfl, HA⟩ := hrel
    by_cases hlt : k < len
    · have hkl : (k : Int) < (len : Int) := by omega
      have HZ : Hid (k < cs.length) := by show _ < _; rw [← HL.out]; exact hlt
      obtain ⟨b, off, rfl, hbw, hc⟩ := (HR.out).cells (by rw [← HL.out]; omega)
      have ck := hc k HZ.out
      clear hc
      by_cases h1 : 512 ≤ k
      · have h1' : (512 : Int) ≤ (k : Int) := by omega
        have E := hid (areC_bad cs k HZ.out (Or.inl h1))
        go_wp2
        go_ret
        exact ⟨by rw [E.out]; rfl, rfl⟩
      · have h1' : ¬ (512 : Int) ≤ (k : Int) := by omega
        have HB := hid (fun h => areC_bad cs k HZ.out (Or.inr h))
        have HA2 : Hid (¬ (cs.getD k 0 < 0 ∨ 1073741824 < cs.getD k 0) → ∀ j, j < k + 1 → ¬ (512 ≤ j ∨ cs.getD j 0 < 0 ∨ 1073741824 < cs.getD j 0)) := fun hn j hj => by
          by_cases e : j = k
          · subst e; omega
          · exact HA.out j (by omega)
        generalize cs.getD k 0 = z at *
        by_cases h2 : z < 0
        · have E := hid (HB.out (Or.inl h2))
          go_wp2
          go_ret
          exact ⟨by rw [E.out]; rfl, rfl⟩
        · by_cases h3 : 1073741824 < z
          · have E := hid (HB.out (Or.inr h3))
            go_wp2
            go_ret
            exact ⟨by rw [E.out]; rfl, rfl⟩
          · go_wp2
            exact ⟨⟨k + 1, by omega, by go_num, HA2.out (by omega)⟩, by simp [intOf]; omega⟩
    · obtain rfl : k = len := by omega
      have E := hid (areC_good cs (fun j hj => HA.out j (by rw [HL.out]; exact hj)))
      go_wp2
      go_ret
      exact ⟨by rw [E.out]; rfl, rfl⟩

/-- A count that is not 0, whose length is. -/
def noCode (zs cs : List Int) : Bool := (List.range cs.length).any (fun i => cs.getD i 0 != 0 && zs.getD i 0 == 0)
/-- The sum of the first k counts times their lengths. -/
def costS (zs cs : List Int) : Nat → Int
  | 0 => 0
  | k + 1 => costS zs cs k + cs.getD k 0 * zs.getD k 0
def costV (zs cs : List Int) : Int × Int := if !checkB zs then (0, 51) else if !areC cs || cs.length != zs.length then (0, 50) else if noCode zs cs then (0, 53) else (costS zs cs cs.length, 0)

theorem noCode_hit (zs cs : List Int) (k : Nat) (hk : k < cs.length) (h1 : cs.getD k 0 ≠ 0) (h2 : zs.getD k 0 = 0) : noCode zs cs = true := by
  unfold noCode
  rw [List.any_eq_true]
  exact ⟨k, by simpa using hk, by rw [h2]; simpa using h1⟩
theorem noCode_miss (zs cs : List Int) (h : ∀ k, k < cs.length → ¬ (cs.getD k 0 ≠ 0 ∧ zs.getD k 0 = 0)) : noCode zs cs = false := by
  unfold noCode
  rw [List.any_eq_false]
  intro k hk hb
  rw [Bool.and_eq_true, bne_iff_ne, beq_iff_eq] at hb
  exact h k (by simpa using hk) hb
theorem term_rng {c z : Int} (hc : 0 ≤ c ∧ c ≤ 1073741824) (hz : 0 ≤ z ∧ z ≤ 15) : 0 ≤ c * z ∧ c * z ≤ 16106127360 := by
  refine ⟨Int.mul_nonneg hc.1 hz.1, ?_⟩
  have h1 : c * z ≤ c * 15 := Int.mul_le_mul_of_nonneg_left hz.2 hc.1
  omega
theorem costS_rng (zs cs : List Int) (hc : ∀ k, 0 ≤ cs.getD k 0 ∧ cs.getD k 0 ≤ 1073741824) (hz : ∀ k, 0 ≤ zs.getD k 0 ∧ zs.getD k 0 ≤ 15) (k : Nat) : 0 ≤ costS zs cs k ∧ costS zs cs k ≤ k * 16106127360 := by
  induction k with
  | zero => simp [costS]
  | succ k ih =>
    have := term_rng (hc k) (hz k)
    rw [costS]; omega
theorem len_rng {zs : List Int} (h : checkB zs = true) : zs.length ≤ 512 ∧ ∀ k, 0 ≤ zs.getD k 0 ∧ zs.getD k 0 ≤ 15 := by
  unfold checkB at h
  rw [Bool.and_eq_true] at h
  refine ⟨(lenOk_all h.1).1, fun k => ?_⟩
  by_cases hk : k < zs.length
  · exact (lenOk_all h.1).2 _ (getD_mem zs k hk)
  · rw [getD_out zs k (by omega)]; omega

theorem costV_51 {zs cs : List Int} (h : checkB zs = false) : costV zs cs = (0, 51) := by unfold costV; rw [h]; rfl
theorem costV_50 {zs cs : List Int} (h : checkB zs = true) (h2 : areC cs = false ∨ cs.length ≠ zs.length) : costV zs cs = (0, 50) := by
  unfold costV
  rw [h]
  rcases h2 with h2 | h2
  · rw [h2]; rfl
  · have : (cs.length != zs.length) = true := by simpa using h2
    rw [this]; simp
theorem costV_go {zs cs : List Int} (h : checkB zs = true) (h2 : areC cs = true) (h3 : cs.length = zs.length) : costV zs cs = if noCode zs cs then (0, 53) else (costS zs cs cs.length, 0) := by
  unfold costV
  rw [h, h2, h3]
  simp
end Go.Proofs.Ytgecoiakhmnilaa
