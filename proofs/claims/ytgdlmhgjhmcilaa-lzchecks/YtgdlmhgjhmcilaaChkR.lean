/-
  The contract of the document's Check.
-/
import Derived.Test.YtgdlmhgjhmcilaaKind
namespace Go.Proofs.Ytgdlmhgjhmcilaa
open Go.RowKit Lz

theorem chk_eq (d n x : Int) : chkZ (d, n, x) = if (d = 0 ∧ n = 1) ∨ (1 ≤ d ∧ d ≤ 4096 ∧ 4 ≤ n ∧ n ≤ 258 ∧ x = 0) then 0 else 60 := by
  unfold chkZ kindZ litB cpyB
  simp only [Bool.and_eq_true, decide_eq_true_eq, beq_iff_eq]
  by_cases h1 : d = 0 ∧ n = 1
  · have h : (d = 0 ∧ n = 1) ∨ (1 ≤ d ∧ d ≤ 4096 ∧ 4 ≤ n ∧ n ≤ 258 ∧ x = 0) := .inl h1
    rw [if_pos h1, if_pos h, if_neg (by decide)]
  · by_cases h2 : 1 ≤ d ∧ d ≤ 4096 ∧ 4 ≤ n ∧ n ≤ 258 ∧ x = 0
    · have h : (d = 0 ∧ n = 1) ∨ (1 ≤ d ∧ d ≤ 4096 ∧ 4 ≤ n ∧ n ≤ 258 ∧ x = 0) := .inr h2
      rw [if_neg h1, if_pos h2, if_pos h, if_neg (by decide)]
    · rw [if_neg h1, if_neg h2, if_pos rfl, if_neg (fun h => h.elim h1 h2)]

set_option maxHeartbeats 1600000 in
set_option maxRecDepth 100000 in
theorem check_ref (t : Tkz) (w : World) : Calls Try.prog 13 #[.agg (zC t)] w fun e w' => e = .returned (.int .i64 (chkZ t)) ∧ Below w.heap.size w w' := by
  obtain ⟨d, n, x⟩ := t
  have HE := hid (chk_eq d n x)
  unfold zC
  dsimp only
  by_cases hd0 : d = 0
  · have b1 : (d == 0) = true := by simpa using hd0
    have c1 : ¬ 1 ≤ d := by omega
    by_cases hn1 : n = 1
    · have b2 : (n == 1) = true := by simpa using hn1
      have HC : Hid (chkZ (d, n, x) = 0) := by show _ = _; rw [HE.out, if_pos (.inl ⟨hd0, hn1⟩)]
      clear HE hd0 hn1
      go_enter Try.func13, Try.ntmps13
      go_wp2
      go_ret
      exact ⟨by rw [HC.out]; rfl, bel_alloc _ _⟩
    · have b2 : (n == 1) = false := by simpa using hn1
      have HC : Hid (chkZ (d, n, x) = 60) := by show _ = _; rw [HE.out, if_neg (by omega)]
      clear HE hd0 hn1
      go_enter Try.func13, Try.ntmps13
      go_wp2
      go_ret
      exact ⟨by rw [HC.out]; rfl, bel_alloc _ _⟩
  · have b1 : (d == 0) = false := by simpa using hd0
    by_cases h1 : 1 ≤ d
    · by_cases h2 : d ≤ 4096
      · by_cases h3 : 4 ≤ n
        · by_cases h4 : n ≤ 258
          · by_cases h5 : x = 0
            · have b5 : (x == 0) = true := by simpa using h5
              have HC : Hid (chkZ (d, n, x) = 0) := by show _ = _; rw [HE.out, if_pos (.inr ⟨h1, h2, h3, h4, h5⟩)]
              clear HE hd0 h5
              go_enter Try.func13, Try.ntmps13
              go_wp2
              go_ret
              exact ⟨by rw [HC.out]; rfl, bel_alloc _ _⟩
            · have b5 : (x == 0) = false := by simpa using h5
              have HC : Hid (chkZ (d, n, x) = 60) := by show _ = _; rw [HE.out, if_neg (by omega)]
              clear HE hd0 h5
              go_enter Try.func13, Try.ntmps13
              go_wp2
              go_ret
              exact ⟨by rw [HC.out]; rfl, bel_alloc _ _⟩
          · skip
            have HC : Hid (chkZ (d, n, x) = 60) := by show _ = _; rw [HE.out, if_neg (by omega)]
            clear HE hd0
            go_enter Try.func13, Try.ntmps13
            go_wp2
            go_ret
            exact ⟨by rw [HC.out]; rfl, bel_alloc _ _⟩
        · skip
          have HC : Hid (chkZ (d, n, x) = 60) := by show _ = _; rw [HE.out, if_neg (by omega)]
          clear HE hd0
          go_enter Try.func13, Try.ntmps13
          go_wp2
          go_ret
          exact ⟨by rw [HC.out]; rfl, bel_alloc _ _⟩
      · skip
        have HC : Hid (chkZ (d, n, x) = 60) := by show _ = _; rw [HE.out, if_neg (by omega)]
        clear HE hd0
        go_enter Try.func13, Try.ntmps13
        go_wp2
        go_ret
        exact ⟨by rw [HC.out]; rfl, bel_alloc _ _⟩
    · skip
      have HC : Hid (chkZ (d, n, x) = 60) := by show _ = _; rw [HE.out, if_neg (by omega)]
      clear HE hd0
      go_enter Try.func13, Try.ntmps13
      go_wp2
      go_ret
      exact ⟨by rw [HC.out]; rfl, bel_alloc _ _⟩

end Go.Proofs.Ytgdlmhgjhmcilaa
