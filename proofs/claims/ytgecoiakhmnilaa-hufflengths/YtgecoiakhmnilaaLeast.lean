/-
  The contract of the document's least.
-/
import Derived.Test.YtgecoiakhmnilaaTreeA
namespace Go.Proofs.Ytgecoiakhmnilaa
open Go.RowKit Hf

namespace Hf
/-- The first of the first k nodes of least weight that stands in none, but not that one. -/
def lstK (wt inn : Nat → Int) (no : Int) : Nat → Int
  | 0 => -1
  | k + 1 => if (k : Int) ≠ no ∧ inn k < 0 ∧ (lstK wt inn no k < 0 ∨ wt k < wt (lstK wt inn no k).toNat) then (k : Int) else lstK wt inn no k
theorem lstK_rng (wt inn : Nat → Int) (no : Int) : ∀ k, -1 ≤ lstK wt inn no k ∧ lstK wt inn no k < (k : Int) ∨ (k = 0 ∧ lstK wt inn no k = -1)
  | 0 => Or.inr ⟨rfl, rfl⟩
  | k + 1 => by
    left
    rw [lstK]
    have := lstK_rng wt inn no k
    split <;> omega
end Hf

set_option maxHeartbeats 3200000 in
set_option maxRecDepth 100000 in
theorem least_ref (g n cap : Nat) (no : Int) (wt inn : Nat → Int) (w : World) (hn : n ≤ 100000) (hg : g < w.heap.size)
    (hc : ∀ i, i < n → w.cell? ⟨g, i * 3, none⟩ = some (.int .i64 (wt i)) ∧ w.cell? ⟨g, i * 3 + 1, none⟩ = some (.int .i64 (inn i))) :
    Calls Try.prog 47 #[.slice (some ⟨g, 0, none⟩) n cap, .int .i64 no] w fun e w' => e = .returned (.int .i64 (lstK wt inn no n)) ∧ Below w.heap.size w w' := by
  have HC := hid hc
  clear hc
  go_enter Try.func47, Try.ntmps47
  go_wp2
  go_loopw [5, 6] (fun x y wr => ∃ k : Nat, k ≤ n ∧ x = .int .i64 (lstK wt inn no k) ∧ y = .int .i64 k ∧ Hid (Below w.heap.size w wr)) (fun _ y _ => n - (intOf y).toNat)
  case atStart => exact ⟨0, by omega, rfl, rfl, Below.refl _ _⟩
  case round =>
    obtain ⟨k, hk, rfl, rfl, HB⟩ := hrel
    by_cases hlt : k < n
    · have hkz : (k : Int) < (n : Int) := by omega
      have HL := hid (show lstK wt inn no (k + 1) = if (k : Int) ≠ no ∧ inn k < 0 ∧ (lstK wt inn no k < 0 ∨ wt k < wt (lstK wt inn no k).toNat) then (k : Int) else lstK wt inn no k from rfl)
      have hr := lstK_rng wt inn no k
      have c1 : wr.cell? ⟨g, k * 3, none⟩ = some (.int .i64 (wt k)) := (HB.out.cell (p := ⟨g, k * 3, none⟩) hg).trans (HC.out k hlt).1
      have c2 : wr.cell? ⟨g, k * 3 + 1, none⟩ = some (.int .i64 (inn k)) := (HB.out.cell (p := ⟨g, k * 3 + 1, none⟩) hg).trans (HC.out k hlt).2
      by_cases h1 : (k : Int) = no
      · have e1 : ((k : Int) != no) = false := by simp [h1]
        rw [if_neg (fun h => h.1 h1)] at HL
        clear h1
        generalize lstK wt inn no k = best at *
        go_wp2_with fail
        go_big_quiet (fail)
        have HB2 := hid (bel_drewN HB.out nq)
        clear c1 c2 HB
        generalize wr.drewN nq = W at *
        go_wp2
        exact ⟨⟨k + 1, by omega, by rw [HL.out], by go_num, HB2⟩, by simp [intOf]; omega⟩
      · have e1 : ((k : Int) != no) = true := by simp [h1]
        by_cases h2 : inn k < 0
        · by_cases h3 : lstK wt inn no k < 0
          · rw [if_pos ⟨h1, h2, Or.inl h3⟩] at HL
            clear h1
            generalize lstK wt inn no k = best at *
            generalize inn k = y at *
            generalize wt k = x at *
            go_wp2_with fail
            go_big_quiet (fail)
            have HB2 := hid (bel_drewN HB.out nq)
            clear c1 c2 HB
            generalize wr.drewN nq = W at *
            go_wp2
            exact ⟨⟨k + 1, by omega, by rw [HL.out], by go_num, HB2⟩, by simp [intOf]; omega⟩
          · obtain ⟨q, hq⟩ : ∃ q : Nat, lstK wt inn no k = (q : Int) := ⟨(lstK wt inn no k).toNat, by omega⟩
            rw [hq, Int.toNat_natCast] at HL
            have hqk : q < k := by omega
            have hqn : (q : Int) < (n : Int) := by omega
            have c3 : wr.cell? ⟨g, q * 3, none⟩ = some (.int .i64 (wt q)) := (HB.out.cell (p := ⟨g, q * 3, none⟩) hg).trans (HC.out q (by omega)).1
            have h3' : ¬ (q : Int) < 0 := by omega
            have h3d : decide ((q : Int) < 0) = false := decide_eq_false h3'
            by_cases h4 : wt k < wt q
            · rw [if_pos ⟨h1, h2, Or.inr h4⟩] at HL
              rw [hq]
              clear h1 h3 hr hq
              generalize inn k = y at *
              generalize wt k = x at *
              generalize wt q = z at *
              go_wp2_with fail
              go_big_quiet (fail)
              have HB2 := hid (bel_drewN HB.out nq)
              clear c1 c2 c3 HB
              generalize wr.drewN nq = W at *
              go_wp2
              exact ⟨⟨k + 1, by omega, by rw [HL.out], by go_num, HB2⟩, by simp [intOf]; omega⟩
            · rw [if_neg (fun h => by rcases h.2.2 with h | h; exact h3' h; exact h4 h)] at HL
              have h4d : decide (wt k < wt q) = false := decide_eq_false h4
              rw [hq]
              clear h1 h3 hr hq
              generalize inn k = y at *
              generalize wt k = x at *
              generalize wt q = z at *
              go_wp2_with fail
              go_big_quiet (fail)
              have HB2 := hid (bel_drewN HB.out nq)
              clear c1 c2 c3 HB
              generalize wr.drewN nq = W at *
              go_wp2
              exact ⟨⟨k + 1, by omega, by rw [HL.out], by go_num, HB2⟩, by simp [intOf]; omega⟩
        · rw [if_neg (fun h => h2 h.2.1)] at HL
          have h2d : decide (inn k < 0) = false := decide_eq_false h2
          clear h1
          generalize lstK wt inn no k = best at *
          generalize inn k = y at *
          generalize wt k = x at *
          go_wp2_with fail
          go_big_quiet (fail)
          have HB2 := hid (bel_drewN HB.out nq)
          clear c1 c2 HB
          generalize wr.drewN nq = W at *
          go_wp2
          exact ⟨⟨k + 1, by omega, by rw [HL.out], by go_num, HB2⟩, by simp [intOf]; omega⟩
    · have hkz : ¬ (k : Int) < (n : Int) := by omega
      obtain rfl : k = n := by omega
      go_wp2
      go_ret
      exact ⟨rfl, HB.out⟩
end Go.Proofs.Ytgecoiakhmnilaa
