/-
  The contracts of lz's common and of the document's reach.
-/
import Derived.Test.YtgdlmhgjhmcilabRow
import Derived.Test.YtgdlmhgjhmcilabLzMath
namespace Go.Proofs.Ytgdlmhgjhmcilab
open Go.RowKit Lz

theorem bel_drewN' (w : World) (n : Nat) : Below w.heap.size w (w.drewN n) := bel_drewN (Below.refl _ _) n

theorem drewN_drewN (w : World) (m n : Nat) : (w.drewN m).drewN n = w.drewN (m + n) := by simp

set_option maxHeartbeats 800000 in
set_option maxRecDepth 100000 in
theorem common_word (bs : List Int) (p q k ga oa la ca gb ob cb : Nat) (w : World) (hk : k ≤ la) (hkb : k ≤ cb) (hcb : cb ≤ maxLen)
    (ha : ∀ j, j < k → w.cell? ⟨ga, oa + j, none⟩ = some (.int .u8 (bs.getD (p + j) 0))) (hb : ∀ j, j < k → w.cell? ⟨gb, ob + j, none⟩ = some (.int .u8 (bs.getD (q + j) 0))) :
    Calls Try.prog 15 #[.slice (some ⟨ga, oa, none⟩) la ca, .slice (some ⟨gb, ob, none⟩) k cb] w fun e w' => e = .returned (.int .i64 ((com bs p q k : Nat) : Int)) ∧ ∃ m, w' = w.drewN m := by
  unfold maxLen at hcb
  have HA := hid ha
  have HB := hid hb
  clear ha hb
  go_enter Try.func15, Try.ntmps15
  go_wp2
  go_loopw [5] (fun y wr => ∃ n m : Nat, n ≤ k ∧ y = .int .i64 n ∧ Hid (wr = w.drewN m) ∧ Hid (∀ j, j < n → bs.getD (p + j) 0 = bs.getD (q + j) 0)) (fun y _ => k - (intOf y).toNat)
  case atStart => exact ⟨0, 0, by omega, rfl, rfl, fun j hj => absurd hj (by omega)⟩
  case round =>
    obtain ⟨n, m, hn, rfl, HW, HS⟩ := hrel
    by_cases hlt : n < k
    · have c1 : wr.cell? ⟨ga, oa + n, none⟩ = some (.int .u8 (bs.getD (p + n) 0)) := by rw [HW.out]; exact HA.out n hlt
      have c2 : wr.cell? ⟨gb, ob + n, none⟩ = some (.int .u8 (bs.getD (q + n) 0)) := by rw [HW.out]; exact HB.out n hlt
      have hnz : (n : Int) < (k : Int) := by omega
      have hd : decide ((n : Int) < (k : Int)) = true := by simpa using hlt
      by_cases he : bs.getD (p + n) 0 = bs.getD (q + n) 0
      · rw [← he] at c2
        have HS2 : Hid (∀ j, j < n + 1 → bs.getD (p + j) 0 = bs.getD (q + j) 0) := fun j hj => by
          by_cases e : j = n
          · subst e; exact he
          · exact HS.out j (by omega)
        clear he
        generalize bs.getD (p + n) 0 = z at *
        have hz : (z == z) = true := by simp
        go_wp2_with fail
        go_big_quiet (fail)
        go_wp2
        exact ⟨⟨n + 1, _, by omega, by go_num, hid (by rw [HW.out, drewN_drewN]), HS2⟩, by simp [intOf]; omega⟩
      · have HC := hid (com_eq bs k p q n hn HS.out (.inr he))
        have hz : (bs.getD (p + n) 0 == bs.getD (q + n) 0) = false := by simpa using he
        generalize bs.getD (p + n) 0 = z at *
        generalize bs.getD (q + n) 0 = y at *
        clear he
        go_wp2_with fail
        go_big_quiet (fail)
        go_wp2
        go_ret
        exact ⟨by rw [HC.out]; rfl, _, by rw [HW.out, drewN_drewN]⟩
    · have HC := hid (com_eq bs k p q n hn HS.out (.inl (by omega)))
      have hnz : ¬ (n : Int) < (k : Int) := by omega
      have hd : decide ((n : Int) < (k : Int)) = false := by simpa using hlt
      go_wp2_with fail
      go_big_quiet (fail)
      go_wp2
      go_ret
      exact ⟨by rw [HC.out]; rfl, _, by rw [HW.out, drewN_drewN]⟩

end Go.Proofs.Ytgdlmhgjhmcilab
