/-
  The contracts of lz's common and of the document's reach.
-/
import Derived.Test.YtgdlmhgjhmcilaaRow
import Derived.Test.YtgdlmhgjhmcilaaLzMath
namespace Go.Proofs.Ytgdlmhgjhmcilaa
open Go.RowKit Lz

theorem bel_drewN' (w : World) (n : Nat) : Below w.heap.size w (w.drewN n) := bel_drewN (Below.refl _ _) n

theorem drewN_drewN (w : World) (m n : Nat) : (w.drewN m).drewN n = w.drewN (m + n) := by simp

set_option maxHeartbeats 800000 in
set_option maxRecDepth 100000 in
theorem common_word (bs : List Int) (p q k ga oa la ca gb ob cb : Nat) (w : World) (hk : k ≤ la) (hkb : k ≤ cb) (hcb : cb ≤ maxLen)
    (ha : ∀ j, j < k → w.cell? ⟨ga, oa + j, none⟩ = some (.int .u8 (bs.getD (p + j) 0))) (hb : ∀ j, j < k → w.cell? ⟨gb, ob + j, none⟩ = some (.int .u8 (bs.getD (q + j) 0))) :
    Calls Try.prog 33 #[.slice (some ⟨ga, oa, none⟩) la ca, .slice (some ⟨gb, ob, none⟩) k cb] w fun e w' => e = .returned (.int .i64 ((com bs p q k : Nat) : Int)) ∧ ∃ m, w' = w.drewN m := by
  unfold maxLen at hcb
  have HA := hid ha
  have HB := hid hb
  clear ha hb
  go_enter Try.func33, Try.ntmps33
  go_wp2
  go_loopw [5] (fun y wr => ∃ n m : Nat, n ≤ k ∧ y = .int .i64 n ∧ Hid (wr = w.drewN m) ∧ Hid (∀ j, j < n → bs.getD (p + j) 0 = bs.getD (q + j) 0)) (fun y _ => k - (intOf y).toNat)
  case atStart => exact ⟨0, 0, by omega, rfl, rfl, fun j hj => absurd hj (by omega)⟩
  case round =>
    obtain ⟨n, m, hn, rfl, HW, HS⟩ := hrel
    by_cases hlt : n < k
    · have c1 : wr.cell? ⟨ga, oa + n, none⟩ = some (.int .u8 (bs.getD (p + n) 0)) := by rw [HW.out]; exact HA.out n hlt
      have c2 : wr.cell? ⟨gb, ob + n, none⟩ = some (.int .u8 (bs.getD (q + n) 0)) := by rw [HW.out]; exact HB.out n hlt
      have hnz : (n : Int) < (k : Int) := by omega
      have hd : decide ((n : Int) < (k : Int)) = true := by simpa using hlt
      by_cases he : bs.getD (p + n) 0 = bs.getD (q + n) 0
      · rw [← he] at c2
        have HS2 : Hid (∀ j, j < n + 1 → bs.getD (p + j) 0 = bs.getD (q + j) 0) := fun j hj => by
          by_cases e : j = n
          · subst e; exact he
          · exact HS.out j (by omega)
        clear he
        generalize bs.getD (p + n) 0 = z at *
        have hz : (z == z) = true := by simp
        go_wp2_with fail
        go_big_quiet (fail)
        go_wp2
        exact ⟨⟨n + 1, _, by omega, by go_num, hid (by rw [HW.out, drewN_drewN]), HS2⟩, by simp [intOf]; omega⟩
      · have HC := hid (com_eq bs k p q n hn HS.out (.inr he))
        have hz : (bs.getD (p + n) 0 == bs.getD (q + n) 0) = false := by simpa using he
        generalize bs.getD (p + n) 0 = z at *
        generalize bs.getD (q + n) 0 = y at *
        clear he
        go_wp2_with fail
        go_big_quiet (fail)
        go_wp2
        go_ret
        exact ⟨by rw [HC.out]; rfl, _, by rw [HW.out, drewN_drewN]⟩
    · have HC := hid (com_eq bs k p q n hn HS.out (.inl (by omega)))
      have hnz : ¬ (n : Int) < (k : Int) := by omega
      have hd : decide ((n : Int) < (k : Int)) = false := by simpa using hlt
      go_wp2_with fail
      go_big_quiet (fail)
      go_wp2
      go_ret
      exact ⟨by rw [HC.out]; rfl, _, by rw [HW.out, drewN_drewN]⟩

set_option maxHeartbeats 1600000 in
set_option maxRecDepth 100000 in
theorem reach_ref (bs : List Int) (q d g off cap : Nat) (w : World) (hq : q < bs.length) (hL : bs.length ≤ 65536) (hd1 : 1 ≤ d) (hd2 : d ≤ q)
    (hc : ∀ j, j < bs.length → w.cell? ⟨g, off + j, none⟩ = some (.int .u8 (bs.getD j 0))) :
    Calls Try.prog 35 #[.slice (some ⟨g, off, none⟩) bs.length cap, .int .i64 (q : Int), .int .i64 (d : Int)] w fun e w' => e = .returned (.int .i64 ((com bs (q - d) q (most bs q) : Nat) : Int)) ∧ ∃ m, w' = w.drewN m := by

  have HC := hid hc
  obtain ⟨L, hLe⟩ : ∃ L, L = bs.length := ⟨_, rfl⟩
  have HK : Hid (most bs q = min (L - q) 258) := by rw [hLe]; rfl
  have HL := hid hLe
  rw [← hLe] at hq hL ⊢
  clear hc hLe
  go_enter Try.func35, Try.ntmps35
  go_wp2
  go_loopw [7] (fun y wr => ∃ n m : Nat, n ≤ 258 ∧ q + n ≤ L ∧ y = .int .i64 n ∧ Hid (wr = w.drewN m) ∧ Hid (∀ j, j < n → bs.getD (q - d + j) 0 = bs.getD (q + j) 0)) (fun y _ => 258 - (intOf y).toNat)
  case atStart => exact ⟨0, 0, by omega, by omega, rfl, rfl, fun j hj => absurd hj (by omega)⟩
  case round =>
    obtain ⟨n, m, hn, hn2, rfl, HW, HS⟩ := hrel
    by_cases hlt : n < 258
    · have hnz : (n : Int) < 258 := by omega
      have hd : decide ((n : Int) < 258) = true := by simpa using hnz
      by_cases hlt2 : q + n < L
      · have hnz2 : (q : Int) + (n : Int) < (L : Int) := by omega
        have hd2 : decide ((q : Int) + (n : Int) < (L : Int)) = true := by simpa using hnz2
        obtain ⟨r, hr⟩ : ∃ r, r = q + n - d := ⟨_, rfl⟩
        have HR : Hid (r = q - d + n) := by show _ = _; omega
        have hrz : (q : Int) + (n : Int) - (d : Int) = (r : Int) := by omega
        have hr0 : r < L := by omega
        obtain ⟨s, hs⟩ : ∃ s, s = q + n := ⟨_, rfl⟩
        have HSq := hid hs
        have hsz : (q : Int) + (n : Int) = (s : Int) := by omega
        have hs0 : s < L := by omega
        have c1 : wr.cell? ⟨g, off + s, none⟩ = some (.int .u8 (bs.getD s 0)) := by rw [HW.out]; exact HC.out s (by rw [← HL.out]; exact hs0)
        have c2 : wr.cell? ⟨g, off + r, none⟩ = some (.int .u8 (bs.getD r 0)) := by rw [HW.out]; exact HC.out r (by rw [← HL.out]; exact hr0)
        have hsr : (s : Int) - (d : Int) = (r : Int) := by omega
        have hsL : (s : Int) < (L : Int) := by omega
        have hdL : decide ((s : Int) < (L : Int)) = true := by simpa using hsL
        clear hr hs
        by_cases he : bs.getD r 0 = bs.getD s 0
        · have HS2 : Hid (∀ j, j < n + 1 → bs.getD (q - d + j) 0 = bs.getD (q + j) 0) := fun j hj => by
            by_cases e : j = n
            · subst e; rw [← HR.out, ← HSq.out]; exact he
            · exact HS.out j (by omega)
          rw [he] at c2
          clear he
          generalize bs.getD s 0 = z at *
          have hz : (z == z) = true := by simp
          go_wp2_with fail
          go_big_quiet (fail)
          go_wp2
          exact ⟨⟨n + 1, _, by omega, by omega, by go_num, hid (by rw [HW.out, drewN_drewN]), HS2⟩, by simp [intOf]; omega⟩
        · have HCC : Hid (com bs (q - d) q (most bs q) = n) := by
            refine com_eq _ _ _ _ _ (by rw [HK.out]; omega) HS.out (.inr ?_)
            rw [← HR.out, ← HSq.out]; exact he
          have hz : (bs.getD s 0 == bs.getD r 0) = false := by simpa using fun h => he h.symm
          clear he
          generalize bs.getD s 0 = z at *
          generalize bs.getD r 0 = y at *
          go_wp2_with fail
          go_big_quiet (fail)
          go_wp2
          go_ret
          exact ⟨by rw [HCC.out]; rfl, _, by rw [HW.out, drewN_drewN]⟩
      · have HCC : Hid (com bs (q - d) q (most bs q) = n) := com_eq _ _ _ _ _ (by rw [HK.out]; omega) HS.out (.inl (by rw [HK.out]; omega))
        have hnz2 : ¬ (q : Int) + (n : Int) < (L : Int) := by omega
        have hd2 : decide ((q : Int) + (n : Int) < (L : Int)) = false := by simpa using hnz2
        go_wp2_with fail
        go_big_quiet (fail)
        go_wp2
        go_ret
        exact ⟨by rw [HCC.out]; rfl, _, by rw [HW.out, drewN_drewN]⟩
    · have HCC : Hid (com bs (q - d) q (most bs q) = n) := com_eq _ _ _ _ _ (by rw [HK.out]; omega) HS.out (.inl (by rw [HK.out]; omega))
      have hnz : ¬ (n : Int) < 258 := by omega
      have hd : decide ((n : Int) < 258) = false := by simpa using hnz
      go_wp2_with fail
      go_big_quiet (fail)
      go_wp2
      go_ret
      exact ⟨by rw [HCC.out]; rfl, _, by rw [HW.out, drewN_drewN]⟩
end Go.Proofs.Ytgdlmhgjhmcilaa
