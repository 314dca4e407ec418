/-
  The contract of the document's Size.
-/
import Derived.Test.YtgdlmhgjhmcilaaSize
namespace Go.Proofs.Ytgdlmhgjhmcilaa
open Go.RowKit Lz

set_option maxHeartbeats 1600000 in
set_option maxRecDepth 100000 in
theorem size_ref (a : Option Addr) (cap : Nat) (l : List Tkz) (w : World) (hr : Rt w a cap l) (hn : l.length ≤ 400) :
    Calls Try.prog 11 #[.slice a l.length cap] w fun e w' => e = .returned (.tuple #[.int .i64 (sizeO l).1, .int .i64 (sizeO l).2]) ∧ Below w.heap.size w w' := by
  have hroom := hr.room
  have hmost := hr.most
  unfold maxLen at hmost
  have HR := hid hr
  obtain ⟨len, hle⟩ : ∃ n, n = l.length := ⟨_, rfl⟩
  have HL := hid hle
  rw [← hle] at hn hroom ⊢
  clear hr hle
  go_enter Try.func11, Try.ntmps11
  go_wp2
  go_loopw [4] (fun x4 wr => ∃ k : Nat, k ≤ len ∧ x4 = .int .i64 (k : Int) ∧ Below w.heap.size w wr ∧ Hid (∀ j, j < k → chkZ (l.getD j tk0) = 0)) (fun x4 _ => len - (intOf x4).toNat)
  case atStart => exact ⟨0, by omega, rfl, Below.refl _ _, fun j hj => absurd hj (by omega)⟩
  case round =>
    obtain ⟨k, hk, rfl, hbel, HA⟩ := hrel
    by_cases hlt : k < len
    · have hkz : (k : Int) < (len : Int) := by omega
      obtain ⟨b, off, rfl, hbw, hc⟩ := HR.out.cells (by rw [← HL.out]; omega)
      obtain ⟨c0, c1, c2⟩ := hc k (by rw [← HL.out]; exact hlt)
      have d0 := (hbel.cell (p := ⟨b, off + k * 3, none⟩) hbw).trans c0
      have d1 := (hbel.cell (p := ⟨b, off + k * 3 + 1, none⟩) hbw).trans c1
      have d2 := (hbel.cell (p := ⟨b, off + k * 3 + 2, none⟩) hbw).trans c2
      have HCK := hid (check_ref (l.getD k tk0) wr)
      have HNOT := hid (fun h => all_not (l := l) (k := k) (by rw [← HL.out]; exact hlt) h)
      have hor := chk_or (l.getD k tk0)
      have HAK : Hid (chkZ (l.getD k tk0) = 0 → ∀ j, j < k + 1 → chkZ (l.getD j tk0) = 0) := fun h j hj => by
        by_cases e : j = k
        · subst e; exact h
        · exact HA.out j (by omega)
      clear hc c0 c1 c2
      generalize l.getD k tk0 = t at *
      obtain ⟨d, n, x⟩ := t
      unfold zC at HCK
      dsimp only at *
      have HBL := hid hbel
      clear hbel
      go_wp2_with fail
      refine HCK.out.mono ?_
      rintro _ w2 ⟨rfl, hb2⟩
      have HB2 := hid (Bn HBL.out hb2)
      clear hb2 HCK HBL d0 d1 d2
      rcases hor with hor | hor
      · have HAK2 := hid (HAK.out hor)
        rw [hor]
        clear hor HNOT
        go_wp2
        exact ⟨⟨k + 1, by omega, by go_num, HB2.out, HAK2⟩, by simp [intOf]; omega⟩
      · have HO : Hid (sizeO l = (0, 60)) := by
          show _ = _
          unfold sizeO
          rw [HNOT.out (by omega), if_neg (by simp)]
        rw [hor]
        clear hor HNOT
        go_wp2
        go_ret2
        exact ⟨by rw [HO.out]; rfl, HB2.out⟩
    · obtain rfl : k = len := by omega
      have hkz : ¬ (k : Int) < (k : Int) := by omega
      have HAL : Hid (allB l = true) := all_of (fun j hj => HA.out j (by rw [HL.out]; exact hj))
      have HO : Hid (sizeO l = if 65536 < sumZ l then (0, 2) else (sumZ l, 0)) := by show _ = _; unfold sizeO; rw [HAL.out, if_pos rfl]
      have HSB : Hid (∀ j, 0 ≤ sumZ (l.take j) ∧ sumZ (l.take j) ≤ sumZ l ∧ sumZ (l.take j) ≤ 258 * 400) := fun j => by
        have h1 := sum_bound (l.take j) (fun t ht => all_mem HAL.out t (List.mem_of_mem_take ht))
        have h2 := sum_take_le l (all_mem HAL.out) j
        have h3 : ((l.take j).length : Int) ≤ 400 := by have := HL.out; simp; omega
        omega
      have HLEN : Hid (∀ j, j < l.length → 1 ≤ (l.getD j tk0).2.1 ∧ (l.getD j tk0).2.1 ≤ 258) := fun j hj => chk_len (all_mem HAL.out _ (getD_mem l j hj))
      clear HA HAL
      go_wp2_with fail
      go_loopw [5, 6] (fun x5 x6 wi => ∃ j : Nat, j ≤ k ∧ x6 = .int .i64 (j : Int) ∧ x5 = .int .i64 (sumZ (l.take j)) ∧ Below w.heap.size w wi) (fun _ x6 _ => k - (intOf x6).toNat)
      case atStart => exact ⟨0, by omega, rfl, rfl, hbel⟩
      case round =>
        clear hbel
        obtain ⟨j, hj, rfl, rfl, hb⟩ := hrel
        obtain ⟨s1, s2, s3⟩ := HSB.out j
        by_cases hjl : j < k
        · have hjz : (j : Int) < (k : Int) := by omega
          by_cases hs : sumZ (l.take j) ≤ 65536
          · obtain ⟨b, off, rfl, hbw, hc⟩ := HR.out.cells (by rw [← HL.out]; omega)
            have d1 := (hb.cell (p := ⟨b, off + j * 3 + 1, none⟩) hbw).trans (hc j (by rw [← HL.out]; exact hjl)).2.1
            have hl1 := HLEN.out j (by rw [← HL.out]; exact hjl)
            have HS : Hid (sumZ (l.take (j + 1)) = sumZ (l.take j) + (l.getD j tk0).2.1) := by
              show _ = _
              rw [take_getD l j (by rw [← HL.out]; exact hjl), sumZ_append]
              simp [sumZ]
            clear hc
            obtain ⟨hl1, hl2⟩ := hl1
            generalize sumZ (l.take j) = s at *
            generalize (l.getD j tk0).2.1 = n at *
            go_wp2
            exact ⟨⟨j + 1, by omega, by go_num, by rw [HS.out], hb⟩, by simp [intOf]; omega⟩
          · have HO2 : Hid (sizeO l = (0, 2)) := by show _ = _; rw [HO.out, if_pos (by omega)]
            have hs2 : 65536 < sumZ (l.take j) := by omega
            generalize sumZ (l.take j) = s at *
            go_wp2
            go_ret2
            exact ⟨by rw [HO2.out]; rfl, hb⟩
        · obtain rfl : j = k := by omega
          have hjz : ¬ (j : Int) < (j : Int) := by omega
          have HT : Hid (l.take j = l) := List.take_of_length_le (by rw [← HL.out]; omega)
          rw [HT.out] at s1 s2 s3 ⊢
          generalize sumZ l = s at *
          by_cases hs : 65536 < s
          · rw [if_pos hs] at HO
            go_wp2
            go_ret2
            exact ⟨by rw [HO.out]; rfl, hb⟩
          · rw [if_neg hs] at HO
            go_wp2
            go_ret2
            exact ⟨by rw [HO.out]; rfl, hb⟩
end Go.Proofs.Ytgdlmhgjhmcilaa
