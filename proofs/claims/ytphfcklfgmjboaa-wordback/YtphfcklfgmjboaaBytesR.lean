/-
  The contract of the document's Bytes: the same bytes as word.Bytes's.
-/
import Derived.Test.YtphfcklfgmjboaaBytesW
import Derived.Laws.AppendOwnNone
namespace Go.Proofs.Ytphfcklfgmjboaa
open Go.RowKit

theorem own_one (w : World) (B : Nat) (v : Value) (hB : B ≤ w.heap.size) : (w.alloc (.cells #[v] 5)).ownsRow B 5 1 (.slice (some ⟨w.heap.size, 0, none⟩) 1 1) 1 [v] :=
  ⟨rfl, Or.inr ⟨w.heap.size, 1, #[v], rfl, hB, heap_alloc_new w _, Nat.le_refl _, by unfold maxLen; omega, rfl, rfl⟩⟩

theorem one_news (w : World) (v : Value) : ∀ (j : Nat) (u : Value), [v][j]? = some u → (w.alloc (.cells #[v] 5)).cell? (Addr.add ⟨w.heap.size, 0, none⟩ j) = some u :=
  fun j u h => one_cell w _ v u j rfl h
theorem one_kind (kd : IntKind) (z : Int) : ∀ u ∈ [Value.int kd z], u.oneCell' = true := fun u hu => by simp at hu; subst hu; rfl
theorem own_news {w : World} {g : Nat} {kd : IntKind} {l : List Int} (hc : ∀ j, j < l.length → w.cell? ⟨g, j, none⟩ = some (.int kd (l.getD j 0))) :
    ∀ (j : Nat) (u : Value), (l.map (Value.int kd))[j]? = some u → w.cell? (Addr.add ⟨g, 0, none⟩ j) = some u := by
  intro j u hj
  have hjl : j < l.length := by
    have := (List.getElem?_eq_some_iff.1 hj).1
    simpa using this
  have ha : (⟨g, 0, none⟩ : Addr).add j = ⟨g, j, none⟩ := by unfold Addr.add; split <;> simp_all
  rw [ha, hc j hjl, ← hj]
  simp [List.getD, List.getElem?_eq_getElem hjl]
theorem all_kind (kd : IntKind) (l : List Int) : ∀ u ∈ l.map (Value.int kd), u.oneCell' = true := fun u hu => by
  obtain ⟨z, _, rfl⟩ := List.mem_map.1 hu; rfl

theorem bytesF_succ_big (k : Nat) (x : Int) : bytesF (k + 1) 1 x = (x / 256 ^ k % 256) :: bytesF k 1 x := by
  simp [bytesF, leL_snoc]
theorem bytesF_succ_little (k : Nat) (o x : Int) (ho : o ≠ 1) : bytesF (k + 1) o x = bytesF k o x ++ [x / 256 ^ k % 256] := by
  simp [bytesF, leL_snoc, ho]

theorem bytes_ref_no (x b o : Int) (w : World) (hf : (faultF b o != 0) = true) :
    Calls Try.prog 14 #[.int .u64 x, .int .i64 b, .int .i64 o] w fun e w' => e = .returned (.tuple #[.slice none 0 0, .int .i64 (faultF b o)]) ∧ w' = w := by
  go_enter Try.func14, Try.ntmps14
  go_wp2_with (go_at_call 35; refine (asked_any _ _ _).mono ?_; rintro e w' ⟨rfl, rfl⟩)
  go_ret2
  exact ⟨rfl, rfl⟩

theorem div_le_64 (x : Int) (k : Nat) (h0 : 0 ≤ x) (h1 : x < 18446744073709551616) : 0 ≤ x / 256 ^ k ∧ x / 256 ^ k < 18446744073709551616 := by
  have hp : (0 : Int) < 256 ^ k := Int.pow_pos (by decide)
  exact ⟨Int.ediv_nonneg h0 (by omega), Int.lt_of_le_of_lt (Int.ediv_le_self _ h0) h1⟩

theorem div_next (x : Int) (k : Nat) : x / 256 ^ k / 256 = x / 256 ^ (k + 1) := by
  rw [Int.ediv_ediv_of_nonneg (by have := Int.pow_pos (n := (256 : Int)) (m := k) (by decide); omega), ← Int.pow_succ]

set_option maxHeartbeats 1600000 in
theorem bytes_ref (x b o : Int) (n : Nat) (w : World) (h0 : 0 ≤ x) (h1 : x < 18446744073709551616) (hf : (faultF b o != 0) = false) (hq : b / 8 = n) (hb0 : 8 ≤ b) (hb1 : b ≤ 64) (hn8 : n ≤ 8) :
    Calls Try.prog 14 #[.int .u64 x, .int .i64 b, .int .i64 o] w fun e w' => ∃ v, e = .returned (.tuple #[v, .int .i64 0]) ∧ w'.ownsRow w.heap.size 5 1 v (bytesF n o x).length ((bytesF n o x).map (Value.int .u8)) ∧ Below w.heap.size w w' := by
  obtain ⟨i0, hi, hz0, hz1, hz2⟩ := info_parts Try.info5
  go_enter Try.func14, Try.ntmps14
  go_wp2_with (go_at_call 35; refine (asked_any _ _ _).mono ?_; rintro e w' ⟨rfl, hw⟩; obtain rfl := hw.symm; clear hw)
  go_loopw [0, 9, 10] (fun c v i wr => ∃ k : Nat, k ≤ n ∧ c = .int .u64 (x / 256 ^ k) ∧ i = .int .i64 k ∧ wr.ownsRow w.heap.size 5 1 v (bytesF k o x).length ((bytesF k o x).map (Value.int .u8)) ∧ Below w.heap.size w wr ∧ (k = 0 → v = .slice none 0 0)) (fun _ _ i _ => n - (intOf i).toNat)
  case atStart => exact ⟨0, by omega, by simp, rfl, by simpa [bytesF, leL] using World.ownsRow_nil _ _ _ _, Below.refl _ _, fun _ => rfl⟩
  case round =>
    obtain ⟨k, hk, rfl, rfl, hown, hbel, hnil⟩ := hrel
    have HLEN := hid (bytesF_length k o x)
    by_cases hlt : k < n
    · have hy := div_le_64 x k h0 h1
      have hnx := div_next x k
      have hsb := bytesF_succ_big k x
      have hsl := bytesF_succ_little k o x
      generalize hyk : x / 256 ^ k = y at *
      have HNX := hid hnx
      have HSB := hid hsb
      have HSL := hid hsl
      clear hnx hyk hsb hsl
      have hsz := hbel.size
      by_cases ho : o = 1
      · subst ho
        have hnew := own_one wr w.heap.size (.int .u8 (y % 256)) hsz
        by_cases hk0 : k = 0
        · obtain rfl := hnil hk0
          go_wp2_with (at_builtin; refine wpList_append_own_none rfl _ _ 30 rfl w.heap.size 5 i0 1 Try.underlying30 hi _ _ _ rfl hnew rfl ?_)
          go_roundw
          case rel =>
            have hb0 : bytesF k 1 x = [] := List.length_eq_zero_iff.1 (by rw [HLEN.out]; exact hk0)
            refine ⟨k + 1, by omega, by rw [HNX.out], by go_num, ?_, hbel.alloc hsz _, fun h => by omega⟩
            rw [HSB.out, hb0]
            exact hnew
          case measure => simp [intOf]; omega
        · obtain ⟨g, cap, rfl, hg, hgs, hn, hcap, hc⟩ := own_open hown (by rw [HLEN.out]; omega)
          have hc' : ∀ j, j < (bytesF k 1 x).length → (wr.alloc (.cells #[.int .u8 (y % 256)] 5)).cell? ⟨g, j, none⟩ = some (.int .u8 ((bytesF k 1 x).getD j 0)) := fun j hj => (World.cell?_alloc_past _ _ _ hgs).trans (hc j hj)
          have HC := hid (own_news hc')
          clear hc hc' hnil
          have hm1 : 1 + (bytesF k 1 x).length ≤ maxLen := by unfold maxLen; have := HLEN.out; omega
          have hm2 : (1 + (bytesF k 1 x).length) * 1 ≤ 140737488355328 := by have := HLEN.out; omega
          have hm3 : w.heap.size ≤ (wr.alloc (.cells #[.int .u8 (y % 256)] 5)).heap.size := by simp; omega
          go_wp2_with (at_builtin; refine wpList_append_own _ rfl _ _ 30 rfl w.heap.size 5 i0 (.int .u8 0) 1 1 Try.underlying30 hi hz0 hz1 hz2 rfl (by decide) _ _ _ rfl hnew ⟨g, 0, none⟩ (bytesF k 1 x).length cap ((bytesF k 1 x).map (Value.int .u8)) rfl (by simp) HC.out (all_kind _ _) hm1 hm2 hm3 ?_)
          intro v' w1 hown' hgrow _
          have hR : w1.ownsRow w.heap.size 5 1 v' (bytesF (k + 1) 1 x).length ((bytesF (k + 1) 1 x).map (Value.int .u8)) := by
            rw [HSB.out]
            have e : 1 + (bytesF k 1 x).length = (y % 256 :: bytesF k 1 x).length := by rw [List.length_cons]; omega
            rw [← e]
            exact hown'
          have hB := (hbel.alloc hsz _).grown hgrow (by simp; omega) (fun j hj => by simp [Value.ownBlock] at hj; omega)
          have HR := hid hR
          have HB := hid hB
          clear hown' hgrow hown hnew hR hB hm1 hm2 hm3
          go_wp2
          go_roundw
          case rel => exact ⟨k + 1, by omega, by rw [HNX.out], by go_num, HR.out, HB.out, fun h => by omega⟩
          case measure => simp [intOf]; omega
      · have g1 : (o == 1) = false := by rw [beq_eq_false_iff_ne]; exact ho
        have hm1 : (bytesF k o x).length + 1 ≤ maxLen := by unfold maxLen; have := HLEN.out; omega
        have hm2 : ((bytesF k o x).length + 1) * 1 ≤ 140737488355328 := by have := HLEN.out; omega
        have hm3 : w.heap.size ≤ (wr.alloc (.cells #[.int .u8 (y % 256)] 5)).heap.size := by simp; omega
        go_wp2_with (at_builtin; refine wpList_append_own _ rfl _ _ 30 rfl w.heap.size 5 i0 (.int .u8 0) 1 1 Try.underlying30 hi hz0 hz1 hz2 rfl (by decide) _ _ _ rfl (hown.alloc _) ⟨wr.heap.size, 0, none⟩ 1 1 [.int .u8 (y % 256)] rfl rfl (one_news _ _) (one_kind _ _) hm1 hm2 hm3 ?_)
        intro v' w1 hown' hgrow _
        have R := own_snoc hsz hown hbel hown' hgrow
        rw [← HSL.out ho] at R
        have HR := hid R
        clear hown' hgrow hown R hm1 hm2 hm3
        go_wp2
        go_roundw
        case rel => exact ⟨k + 1, by omega, by rw [HNX.out], by go_num, HR.out.1, HR.out.2, fun h => by omega⟩
        case measure => simp [intOf]; omega
    · have hkn : k = n := by omega
      subst hkn
      go_wp2
      go_ret2
      exact ⟨_, rfl, hown, hbel⟩
end Go.Proofs.Ytphfcklfgmjboaa
