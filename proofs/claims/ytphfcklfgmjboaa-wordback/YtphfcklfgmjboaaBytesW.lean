/-
  The contract of word.Bytes: the bytes of the lowest bits of x, in new memory.
-/
import Derived.Test.YtphfcklfgmjboaaSmall
namespace Go.Proofs.Ytphfcklfgmjboaa
open Go.RowKit

/-- A row of n places of which the first k are filled. -/
def partL (n k : Nat) (l : List Int) : List Int := l.take k ++ List.replicate (n - k) 0

theorem partL_length (n k : Nat) (l : List Int) (hl : l.length = n) (hk : k ≤ n) : (partL n k l).length = n := by
  simp [partL]; omega

theorem partL_zero (n : Nat) (l : List Int) : partL n 0 l = List.replicate n 0 := by simp [partL]

theorem partL_full (n : Nat) (l : List Int) (hl : l.length = n) : partL n n l = l := by
  simp [partL, ← hl]

theorem partL_set (n k : Nat) (l : List Int) (hl : l.length = n) (hk : k < n) (kd : IntKind) :
    ((partL n k l).map (Value.int kd)).set k (.int kd (l.getD k 0)) = (partL n (k + 1) l).map (Value.int kd) := by
  rw [← List.map_set]
  congr 1
  unfold partL
  rw [List.set_append_right _ _ (by simp; omega), show k - (l.take k).length = 0 from by simp; omega, show n - k = (n - (k + 1)) + 1 from by omega, List.replicate_succ, List.set_cons_zero]
  have e : l.getD k 0 = l[k]'(by omega) := by simp [List.getD, List.getElem?_eq_getElem (show k < l.length from by omega)]
  rw [e, List.take_succ_eq_append_getElem (show k < l.length from by omega), List.append_assoc]
  rfl

theorem shF_le (n : Nat) (o : Int) (i : Nat) (hn : n ≤ 8) (hi : i < n) : shF n o i ≤ 56 := by
  unfold shF; split <;> omega

set_option maxHeartbeats 800000 in
theorem bytes_word (x b o : Int) (n : Nat) (w : World) (_h0 : 0 ≤ x) (_h1 : x < 18446744073709551616) (hf : (faultF b o != 0) = false) (hs : sizeF b = n) (hn8 : n ≤ 8) :
    Calls Try.prog 13 #[.int .u64 x, .int .i64 b, .int .i64 o] w fun e w' => ∃ v, e = .returned (.tuple #[v, .int .i64 0]) ∧ w'.ownsRow w.heap.size 5 1 v (bytesF n o x).length ((bytesF n o x).map (Value.int .u8)) ∧ Below w.heap.size w w' := by
  obtain ⟨i0, hi, hz0, hz1, hz2⟩ := info_parts Try.info5
  have hlen := bytesF_length n o x
  have hget := bytesF_getD n o x
  generalize hl : bytesF n o x = l at *
  have HL : Hid (l.length = n) := hlen
  have HG : Hid (∀ j, j < n → l.getD j 0 = x / 2 ^ (shF n o j) % 256) := hget
  clear hlen hget hl
  go_enter Try.func13, Try.ntmps13
  go_wp2_with (first
    | (go_at_call 33; refine (fault_any _ _ _).mono ?_; rintro e w' ⟨rfl, hw⟩; obtain rfl := hw.symm; clear hw)
    | (go_at_call 30; refine (size_any _ _).mono ?_; rintro e w' ⟨rfl, hw⟩; obtain rfl := hw.symm; clear hw)
    | (at_make; refine wpList_make_full _ rfl _ _ 30 rfl w.heap.size 5 i0 (.int .u8 0) 1 Try.underlying30 hi hz0 hz1 .i64 .i64 _ _ n rfl rfl (by first | rfl | omega) (by first | rfl | omega) ?b2 ?b3 ?b4 ?_))
  case b2 => rw [hz2]; omega
  case b3 => unfold maxLen; omega
  case b4 => exact Nat.le_refl _
  intro w1 hown0 hgrow
  have hb1 : Below w.heap.size w w1 := (Below.refl _ _).grown hgrow (Nat.le_refl _) (fun k hk => by cases hk)
  rw [toList_madeCells_one, show List.replicate n (Value.int .u8 0) = (partL n 0 l).map (Value.int .u8) from by rw [partL_zero]; simp] at hown0
  clear hgrow
  go_wp2
  go_loopw [22] (fun i wr => ∃ k : Nat, k ≤ n ∧ i = .int .i64 k ∧ wr.ownsRow w.heap.size 5 1 (.slice (some ⟨w.heap.size, 0, none⟩) n n) n ((partL n k l).map (Value.int .u8)) ∧ Below w.heap.size w wr) (fun i _ => n - (intOf i).toNat)
  case atStart => exact ⟨0, by omega, rfl, hown0, hb1⟩
  case round =>
    obtain ⟨k, hk, rfl, hown, hbel⟩ := hrel
    by_cases hlt : k < n
    · have hsh := shF_le n o k hn8 hlt
      have hcell : ∃ u, wr.cell? ⟨w.heap.size, k, none⟩ = some u := by
        rw [hown.cellAt k (by omega)]
        exact ⟨_, List.getElem?_eq_getElem (by rw [List.length_map, partL_length n k l HL.out hk]; exact hlt)⟩
      obtain ⟨u, hu⟩ := hcell
      have hfz := hown.frozenAt k
      have hst := hown.stored k (.int .u8 (l.getD k 0))
      rw [partL_set n k l HL.out hlt] at hst
      have hnb := hbel.grown hst.2 hbel.size (fun j hj => by injection hj with hj; omega)
      rw [HG.out k hlt] at hst hnb
      have HS := hid hst.1
      have HB := hid hnb
      clear hst hnb hown
      go_wp2_with (go_at_call 34; refine (shift_any k n o _ hlt hn8).mono ?_; rintro e w' ⟨rfl, hw⟩; obtain rfl := hw.symm; clear hw)
      go_roundw
      case rel => exact ⟨k + 1, by omega, by go_num, HS.out, HB.out⟩
      case measure => simp [intOf]; omega
    · have hkn : k = n := by omega
      subst hkn
      rw [partL_full _ _ HL.out] at hown
      go_wp2
      go_ret2
      exact ⟨_, rfl, by rw [HL.out]; exact hown, hbel⟩

theorem bytes_word_no (x b o : Int) (w : World) (hf : (faultF b o != 0) = true) :
    Calls Try.prog 13 #[.int .u64 x, .int .i64 b, .int .i64 o] w fun e w' => e = .returned (.tuple #[.slice none 0 0, .int .i64 (faultF b o)]) ∧ w' = w := by
  go_enter Try.func13, Try.ntmps13
  go_wp2_with (go_at_call 33; refine (fault_any _ _ _).mono ?_; rintro e w' ⟨rfl, rfl⟩)
  go_ret2
  exact ⟨rfl, rfl⟩
end Go.Proofs.Ytphfcklfgmjboaa
