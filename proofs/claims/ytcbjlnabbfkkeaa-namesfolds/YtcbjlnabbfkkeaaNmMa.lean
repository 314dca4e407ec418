/-
  The law's number (21).
-/
import Derived.Test.YtcbjlnabbfkkeaaNmLc
namespace Go.Proofs.Ytcbjlnabbfkkeaa
open Go.ChangeShapes Go.WideShapes Go.ChangeAt Go.RowKit Go.Deep Go.Lib

theorem conv_one (w : World) (z : Int) : (convert 56 9 (.slice (some ⟨w.heap.size, 0, none⟩) 1 1)).run Try.prog (w.alloc (.cells #[.int .u8 z] 5)) = .ok (.string (strOfNums [z])) (w.alloc (.cells #[.int .u8 z] 5)) :=
  run_convert_bytes_arg (P := Try.prog) _ 56 5 Try.underlying56 Try.underlying5 w.heap.size 0 1 1 [z] rfl (fun i hi => by
    have h0 : i = 0 := by omega
    subst h0
    exact (Joins.cell_of_block (heap_alc w _) 0).trans rfl) 9 Try.underlying9
def dg (n : Nat) : ByteArray := strOfNums [48 + (n : Int) % 10]
def numT : Nat → Nat → ByteArray → ByteArray
  | 0, n, s => dg n ++ s
  | k + 1, n, s => if 9 < n then numT k (n / 10) (dg n ++ s) else dg n ++ s
def numS (n : Nat) : ByteArray := numT 4 n ByteArray.empty
set_option maxHeartbeats 1600000 in
set_option maxRecDepth 100000 in
theorem number_word (i : Nat) (hi : i < 1024) (w : World) : Calls Try.prog 21 #[.int .i64 (i : Int)] w fun e w' => e = .returned (.string (numS i)) ∧ Below w.heap.size w w' := by
  go_enter Try.func21, Try.ntmps21
  go_wp2
  go_loopw [0, 3] (fun x0 x3 wr => ∃ (k n : Nat) (s : ByteArray), k ≤ 4 ∧ n < 1024 ∧ n < 10 ^ k ∧ s.size + k ≤ 4 ∧ x0 = .int .i64 (n : Int) ∧ x3 = .string s ∧ Hid (numT k n s = numS i) ∧ Hid (Below w.heap.size w wr)) (fun x0 _ _ => (intOf x0).toNat)
  case atStart => exact ⟨4, i, ByteArray.empty, by omega, hi, by omega, by decide, rfl, rfl, rfl, Below.refl _ _⟩
  case round =>
    obtain ⟨k, n, s, hk, hn, hnk, hsk, rfl, rfl, HE, HB⟩ := hrel
    have HC := conv_one wr (48 + (n : Int) % 10)
    have HBW := hid (Bn HB.out (bel_alc wr (.cells #[.int .u8 (48 + (n : Int) % 10)] 5)))
    by_cases h9 : 9 < n
    · have hz : (n : Int) > 9 := by omega
      have hlim : ¬ 9223372036854775807 < (strOfNums [48 + (n : Int) % 10]).size + s.size := by rw [strOfNums_size]; simp; omega
      go_wp2
      go_roundw
      case rel =>
        refine ⟨k - 1, n / 10, dg n ++ s, by omega, by omega, ?_, ?_, by go_num, rfl, ?_, HBW.out⟩
        · have hk0 : k = (k - 1) + 1 := by
            cases k with
            | zero => simp at hnk; omega
            | succ k => rfl
          rw [hk0, Nat.pow_succ] at hnk
          omega
        · have hk0 : k = (k - 1) + 1 := by
            cases k with
            | zero => simp at hnk; omega
            | succ k => rfl
          have : (dg n ++ s).size = 1 + s.size := by rw [ByteArray.size_append]; unfold dg; rw [strOfNums_size]; rfl
          omega
        · have hk0 : k = (k - 1) + 1 := by
            cases k with
            | zero => simp at hnk; omega
            | succ k => rfl
          show _ = _
          rw [← HE.out]
          conv => rhs; rw [hk0]
          rw [numT, if_pos h9]
      case measure => simp [intOf]; omega
    · have hz : ¬ (n : Int) > 9 := by omega
      have hm : (n : Int) % 10 = (n : Int) := by omega
      rw [hm] at HC HBW
      have HDG : Hid (strOfNums [48 + (n : Int)] = dg n) := by show _ = _; unfold dg; rw [hm]
      rw [HDG.out] at HC
      have hlim : ¬ 9223372036854775807 < (dg n).size + s.size := by unfold dg; rw [strOfNums_size]; simp; omega
      go_wp2
      go_ret
      refine ⟨?_, HBW.out⟩
      rw [← HE.out]
      cases k with
      | zero => rfl
      | succ k => rw [numT, if_neg h9]; rfl
end Go.Proofs.Ytcbjlnabbfkkeaa
