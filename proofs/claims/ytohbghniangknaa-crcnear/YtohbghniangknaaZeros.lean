/-
  The contracts of Zeros and Cat, the code's and the document's.
-/
import Derived.Test.YtohbghniangknaaParts
namespace Go.Proofs.Ytohbghniangknaa
open Go.RowKit Crc

def fitB (n : Int) : Bool := decide (0 ≤ n) && decide (n ≤ 65536)

theorem fits_any (n : Int) (w : World) : Calls Try.prog 28 #[.int .i64 n] w fun e w' => e = .returned (.bool (fitB n)) ∧ w' = w := by
  by_cases h : 0 ≤ n
  · go_enter Try.func28, Try.ntmps28
    go_wp2
    go_ret
    exact ⟨by simp [fitB, h], rfl⟩
  · have hf : fitB n = false := by simp [fitB]; omega
    rw [hf]
    go_enter Try.func28, Try.ntmps28
    go_wp2
    go_ret
    exact ⟨rfl, rfl⟩

theorem fit_iff (n : Int) : fitB n = true ↔ 0 ≤ n ∧ n ≤ 65536 := by simp [fitB]

def zerosF (s : Nat) (n : Int) : Value := if fitB n then .tuple #[.int .u32 ((add s (List.replicate n.toNat 0) : Nat) : Int), .int .i64 0] else .tuple #[.int .u32 0, .int .i64 1]
def catF (a b : Nat) (n : Int) : Value := if fitB n then .tuple #[.int .u32 ((st (8 * n.toNat) a ^^^ b : Nat) : Int), .int .i64 0] else .tuple #[.int .u32 0, .int .i64 1]

theorem zeros_word (s : Nat) (n : Int) (w : World) (hs : s < 2 ^ 32) : Calls Try.prog 17 #[.int .u32 (s : Int), .int .i64 n] w fun e w' => e = .returned (zerosF s n) ∧ ∃ m, w' = w.drewN m := by
  unfold zerosF
  cases hf : fitB n
  · go_enter Try.func17, Try.ntmps17
    go_wp2_with (go_at_call 28; refine (fits_any n _).mono ?_; rintro e w' ⟨rfl, hw⟩; obtain rfl := hw.symm; clear hw; rw [hf])
    go_ret2
    exact ⟨rfl, 0, rfl⟩
  · obtain ⟨h0, h1⟩ := (fit_iff n).1 hf
    obtain ⟨k, rfl⟩ := Int.eq_ofNat_of_zero_le h0
    have hlt := ones_lt s hs
    have HN := hid (not_word s hs)
    have HE := hid (not_word _ (st_lt (8 * k) _ hlt))
    have HA : Hid (add s (List.replicate k 0) = st (8 * k) (s ^^^ ones) ^^^ ones) := by rw [add, inR_zeros]; exact rfl
    have HZ := fun w : World => hid (zeroBytes_any (s ^^^ ones) k w hlt (by omega))
    go_enter Try.func17, Try.ntmps17
    go_wp2_with fail
    go_at_call 28
    refine (fits_any k _).mono ?_
    rintro e w' ⟨rfl, hw⟩
    obtain rfl := hw.symm
    clear hw
    rw [hf]
    go_wp2_with fail
    go_at_call 29
    rw [HN.out]
    refine (HZ _).out.mono ?_
    rintro e w' ⟨rfl, m, hw⟩
    obtain rfl := hw.symm
    clear hw
    go_wp2
    go_ret2
    refine ⟨?_, m, rfl⟩
    rw [HE.out, HA.out]
    rfl

theorem cat_word (a b : Nat) (n : Int) (w : World) (ha : a < 2 ^ 32) (hb : b < 2 ^ 32) : Calls Try.prog 19 #[.int .u32 (a : Int), .int .u32 (b : Int), .int .i64 n] w fun e w' => e = .returned (catF a b n) ∧ ∃ m, w' = w.drewN m := by
  unfold catF
  cases hf : fitB n
  · go_enter Try.func19, Try.ntmps19
    go_wp2_with (go_at_call 28; refine (fits_any n _).mono ?_; rintro e w' ⟨rfl, hw⟩; obtain rfl := hw.symm; clear hw; rw [hf])
    go_ret2
    exact ⟨rfl, 0, rfl⟩
  · obtain ⟨h0, h1⟩ := (fit_iff n).1 hf
    obtain ⟨k, rfl⟩ := Int.eq_ofNat_of_zero_le h0
    have HX := hid (xor32 _ _ (st_lt (8 * k) a ha) hb)
    have HZ := fun w : World => hid (zeroBytes_any a k w ha (by omega))
    go_enter Try.func19, Try.ntmps19
    go_wp2_with fail
    go_at_call 28
    refine (fits_any k _).mono ?_
    rintro e w' ⟨rfl, hw⟩
    obtain rfl := hw.symm
    clear hw
    rw [hf]
    go_wp2_with fail
    go_at_call 29
    refine (HZ _).out.mono ?_
    rintro e w' ⟨rfl, m, hw⟩
    obtain rfl := hw.symm
    clear hw
    go_wp2
    go_ret2
    refine ⟨?_, m, rfl⟩
    rw [HX.out]
    rfl

theorem Try.info5 : (Try.prog.info? 5).map (fun i => (i.zero, i.size, i.bytes)) = some (some (.int .u8 0), 1, 1) := by kernel_rfl

theorem zeros_rd {w1 : World} {B g n : Nat} (hown : w1.ownsRow B 5 1 (.slice (some ⟨g, 0, none⟩) n n) n (List.replicate n (Value.int .u8 0))) (hm : n ≤ maxLen) :
    Rd w1 (.slice (some ⟨g, 0, none⟩) (List.replicate n 0).length n) (some ⟨g, 0, none⟩) n (List.replicate n 0) := by
  have hl : (List.replicate n (0 : Nat)).length = n := List.length_replicate
  have hgs : 0 < n → g < w1.heap.size := by
    intro h0
    rcases hown.2 with ⟨_, h1⟩ | ⟨g', cap, cur, hv, hg, hh, _⟩
    · omega
    · injection hv with hv1
      injection hv1 with hv2
      injection hv2 with hv3
      rw [hv3]
      exact (Array.getElem?_eq_some_iff.1 hh).1
  refine ⟨rfl, by omega, hm, fun h0 => ⟨g, 0, rfl, hgs (by omega), fun j hj => ?_⟩, getD_lt _ (fun z hz => by rw [List.eq_of_mem_replicate hz]; decide)⟩
  rw [Nat.zero_add, hown.cellAt j (by omega)]
  rw [hl] at hj
  simp [List.getD, hj]

theorem zeros_ref (s : Nat) (n : Int) (w : World) (hs : s < 2 ^ 32) : Calls Try.prog 18 #[.int .u32 (s : Int), .int .i64 n] w fun e w' => e = .returned (zerosF s n) ∧ Below w.heap.size w w' := by
  obtain ⟨i0, hi, hz0, hz1, hz2⟩ := info_parts Try.info5
  unfold zerosF
  by_cases h0 : n < 0
  · have hf : fitB n = false := by simp [fitB]; omega
    rw [hf]
    go_enter Try.func18, Try.ntmps18
    go_wp2
    go_ret2
    exact ⟨rfl, Below.refl _ _⟩
  by_cases h1 : 65536 < n
  · have hf : fitB n = false := by simp [fitB]; omega
    rw [hf]
    go_enter Try.func18, Try.ntmps18
    go_wp2
    go_ret2
    exact ⟨rfl, Below.refl _ _⟩
  have hf : fitB n = true := (fit_iff n).2 (by omega)
  rw [hf]
  obtain ⟨k, rfl⟩ := Int.eq_ofNat_of_zero_le (show 0 ≤ n by omega)
  have hk : k ≤ 65536 := by omega
  go_enter Try.func18, Try.ntmps18
  go_wp2_with (at_make; refine wpList_make_full _ rfl _ _ 23 rfl w.heap.size 5 i0 (.int .u8 0) 1 Try.underlying23 hi hz0 hz1 .i64 .i64 _ _ k rfl rfl (by first | rfl | omega) (by first | rfl | omega) (by rw [hz2]; omega) (by unfold maxLen; omega) (Nat.le_refl _) ?_)
  intro w1 hown0 hgrow
  have hb1 : Below w.heap.size w w1 := (Below.refl _ _).grown hgrow (Nat.le_refl _) (fun k hk => by cases hk)
  rw [toList_madeCells_one] at hown0
  have hrd := zeros_rd hown0 (by unfold maxLen; omega)
  have HA := hid (add_ref s _ _ _ _ hs hrd)
  rw [List.length_replicate] at HA
  clear hown0 hgrow hrd
  go_wp2_with fail
  go_at_call 11
  refine HA.out.mono ?_
  rintro e w' ⟨rfl, hw⟩
  obtain rfl := hw.symm
  clear hw
  go_wp2
  go_ret2
  exact ⟨rfl, hb1⟩

theorem cat_ref (a b : Nat) (n : Int) (w : World) (ha : a < 2 ^ 32) (hb : b < 2 ^ 32) : Calls Try.prog 20 #[.int .u32 (a : Int), .int .u32 (b : Int), .int .i64 n] w fun e w' => e = .returned (catF a b n) ∧ w' = w := by
  unfold catF
  by_cases h0 : n < 0
  · have hf : fitB n = false := by simp [fitB]; omega
    rw [hf]
    go_enter Try.func20, Try.ntmps20
    go_wp2
    go_ret2
    exact ⟨rfl, rfl⟩
  by_cases h1 : 65536 < n
  · have hf : fitB n = false := by simp [fitB]; omega
    rw [hf]
    go_enter Try.func20, Try.ntmps20
    go_wp2
    go_ret2
    exact ⟨rfl, rfl⟩
  have hf : fitB n = true := (fit_iff n).2 (by omega)
  rw [hf]
  obtain ⟨k, rfl⟩ := Int.eq_ofNat_of_zero_le (show 0 ≤ n by omega)
  have hk : k ≤ 65536 := by omega
  have HX := hid (xor32 _ _ (st_lt (8 * k) a ha) hb)
  go_enter Try.func20, Try.ntmps20
  go_wp2
  go_loop [0, 8] (fun r i => ∃ j : Nat, j ≤ k ∧ i = .int .i64 j ∧ r = .int .u32 ((st (8 * j) a : Nat) : Int)) (fun _ i => k - (intOf i).toNat)
  case atStart => exact ⟨0, by omega, rfl, rfl⟩
  case round =>
    obtain ⟨j, hj, rfl, rfl⟩ := hrel
    by_cases hlt : j < k
    · have hjk : (j : Int) < (k : Int) := by omega
      have HS : Hid (st (8 * (j + 1)) a = inB (st (8 * j) a) 0) := by rw [Nat.mul_add, st_add]; exact rfl
      have hsl := st_lt (8 * j) a ha
      generalize st (8 * j) a = x at *
      go_wp2_with (go_at_call 26; refine (in_ref x 0 _ hsl (by decide)).mono ?_; rintro e w' ⟨rfl, hw⟩; obtain rfl := hw.symm; clear hw)
      go_round
      case rel => exact ⟨j + 1, by omega, by go_num, by rw [HS.out]⟩
      case measure => simp [intOf]; omega
    · have hkn : j = k := by omega
      subst hkn
      go_wp2
      go_ret2
      refine ⟨?_, rfl⟩
      rw [HX.out]
      rfl
end Go.Proofs.Ytohbghniangknaa
