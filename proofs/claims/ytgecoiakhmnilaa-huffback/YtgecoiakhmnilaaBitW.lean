/-
  The contracts of huff's bit and of the document's Bit.
-/
import Derived.Test.YtgecoiakhmnilaaTally
import Derived.Test.YtgecoiakhmnilaaDecMath
namespace Go.Proofs.Ytgecoiakhmnilaa
open Go.RowKit Hf

theorem i64_and_nat (a b : Nat) (ha : a < 2 ^ 62) (hb : b < 2 ^ 62) : bits .and .i64 (a : Int) (b : Int) = ((a &&& b : Nat) : Int) := by
  have hx : a &&& b < 2 ^ 62 := Nat.and_lt_two_pow _ hb
  show IntKind.i64.wrap ((BitVec.ofInt 64 (a : Int) &&& BitVec.ofInt 64 (b : Int)).toNat : Int) = _
  rw [BitVec.toNat_and, ofInt_u64 a (by omega), ofInt_u64 b (by omega), IntKind.wrap_i64]
  omega
theorem i64_or_nat (a b : Nat) (ha : a < 2 ^ 62) (hb : b < 2 ^ 62) : bits .or .i64 (a : Int) (b : Int) = ((a ||| b : Nat) : Int) := by
  have hx : a ||| b < 2 ^ 62 := Nat.or_lt_two_pow ha hb
  show IntKind.i64.wrap ((BitVec.ofInt 64 (a : Int) ||| BitVec.ofInt 64 (b : Int)).toNat : Int) = _
  rw [BitVec.toNat_or, ofInt_u64 a (by omega), ofInt_u64 b (by omega), IntKind.wrap_i64]
  omega
theorem and_one (x : Nat) (hx : x < 256) : bits .and .i64 (x : Int) 1 = ((x % 2 : Nat) : Int) := by
  rw [show (1 : Int) = ((1 : Nat) : Int) from rfl, i64_and_nat x 1 (by omega) (by omega), Nat.and_one_is_mod]
theorem or_bit (x y : Nat) (hx : x < 65536) (hy : y < 2) : bits .or .i64 (((x : Int)) * 2) (y : Int) = ((x * 2 + y : Nat) : Int) := by
  rw [show (x : Int) * 2 = ((x * 2 : Nat) : Int) from by simp, i64_or_nat (x * 2) y (by omega) (by omega)]
  have h := Nat.shiftLeft_add_eq_or_of_lt (show y < 2 ^ 1 from by omega) x
  rw [Nat.shiftLeft_eq, Nat.pow_one] at h
  rw [← h]

theorem byte_nat {w : World} {a : Option Addr} {cap : Nat} {b : List Int} (hr : Ri w .u8 a cap b) (i : Nat) : ∃ z : Nat, b.getD i 0 = (z : Int) ∧ z ≤ 255 := by
  have := wf_u8 (hr.fits i)
  exact ⟨(b.getD i 0).toNat, by omega, by omega⟩

theorem bit_word (a : Option Addr) (cap : Nat) (b : List Int) (at' : Nat) (w : World) (hr : Ri w .u8 a cap b) (hat : at' < 8 * b.length) (hn : b.length ≤ 1000) :
    Calls Try.prog 49 #[.slice a b.length cap, .int .i64 (at' : Int)] w fun e w' => e = .returned (.int .i64 ((bitV b at' : Nat) : Int)) ∧ w' = w := by
  obtain ⟨z, hz, hz2⟩ := byte_nat hr (at' / 8)
  obtain ⟨g, o, rfl, hg, hc⟩ := hr.cells (by omega)
  have c1 := hc (at' / 8) (by omega)
  rw [hz] at c1
  have hv : bitV b at' = z / 2 ^ (7 - at' % 8) % 2 := by unfold bitV; rw [hz, Int.toNat_natCast]
  rw [hv]
  clear hc hr hz hv
  generalize b.length = len at *
  obtain ⟨q, hq⟩ : ∃ q, q = at' / 8 := ⟨_, rfl⟩
  obtain ⟨r, hr⟩ : ∃ r, r = at' % 8 := ⟨_, rfl⟩
  have hq1 : (at' : Int) / 8 = (q : Int) := by omega
  have hr1 : (at' : Int) % 8 = (r : Int) := by omega
  rw [← hq] at c1
  rw [← hr]
  have hl : q < len := by omega
  have hr8 : r < 8 := by omega
  clear hq hr
  go_enter Try.func49, Try.ntmps49
  have HV : Hid (bits .and .i64 (wrap64 ((z : Int) / 2 ^ (7 - r))) 1 = ((z / 2 ^ (7 - r) % 2 : Nat) : Int)) := by
    show _ = _
    have hle : z / 2 ^ (7 - r) ≤ z := Nat.div_le_self _ _
    rw [show (z : Int) / 2 ^ (7 - r) = ((z / 2 ^ (7 - r) : Nat) : Int) from by simp]
    generalize z / 2 ^ (7 - r) = x at *
    rw [wrap64_id (by omega) (by omega), and_one _ (by omega)]
  go_wp2
  go_ret
  exact ⟨by rw [HV.out]; rfl, rfl⟩

theorem bit_ref (a : Option Addr) (cap : Nat) (b : List Int) (at' : Nat) (w : World) (hr : Ri w .u8 a cap b) (hat : at' < 8 * b.length) (hn : b.length ≤ 1000) :
    Calls Try.prog 50 #[.slice a b.length cap, .int .i64 (at' : Int)] w fun e w' => e = .returned (.int .i64 ((bitV b at' : Nat) : Int)) ∧ w' = w := by
  obtain ⟨z, hz, hz2⟩ := byte_nat hr (at' / 8)
  obtain ⟨g, o, rfl, hg, hc⟩ := hr.cells (by omega)
  have c1 := hc (at' / 8) (by omega)
  rw [hz] at c1
  have hv : bitV b at' = z / 2 ^ (7 - at' % 8) % 2 := by unfold bitV; rw [hz, Int.toNat_natCast]
  rw [hv]
  clear hc hr hz hv
  generalize b.length = len at *
  obtain ⟨q, hq⟩ : ∃ q, q = at' / 8 := ⟨_, rfl⟩
  obtain ⟨r, hr⟩ : ∃ r, r = at' % 8 := ⟨_, rfl⟩
  have hq1 : (at' : Int) / 8 = (q : Int) := by omega
  have hr1 : (at' : Int) % 8 = (r : Int) := by omega
  rw [← hq] at c1
  rw [← hr]
  have hl : q < len := by omega
  have hr8 : r < 8 := by omega
  clear hq hr
  have hzw : wrap64 (z : Int) = (z : Int) := wrap64_id (by omega) (by omega)
  go_enter Try.func50, Try.ntmps50
  go_wp2
  go_loop [5, 6] (fun x y => ∃ m : Nat, r ≤ m ∧ m ≤ 7 ∧ y = .int .i64 m ∧ x = .int .i64 ((z / 2 ^ (m - r) : Nat) : Int)) (fun _ y => 7 - (intOf y).toNat)
  case atStart => exact ⟨r, by omega, by omega, by rw [hr1], by simp⟩
  case round =>
    obtain ⟨m, hm1, hm2, rfl, rfl⟩ := hrel
    have hle : z / 2 ^ (m - r) ≤ z := Nat.div_le_self _ _
    by_cases hm : m < 7
    · have hm3 : (m : Int) < 7 := by omega
      have HP : Hid (z / 2 ^ (m + 1 - r) = z / 2 ^ (m - r) / 2) := by
        show _ = _
        rw [show m + 1 - r = (m - r) + 1 from by omega, Nat.pow_succ, ← Nat.div_div_eq_div_mul]
      generalize z / 2 ^ (m - r) = x at *
      go_wp2
      exact ⟨⟨m + 1, by omega, by omega, by go_num, by rw [HP.out]; simp⟩, by simp [intOf]; omega⟩
    · obtain rfl : m = 7 := by omega
      generalize hx : z / 2 ^ (7 - r) = x at *
      have HX := hid hx
      clear hx
      go_wp2
      go_ret
      exact ⟨ret_int (by rw [← HX.out]; simp), rfl⟩
end Go.Proofs.Ytgecoiakhmnilaa
