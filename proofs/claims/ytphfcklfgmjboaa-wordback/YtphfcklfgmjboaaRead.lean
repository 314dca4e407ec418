/-
  The contracts of word.Read and the document's Read: both tell the number of the varint with which bytes begin, how many bytes it has, or where they begin with none.
-/
import Derived.Test.YtphfcklfgmjboaaAlive
namespace Go.Proofs.Ytphfcklfgmjboaa
open Go.RowKit

/-- A slice value v reads, in the world w, as the bytes zs. -/
structure Rd (w : World) (v : Value) (a : Option Addr) (cap : Nat) (zs : List Int) : Prop where
  val : v = .slice a zs.length cap
  room : zs.length ≤ cap
  most : cap ≤ maxLen
  cells : 0 < zs.length → ∃ b off, a = some ⟨b, off, none⟩ ∧ b < w.heap.size ∧ ∀ j, j < zs.length → w.cell? ⟨b, off + j, none⟩ = some (.int .u8 (zs.getD j 0))
  lo : ∀ j, 0 ≤ zs.getD j 0
  hi : ∀ j, zs.getD j 0 ≤ 255

theorem Rd.later {w w' : World} {v : Value} {a : Option Addr} {cap : Nat} {zs : List Int} (h : Rd w v a cap zs) (hb : Below w.heap.size w w') : Rd w' v a cap zs := by
  refine ⟨h.val, h.room, h.most, fun h0 => ?_, h.lo, h.hi⟩
  obtain ⟨b, off, ha, hbw, hc⟩ := h.cells h0
  exact ⟨b, off, ha, Nat.lt_of_lt_of_le hbw hb.size, fun j hj => (hb.cell (p := ⟨b, off + j, none⟩) hbw).trans (hc j hj)⟩

def badB (i : Nat) (c : Int) : Bool := decide ((i = 9 ∧ c ≠ 1) ∨ (0 < i ∧ c = 0))

def readL (acc : Int) (i : Nat) : List Int → Int × Int × Int
  | [] => (0, i, 11)
  | c :: cs => if badB i c then (0, i, 12) else if c < 128 then (acc + c % 128 * 128 ^ i, i + 1, 0) else readL (acc + c % 128 * 128 ^ i) (i + 1) cs

theorem follows_any (c : Int) (i : Nat) (w : World) :
    Calls Try.prog 37 #[.int .u8 c, .int .i64 i] w fun e w' => e = .returned (.bool (!badB i c)) ∧ w' = w := by
  by_cases h9 : i = 9
  · subst h9
    have e : (!badB 9 c) = (c == 1) := by
      by_cases hc : c = 1
      · subst hc; rfl
      · simp [badB, hc]
    rw [e]
    go_enter Try.func37, Try.ntmps37
    go_wp2
    go_ret
    exact ⟨rfl, rfl⟩
  · have g9 : ((i : Int) == 9) = false := by rw [beq_eq_false_iff_ne]; omega
    by_cases h0 : i = 0
    · subst h0
      have e : (!badB 0 c) = true := by simp [badB]
      rw [e]
      go_enter Try.func37, Try.ntmps37
      go_wp2
      go_ret
      exact ⟨rfl, rfl⟩
    · have g0 : ((i : Int) == 0) = false := by rw [beq_eq_false_iff_ne]; omega
      have e : (!badB i c) = (c != 0) := by
        by_cases hc : c = 0
        · subst hc; simp [badB, h9]; omega
        · simp [badB, h9, hc]
      rw [e]
      go_enter Try.func37, Try.ntmps37
      go_wp2
      go_ret
      exact ⟨rfl, rfl⟩

theorem drop_step (zs : List Int) (k : Nat) (hk : k < zs.length) : zs.drop k = zs.getD k 0 :: zs.drop (k + 1) := by
  rw [List.drop_eq_getElem_cons hk]
  simp [List.getD, List.getElem?_eq_getElem hk]

theorem ret_three {k l m : IntKind} {a b c : Int} {t : Int × Int × Int} (h : t = (a, b, c)) : Ending.returned (.tuple #[.int k a, .int l b, .int m c]) = .returned (.tuple #[.int k t.1, .int l t.2.1, .int m t.2.2]) := by rw [h]

theorem pow128 (k : Nat) : (128 : Nat) ^ k = 2 ^ (7 * k) := by rw [Nat.pow_mul]

theorem digit_lt (k : Nat) (c : Int) (hk : k ≤ 9) (h9 : k = 9 → c = 1) : c % 128 * 128 ^ k < 18446744073709551616 := by
  by_cases h : k = 9
  · rw [h9 h, h]; decide
  · have e : ((128 ^ k : Nat) : Int) ≤ ((128 ^ 8 : Nat) : Int) := by
      have := Nat.pow_le_pow_right (n := 128) (by decide) (show k ≤ 8 from by omega)
      omega
    have e2 : (128 : Int) ^ k ≤ 72057594037927936 := by simpa using e
    have e3 : (0 : Int) < 128 ^ k := Int.pow_pos (by decide)
    have e4 : c % 128 * 128 ^ k ≤ 127 * 128 ^ k := Int.mul_le_mul_of_nonneg_right (by omega) (by omega)
    omega

/-- A further seven bits, joined: the sum. -/
theorem read_or (acc c : Int) (k : Nat) (h0 : 0 ≤ c) (h1 : c ≤ 255) (hk : k ≤ 9) (h9 : k = 9 → c = 1) (ha0 : 0 ≤ acc) (ha1 : acc < 128 ^ k) :
    bits .or .u64 acc (IntKind.u64.wrap (IntKind.u64.wrap (bits .andNot .u8 c 128) * 2 ^ (7 * k))) = acc + c % 128 * 128 ^ k := by
  have hd := digit_lt k c hk h9
  obtain ⟨n, rfl⟩ := Int.eq_ofNat_of_zero_le h0
  obtain ⟨m, rfl⟩ := Int.eq_ofNat_of_zero_le ha0
  have e1 : bits .andNot .u8 (n : Int) 128 = ((n % 128 : Nat) : Int) := by
    rw [show (128 : Int) = ((128 : Nat) : Int) from rfl, u8_andNot_nat _ _ (by omega) (by omega)]
    congr 1
    exact nat_mask7 n
  have e2 : ((n : Int) % 128 * 128 ^ k) = ((n % 128 * 2 ^ (7 * k) : Nat) : Int) := by rw [← pow128]; simp
  rw [e2] at hd ⊢
  have hp : (2 : Nat) ^ (7 * k) ≤ 2 ^ 63 := Nat.pow_le_pow_right (n := 2) (by decide) (by omega)
  have hm : m < 2 ^ (7 * k) := by
    have : (m : Int) < ((128 ^ k : Nat) : Int) := by simpa using ha1
    rw [pow128] at this; omega
  have e3 : IntKind.u64.wrap (IntKind.u64.wrap (((n % 128 : Nat) : Int)) * 2 ^ (7 * k)) = ((n % 128 * 2 ^ (7 * k) : Nat) : Int) := by
    rw [IntKind.wrap_u64, IntKind.wrap_u64, show (((n % 128 : Nat) : Int) % 18446744073709551616) = ((n % 128 : Nat) : Int) from by omega]
    rw [show ((n % 128 : Nat) : Int) * 2 ^ (7 * k) = ((n % 128 * 2 ^ (7 * k) : Nat) : Int) from by simp]
    exact Int.emod_eq_of_lt (by omega) hd
  rw [e1, e3, u64_or_nat _ _ (by omega) (by omega), Nat.or_comm, nat_join (7 * k) _ _ (Nat.mul_mod_left _ _) hm]
  omega

theorem digit_next (acc c : Int) (k : Nat) (ha0 : 0 ≤ acc) (ha1 : acc < 128 ^ k) : 0 ≤ acc + c % 128 * 128 ^ k ∧ acc + c % 128 * 128 ^ k < 128 ^ (k + 1) := by
  have e3 : (0 : Int) < 128 ^ k := Int.pow_pos (by decide)
  have e4 : c % 128 * 128 ^ k ≤ 127 * 128 ^ k := Int.mul_le_mul_of_nonneg_right (by omega) (by omega)
  have e5 : 0 ≤ c % 128 * 128 ^ k := Int.mul_nonneg (by omega) (by omega)
  rw [Int.pow_succ]
  omega

theorem digit_sum (acc c : Int) (k : Nat) (hk : k ≤ 9) (h9 : k = 9 → c = 1) (ha0 : 0 ≤ acc) (ha1 : acc < 128 ^ k) : acc + c % 128 * 128 ^ k < 18446744073709551616 := by
  by_cases h : k = 9
  · rw [h9 h, h]; rw [h] at ha1; omega
  · have h2 := (digit_next acc c k ha0 ha1).2
    have e : ((128 ^ (k + 1) : Nat) : Int) ≤ ((128 ^ 9 : Nat) : Int) := by
      have := Nat.pow_le_pow_right (n := 128) (by decide) (show k + 1 ≤ 9 from by omega)
      omega
    have e2 : (128 : Int) ^ (k + 1) ≤ 9223372036854775808 := by simpa using e
    omega

theorem not_bad {k : Nat} {c : Int} (h : badB k c = false) : k = 9 → c = 1 := by
  simp only [badB, decide_eq_false_iff_not] at h
  omega

theorem read_bad {acc c : Int} {k : Nat} {cs : List Int} (h : badB k c = true) : readL acc k (c :: cs) = (0, (k : Int), 12) := by
  rw [readL, if_pos h]
theorem read_last {acc c : Int} {k : Nat} {cs : List Int} (h : badB k c = false) (hc : c < 128) : readL acc k (c :: cs) = (acc + c % 128 * 128 ^ k, (k : Int) + 1, 0) := by
  rw [readL, if_neg (by rw [h]; decide), if_pos hc]
theorem read_more {acc c : Int} {k : Nat} {cs : List Int} (h : badB k c = false) (hc : ¬ c < 128) : readL acc k (c :: cs) = readL (acc + c % 128 * 128 ^ k) (k + 1) cs := by
  rw [readL, if_neg (by rw [h]; decide), if_neg hc]
theorem read_none {acc : Int} {k : Nat} {zs : List Int} (h : ¬ k < zs.length) : readL acc k (zs.drop k) = (0, (k : Int), 11) := by
  rw [List.drop_eq_nil_of_le (by omega)]; rfl

theorem read_word (a : Option Addr) (cap : Nat) (zs : List Int) (w : World) (hr : Rd w (.slice a zs.length cap) a cap zs) :
    Calls Try.prog 20 #[.slice a zs.length cap] w fun e w' => e = .returned (.tuple #[.int .u64 (readL 0 0 zs).1, .int .i64 (readL 0 0 zs).2.1, .int .i64 (readL 0 0 zs).2.2]) ∧ w' = w := by
  have hcap := hr.room
  have hmax := hr.most
  unfold maxLen at hmax
  obtain ⟨len, hlen⟩ : ∃ n, n = zs.length := ⟨_, rfl⟩
  have hcells := hr.cells
  have hlo := hr.lo
  have hhi := hr.hi
  clear hr
  rw [← hlen] at hcells hcap ⊢
  have HL : Hid (len = zs.length) := hlen
  clear hlen
  go_enter Try.func20, Try.ntmps20
  go_wp2
  go_loop [5, 9] (fun x i => ∃ (k : Nat) (acc : Int), k ≤ len ∧ k ≤ 9 ∧ i = .int .i64 k ∧ x = .int .u64 acc ∧ 0 ≤ acc ∧ acc < 128 ^ k ∧ readL 0 0 zs = readL acc k (zs.drop k)) (fun _ i => len - (intOf i).toNat)
  case atStart => exact ⟨0, 0, by omega, by omega, rfl, rfl, by omega, by simp, rfl⟩
  case round =>
    obtain ⟨k, acc, hk, hk9, rfl, rfl, hacc0, hacc1, hd⟩ := hrel
    by_cases hlt : k < len
    · obtain ⟨b, off, rfl, hbw, hc⟩ := hcells (by omega)
      have hck := hc k hlt
      have hl0 := hlo k
      have hl1 := hhi k
      rw [drop_step zs k (by rw [← HL.out]; exact hlt)] at hd
      generalize zs.getD k 0 = c at *
      have HD : Hid (readL 0 0 zs = readL acc k (c :: zs.drop (k + 1))) := hd
      clear hd hc hlo hhi hcells
      cases hbad : badB k c with
      | true =>
        have hnb : (!badB k c) = false := by rw [hbad]; rfl
        go_wp2_with (go_at_call 37; refine (follows_any _ _ _).mono ?_; rintro e w' ⟨rfl, rfl⟩)
        go_ret3
        exact ⟨ret_three (HD.out.trans (read_bad hbad)), rfl⟩
      | false =>
        have hnb : (!badB k c) = true := by rw [hbad]; rfl
        have hx := read_or acc c k hl0 hl1 hk9 (not_bad hbad) hacc0 hacc1
        by_cases hc128 : c < 128
        · go_wp2_with (go_at_call 37; refine (follows_any _ _ _).mono ?_; rintro e w' ⟨rfl, rfl⟩)
          go_ret3
          exact ⟨ret_three (HD.out.trans (read_last hbad hc128)), rfl⟩
        · have hnx := digit_next acc c k hacc0 hacc1
          have hk8 : k ≠ 9 := fun h => by have := not_bad hbad h; omega
          obtain ⟨acc', hacc'⟩ : ∃ x, x = acc + c % 128 * 128 ^ k := ⟨_, rfl⟩
          rw [← hacc'] at hx hnx
          have HA : Hid (acc' = acc + c % 128 * 128 ^ k) := hacc'
          clear hacc'
          go_wp2_with (go_at_call 37; refine (follows_any _ _ _).mono ?_; rintro e w' ⟨rfl, rfl⟩)
          go_round
          case rel => exact ⟨k + 1, acc', by omega, by omega, by go_num, rfl, hnx.1, hnx.2, by rw [HD.out, read_more hbad (by omega), HA.out]⟩
          case measure => simp [intOf]; omega
    · have hkl : k = len := by omega
      have HD : Hid (readL 0 0 zs = (0, (k : Int), 11)) := hd.trans (read_none (by rw [← HL.out]; exact hlt))
      clear hd
      go_wp2
      go_ret3
      exact ⟨ret_three (by rw [HD.out, hkl]), rfl⟩

theorem read_ref (a : Option Addr) (cap : Nat) (zs : List Int) (w : World) (hr : Rd w (.slice a zs.length cap) a cap zs) :
    Calls Try.prog 21 #[.slice a zs.length cap] w fun e w' => e = .returned (.tuple #[.int .u64 (readL 0 0 zs).1, .int .i64 (readL 0 0 zs).2.1, .int .i64 (readL 0 0 zs).2.2]) ∧ w' = w := by
  have hcap := hr.room
  have hmax := hr.most
  unfold maxLen at hmax
  obtain ⟨len, hlen⟩ : ∃ n, n = zs.length := ⟨_, rfl⟩
  have hcells := hr.cells
  have hlo := hr.lo
  have hhi := hr.hi
  clear hr
  rw [← hlen] at hcells hcap ⊢
  have HL : Hid (len = zs.length) := hlen
  clear hlen
  go_enter Try.func21, Try.ntmps21
  go_wp2
  go_loop [5, 6, 7] (fun x sc i => ∃ (k : Nat) (acc : Int), k ≤ len ∧ k ≤ 9 ∧ i = .int .i64 k ∧ x = .int .u64 acc ∧ sc = .int .u64 (128 ^ k) ∧ 0 ≤ acc ∧ acc < 128 ^ k ∧ readL 0 0 zs = readL acc k (zs.drop k)) (fun _ _ i => len - (intOf i).toNat)
  case atStart => exact ⟨0, 0, by omega, by omega, rfl, rfl, rfl, by omega, by simp, rfl⟩
  case round =>
    obtain ⟨k, acc, hk, hk9, rfl, rfl, rfl, hacc0, hacc1, hd⟩ := hrel
    by_cases hlt : k < len
    · obtain ⟨b, off, rfl, hbw, hc⟩ := hcells (by omega)
      have hck := hc k hlt
      have hl0 := hlo k
      have hl1 := hhi k
      rw [drop_step zs k (by rw [← HL.out]; exact hlt)] at hd
      generalize zs.getD k 0 = c at *
      have HD : Hid (readL 0 0 zs = readL acc k (c :: zs.drop (k + 1))) := hd
      clear hd hc hlo hhi hcells
      have hs0 : (0 : Int) < 128 ^ k := Int.pow_pos (by decide)
      cases hbad : badB k c with
      | true =>
        have hb := of_decide_eq_true hbad
        by_cases hk9' : k = 9
        · have g9 : ((k : Int) == 9) = true := by rw [beq_iff_eq]; omega
          have g1 : (c != 1) = true := by rw [bne_iff_ne]; omega
          have HK : Hid (k = 9) := hk9'
          clear hb hk9'
          go_wp2
          go_ret3
          exact ⟨ret_three (HD.out.trans (read_bad hbad)), rfl⟩
        · have g9 : ((k : Int) == 9) = false := by rw [beq_eq_false_iff_ne]; omega
          have hkp : 0 < k := by omega
          have g1 : (c == 0) = true := by rw [beq_iff_eq]; omega
          clear hb
          go_wp2
          go_ret3
          exact ⟨ret_three (HD.out.trans (read_bad hbad)), rfl⟩
      | false =>
        have hds := digit_sum acc c k hk9 (not_bad hbad) hacc0 hacc1
        have hdl := digit_lt k c hk9 (not_bad hbad)
        have hdp : 0 ≤ c % 128 * 128 ^ k := Int.mul_nonneg (by omega) (by omega)
        have hb := of_decide_eq_false hbad
        have hmax64 : k ≠ 9 → (128 : Int) ^ k * 128 < 18446744073709551616 := by
          intro h
          have e : ((128 ^ (k + 1) : Nat) : Int) ≤ ((128 ^ 9 : Nat) : Int) := by
            have := Nat.pow_le_pow_right (n := 128) (by decide) (show k + 1 ≤ 9 from by omega)
            omega
          have e2 : (128 : Int) ^ (k + 1) ≤ 9223372036854775808 := by simpa using e
          rw [Int.pow_succ] at e2
          omega
        by_cases hk9' : k = 9
        · have g9 : ((k : Int) == 9) = true := by rw [beq_iff_eq]; omega
          have g1 : (c != 1) = false := by rw [bne_eq_false_iff_eq]; omega
          have hkp : 9 ≤ k := by omega
          have g2 : (c == 0) = false := by rw [beq_eq_false_iff_ne]; omega
          have hc128 : c < 128 := by omega
          have HK : Hid (k = 9) := hk9'
          clear hb hk9' hmax64
          go_wp2
          go_ret3
          exact ⟨ret_three (HD.out.trans (read_last hbad hc128)), rfl⟩
        · have hm := hmax64 hk9'
          have hnx := digit_next acc c k hacc0 hacc1
          have g9 : ((k : Int) == 9) = false := by rw [beq_eq_false_iff_ne]; omega
          clear hmax64
          by_cases hk0 : 0 < k
          all_goals
            first
              | (have g2 : (c == 0) = false := by rw [beq_eq_false_iff_ne]; omega)
              | skip
            clear hb
            by_cases hc128 : c < 128
            · go_wp2
              go_ret3
              exact ⟨ret_three (HD.out.trans (read_last hbad hc128)), rfl⟩
            · go_wp2
              go_round
              case rel => exact ⟨k + 1, acc + c % 128 * 128 ^ k, by omega, by omega, by go_num, rfl, by rw [Int.pow_succ], hnx.1, hnx.2, by rw [HD.out, read_more hbad (by omega)]⟩
              case measure => simp [intOf]; omega
    · have hkl : k = len := by omega
      have HD : Hid (readL 0 0 zs = (0, (k : Int), 11)) := hd.trans (read_none (by rw [← HL.out]; exact hlt))
      clear hd
      go_wp2
      go_ret3
      exact ⟨ret_three (by rw [HD.out, hkl]), rfl⟩
end Go.Proofs.Ytphfcklfgmjboaa
