/-
  The contracts of word.Varint and word.Read.
-/
import Derived.Test.YtgnjicpmfpgdeaaDoorRow
import Derived.Laws.BitsAllLaws
namespace Go.Proofs.YtgnjicpmfpgdeaaDoor
open Go.RowKit

theorem Tryd.info5W : (Tryd.prog.info? 5).map (fun i => (i.zero, i.size, i.bytes)) = some (some (.int .u8 0), 1, 1) := by kernel_rfl

/-- A varint's bytes; of a number below 128 ^ (f + 1) all of them. -/
def vintL : Nat → Int → List Int
  | 0, x => [x]
  | f + 1, x => if x < 128 then [x] else (x % 128 + 128) :: vintL f (x / 128)
def vint (x : Int) : List Int := vintL 9 x

theorem or128 (x : Int) : bits .or .u8 (x % 256) 128 = x % 128 + 128 := by
  have h0 : 0 ≤ x % 256 := by omega
  have h1 : x % 256 < 256 := by omega
  have e : x % 128 = x % 256 % 128 := by omega
  rw [e]
  generalize x % 256 = y at *
  obtain ⟨n, rfl⟩ := Int.eq_ofNat_of_zero_le h0
  rw [show (128 : Int) = ((128 : Nat) : Int) from rfl, u8_or_nat _ _ (by omega) (by omega)]
  have hn : n < 256 := by omega
  have key : ∀ m : Fin 256, (m.val ||| 128) = m.val % 128 + 128 := by decide +kernel
  have := key ⟨n, hn⟩
  simp only at this
  rw [this]
  omega

theorem vint_more (f : Nat) (y : Int) (h : ¬ y < 128) : vintL (f + 1) y = (y % 128 + 128) :: vintL f (y / 128) := by rw [vintL, if_neg h]
theorem vint_last (f : Nat) (y : Int) (h : y < 128) : vintL f y = [y] := by cases f with
  | zero => rfl
  | succ f => rw [vintL, if_pos h]

theorem one_cellW (w : World) (o : Obj) (v u : Value) (j : Nat) (ho : o = .cells #[v] 5) (h : [v][j]? = some u) : (w.alloc o).cell? (Addr.add ⟨w.heap.size, 0, none⟩ j) = some u := by
  subst ho
  match j, h with
  | 0, h => simp at h; subst h; simp [Addr.add]

/-- Behind an append of one byte: what is owned, and that all that was there is as it was. -/
theorem own_snocW {B : Nat} {w wr w1 : World} {acc : List Int} {z : Int} {u v : Value} {o : Obj} (hB : B ≤ wr.heap.size)
    (hown : wr.ownsRow B 5 1 u acc.length (acc.map (Value.int .u8))) (hbel : Below B w wr)
    (hown' : w1.ownsRow B 5 1 v (acc.length + 1) (acc.map (Value.int .u8) ++ [.int .u8 z])) (hgrow : (wr.alloc o).grownBy w1 u.ownBlock) :
    w1.ownsRow B 5 1 v (acc ++ [z]).length ((acc ++ [z]).map (Value.int .u8)) ∧ Below B w w1 :=
  ⟨by simpa using hown', (hbel.alloc hB o).grown hgrow (by simp; omega) (fun j hj => (hown.lt j hj).1)⟩

set_option maxHeartbeats 800000 in
set_option maxRecDepth 1000000 in
theorem var_word (x : Int) (w : World) (h0 : 0 ≤ x) (h1 : x < 18446744073709551616) :
    Calls Tryd.prog 38 #[.int .u64 x] w fun e w' => ∃ v, e = .returned v ∧ w'.ownsRow w.heap.size 5 1 v (vint x).length ((vint x).map (Value.int .u8)) ∧ Below w.heap.size w w' := by
  obtain ⟨i0, hi, hz0, hz1, hz2⟩ := info_parts Tryd.info5W
  go_enter Tryd.func38, Tryd.ntmps38
  go_wp2
  go_loopw [0, 3] (fun c v wr => ∃ (f : Nat) (acc : List Int) (y : Int), c = .int .u64 y ∧ 0 ≤ y ∧ y < 18446744073709551616 ∧ y < 128 ^ (f + 1) ∧ acc.length + f = 9 ∧ acc ++ vintL f y = vint x ∧ wr.ownsRow w.heap.size 5 1 v acc.length (acc.map (Value.int .u8)) ∧ Below w.heap.size w wr)
    (fun c _ _ => (intOf c).toNat)
  case atStart => exact ⟨9, [], x, rfl, h0, h1, by omega, rfl, rfl, World.ownsRow_nil _ _ _ _, Below.refl _ _⟩
  case round =>
    obtain ⟨f, acc, y, rfl, hy0, hy1, hyf, hlen, hcat, hown, hbel⟩ := hrel
    have hor := or128 y
    by_cases hy : y < 128
    · go_wp2_with (at_builtin; refine wpList_append_own _ rfl _ _ 22 rfl w.heap.size 5 i0 (.int .u8 0) 1 1 Tryd.underlying22 hi hz0 hz1 hz2 rfl (by decide) _ _ _ rfl (hown.alloc _) ⟨wr.heap.size, 0, none⟩ 1 1 [.int .u8 y] rfl rfl ?c1 ?c2 ?c3 ?c4 ?c5 ?_)
      case c1 =>
        intro j u hj
        match j, hj with
        | 0, hj => simp at hj; subst hj; simp [Addr.add]
      case c2 => intro u hu; simp at hu; subst hu; rfl
      case c3 => unfold maxLen; omega
      case c4 => omega
      case c5 => have := hbel.size; simp; omega
      intro v' w1 hown' hgrow _
      have R := own_snocW hbel.size hown hbel hown' hgrow
      have hv : acc ++ [y] = vint x := by rw [← hcat, vint_last f y hy]
      rw [hv] at R
      clear hown' hgrow hown hcat
      go_wp2
      go_ret
      exact ⟨_, rfl, R.1, R.2⟩
    · obtain ⟨g, rfl⟩ : ∃ g, f = g + 1 := by
        cases f with
        | zero => omega
        | succ g => exact ⟨g, rfl⟩
      have hcat' : (acc ++ [y % 128 + 128]) ++ vintL g (y / 128) = vint x := by rw [← hcat, vint_more g y hy]; simp
      have hyg : y / 128 < 128 ^ (g + 1) := by
        rw [Int.ediv_lt_iff_lt_mul (by decide), ← Int.pow_succ]; exact hyf
      clear hcat hyf
      go_wp2_with (at_builtin; refine wpList_append_own _ rfl _ _ 22 rfl w.heap.size 5 i0 (.int .u8 0) 1 1 Tryd.underlying22 hi hz0 hz1 hz2 rfl (by decide) _ _ _ rfl (hown.alloc _) ⟨wr.heap.size, 0, none⟩ 1 1 [.int .u8 (y % 128 + 128)] rfl rfl ?d1 ?d2 ?d3 ?d4 ?d5 ?_)
      case d2 => rfl
      case d3 => unfold maxLen; omega
      case d4 => omega
      case d5 => have := hbel.size; simp; omega
      intro v' w1 hown' hgrow _
      have R := own_snocW hbel.size hown hbel hown' hgrow
      clear hown' hgrow hown
      go_wp2
      go_roundw
      case rel => exact ⟨g, acc ++ [y % 128 + 128], y / 128, rfl, by omega, by omega, hyg, by simp; omega, hcat', R.1, R.2⟩
      case measure => simp [intOf]; omega

def badB (i : Nat) (c : Int) : Bool := decide ((i = 9 ∧ c ≠ 1) ∨ (0 < i ∧ c = 0))

def readL (acc : Int) (i : Nat) : List Int → Int × Int × Int
  | [] => (0, i, 11)
  | c :: cs => if badB i c then (0, i, 12) else if c < 128 then (acc + c % 128 * 128 ^ i, i + 1, 0) else readL (acc + c % 128 * 128 ^ i) (i + 1) cs

theorem follows_any (c : Int) (i : Nat) (w : World) :
    Calls Tryd.prog 90 #[.int .u8 c, .int .i64 i] w fun e w' => e = .returned (.bool (!badB i c)) ∧ w' = w := by
  by_cases h9 : i = 9
  · subst h9
    have e : (!badB 9 c) = (c == 1) := by
      by_cases hc : c = 1
      · subst hc; rfl
      · simp [badB, hc]
    rw [e]
    go_enter Tryd.func90, Tryd.ntmps90
    go_wp2
    go_ret
    exact ⟨rfl, rfl⟩
  · have g9 : ((i : Int) == 9) = false := by rw [beq_eq_false_iff_ne]; omega
    by_cases h0 : i = 0
    · subst h0
      have e : (!badB 0 c) = true := by simp [badB]
      rw [e]
      go_enter Tryd.func90, Tryd.ntmps90
      go_wp2
      go_ret
      exact ⟨rfl, rfl⟩
    · have g0 : ((i : Int) == 0) = false := by rw [beq_eq_false_iff_ne]; omega
      have e : (!badB i c) = (c != 0) := by
        by_cases hc : c = 0
        · subst hc; simp [badB, h9]; omega
        · simp [badB, h9, hc]
      rw [e]
      go_enter Tryd.func90, Tryd.ntmps90
      go_wp2
      go_ret
      exact ⟨rfl, rfl⟩

theorem drop_step (zs : List Int) (k : Nat) (hk : k < zs.length) : zs.drop k = zs.getD k 0 :: zs.drop (k + 1) := by
  rw [List.drop_eq_getElem_cons hk]
  simp [List.getD, List.getElem?_eq_getElem hk]

theorem ret_three {k l m : IntKind} {a b c : Int} {t : Int × Int × Int} (h : t = (a, b, c)) : Ending.returned (.tuple #[.int k a, .int l b, .int m c]) = .returned (.tuple #[.int k t.1, .int l t.2.1, .int m t.2.2]) := by rw [h]

theorem pow128 (k : Nat) : (128 : Nat) ^ k = 2 ^ (7 * k) := by rw [Nat.pow_mul]

theorem digit_lt (k : Nat) (c : Int) (hk : k ≤ 9) (h9 : k = 9 → c = 1) : c % 128 * 128 ^ k < 18446744073709551616 := by
  by_cases h : k = 9
  · rw [h9 h, h]; decide
  · have e : ((128 ^ k : Nat) : Int) ≤ ((128 ^ 8 : Nat) : Int) := by
      have := Nat.pow_le_pow_right (n := 128) (by decide) (show k ≤ 8 from by omega)
      omega
    have e2 : (128 : Int) ^ k ≤ 72057594037927936 := by simpa using e
    have e3 : (0 : Int) < 128 ^ k := Int.pow_pos (by decide)
    have e4 : c % 128 * 128 ^ k ≤ 127 * 128 ^ k := Int.mul_le_mul_of_nonneg_right (by omega) (by omega)
    omega

/-- A further seven bits, joined: the sum. -/
theorem read_or (acc c : Int) (k : Nat) (h0 : 0 ≤ c) (h1 : c ≤ 255) (hk : k ≤ 9) (h9 : k = 9 → c = 1) (ha0 : 0 ≤ acc) (ha1 : acc < 128 ^ k) :
    bits .or .u64 acc (IntKind.u64.wrap (IntKind.u64.wrap (bits .andNot .u8 c 128) * 2 ^ (7 * k))) = acc + c % 128 * 128 ^ k := by
  have hd := digit_lt k c hk h9
  obtain ⟨n, rfl⟩ := Int.eq_ofNat_of_zero_le h0
  obtain ⟨m, rfl⟩ := Int.eq_ofNat_of_zero_le ha0
  have e1 : bits .andNot .u8 (n : Int) 128 = ((n % 128 : Nat) : Int) := by
    rw [show (128 : Int) = ((128 : Nat) : Int) from rfl, u8_andNot_nat _ _ (by omega) (by omega)]
    congr 1
    exact nat_mask7 n
  have e2 : ((n : Int) % 128 * 128 ^ k) = ((n % 128 * 2 ^ (7 * k) : Nat) : Int) := by rw [← pow128]; simp
  rw [e2] at hd ⊢
  have hp : (2 : Nat) ^ (7 * k) ≤ 2 ^ 63 := Nat.pow_le_pow_right (n := 2) (by decide) (by omega)
  have hm : m < 2 ^ (7 * k) := by
    have : (m : Int) < ((128 ^ k : Nat) : Int) := by simpa using ha1
    rw [pow128] at this; omega
  have e3 : IntKind.u64.wrap (IntKind.u64.wrap (((n % 128 : Nat) : Int)) * 2 ^ (7 * k)) = ((n % 128 * 2 ^ (7 * k) : Nat) : Int) := by
    rw [IntKind.wrap_u64, IntKind.wrap_u64, show (((n % 128 : Nat) : Int) % 18446744073709551616) = ((n % 128 : Nat) : Int) from by omega]
    rw [show ((n % 128 : Nat) : Int) * 2 ^ (7 * k) = ((n % 128 * 2 ^ (7 * k) : Nat) : Int) from by simp]
    exact Int.emod_eq_of_lt (by omega) hd
  rw [e1, e3, u64_or_nat _ _ (by omega) (by omega), Nat.or_comm, nat_join (7 * k) _ _ (Nat.mul_mod_left _ _) hm]
  omega

theorem digit_next (acc c : Int) (k : Nat) (ha0 : 0 ≤ acc) (ha1 : acc < 128 ^ k) : 0 ≤ acc + c % 128 * 128 ^ k ∧ acc + c % 128 * 128 ^ k < 128 ^ (k + 1) := by
  have e3 : (0 : Int) < 128 ^ k := Int.pow_pos (by decide)
  have e4 : c % 128 * 128 ^ k ≤ 127 * 128 ^ k := Int.mul_le_mul_of_nonneg_right (by omega) (by omega)
  have e5 : 0 ≤ c % 128 * 128 ^ k := Int.mul_nonneg (by omega) (by omega)
  rw [Int.pow_succ]
  omega

theorem digit_sum (acc c : Int) (k : Nat) (hk : k ≤ 9) (h9 : k = 9 → c = 1) (ha0 : 0 ≤ acc) (ha1 : acc < 128 ^ k) : acc + c % 128 * 128 ^ k < 18446744073709551616 := by
  by_cases h : k = 9
  · rw [h9 h, h]; rw [h] at ha1; omega
  · have h2 := (digit_next acc c k ha0 ha1).2
    have e : ((128 ^ (k + 1) : Nat) : Int) ≤ ((128 ^ 9 : Nat) : Int) := by
      have := Nat.pow_le_pow_right (n := 128) (by decide) (show k + 1 ≤ 9 from by omega)
      omega
    have e2 : (128 : Int) ^ (k + 1) ≤ 9223372036854775808 := by simpa using e
    omega

theorem not_bad {k : Nat} {c : Int} (h : badB k c = false) : k = 9 → c = 1 := by
  simp only [badB, decide_eq_false_iff_not] at h
  omega

theorem read_bad {acc c : Int} {k : Nat} {cs : List Int} (h : badB k c = true) : readL acc k (c :: cs) = (0, (k : Int), 12) := by
  rw [readL, if_pos h]
theorem read_last {acc c : Int} {k : Nat} {cs : List Int} (h : badB k c = false) (hc : c < 128) : readL acc k (c :: cs) = (acc + c % 128 * 128 ^ k, (k : Int) + 1, 0) := by
  rw [readL, if_neg (by rw [h]; decide), if_pos hc]
theorem read_more {acc c : Int} {k : Nat} {cs : List Int} (h : badB k c = false) (hc : ¬ c < 128) : readL acc k (c :: cs) = readL (acc + c % 128 * 128 ^ k) (k + 1) cs := by
  rw [readL, if_neg (by rw [h]; decide), if_neg hc]
theorem read_none {acc : Int} {k : Nat} {zs : List Int} (h : ¬ k < zs.length) : readL acc k (zs.drop k) = (0, (k : Int), 11) := by
  rw [List.drop_eq_nil_of_le (by omega)]; rfl

theorem read_word (a : Option Addr) (cap : Nat) (zs : List Int) (w : World) (hr : Ri w .u8 a cap zs) :
    Calls Tryd.prog 80 #[.slice a zs.length cap] w fun e w' => e = .returned (.tuple #[.int .u64 (readL 0 0 zs).1, .int .i64 (readL 0 0 zs).2.1, .int .i64 (readL 0 0 zs).2.2]) ∧ w' = w := by
  have hcap := hr.room
  have hmax := hr.most
  unfold maxLen at hmax
  obtain ⟨len, hlen⟩ : ∃ n, n = zs.length := ⟨_, rfl⟩
  have hcells := hr.cells
  have hlo : ∀ j, 0 ≤ zs.getD j 0 := fun j => (wf_u8 (hr.fits j)).1
  have hhi : ∀ j, zs.getD j 0 ≤ 255 := fun j => (wf_u8 (hr.fits j)).2
  clear hr
  rw [← hlen] at hcells hcap ⊢
  have HL : Hid (len = zs.length) := hlen
  clear hlen
  go_enter Tryd.func80, Tryd.ntmps80
  go_wp2
  go_loop [5, 9] (fun x i => ∃ (k : Nat) (acc : Int), k ≤ len ∧ k ≤ 9 ∧ i = .int .i64 k ∧ x = .int .u64 acc ∧ 0 ≤ acc ∧ acc < 128 ^ k ∧ readL 0 0 zs = readL acc k (zs.drop k)) (fun _ i => len - (intOf i).toNat)
  case atStart => exact ⟨0, 0, by omega, by omega, rfl, rfl, by omega, by simp, rfl⟩
  case round =>
    obtain ⟨k, acc, hk, hk9, rfl, rfl, hacc0, hacc1, hd⟩ := hrel
    by_cases hlt : k < len
    · obtain ⟨b, off, rfl, hbw, hc⟩ := hcells (by omega)
      have hck := hc k hlt
      have hl0 := hlo k
      have hl1 := hhi k
      rw [drop_step zs k (by rw [← HL.out]; exact hlt)] at hd
      generalize zs.getD k 0 = c at *
      have HD : Hid (readL 0 0 zs = readL acc k (c :: zs.drop (k + 1))) := hd
      clear hd hc hlo hhi hcells
      cases hbad : badB k c with
      | true =>
        have hnb : (!badB k c) = false := by rw [hbad]; rfl
        go_wp2_with (go_at_call 90; refine (follows_any _ _ _).mono ?_; rintro e w' ⟨rfl, rfl⟩)
        go_ret3
        exact ⟨ret_three (HD.out.trans (read_bad hbad)), rfl⟩
      | false =>
        have hnb : (!badB k c) = true := by rw [hbad]; rfl
        have hx := read_or acc c k hl0 hl1 hk9 (not_bad hbad) hacc0 hacc1
        by_cases hc128 : c < 128
        · go_wp2_with (go_at_call 90; refine (follows_any _ _ _).mono ?_; rintro e w' ⟨rfl, rfl⟩)
          go_ret3
          exact ⟨ret_three (HD.out.trans (read_last hbad hc128)), rfl⟩
        · have hnx := digit_next acc c k hacc0 hacc1
          have hk8 : k ≠ 9 := fun h => by have := not_bad hbad h; omega
          obtain ⟨acc', hacc'⟩ : ∃ x, x = acc + c % 128 * 128 ^ k := ⟨_, rfl⟩
          rw [← hacc'] at hx hnx
          have HA : Hid (acc' = acc + c % 128 * 128 ^ k) := hacc'
          clear hacc'
          go_wp2_with (go_at_call 90; refine (follows_any _ _ _).mono ?_; rintro e w' ⟨rfl, rfl⟩)
          go_round
          case rel => exact ⟨k + 1, acc', by omega, by omega, by go_num, rfl, hnx.1, hnx.2, by rw [HD.out, read_more hbad (by omega), HA.out]⟩
          case measure => simp [intOf]; omega
    · have hkl : k = len := by omega
      have HD : Hid (readL 0 0 zs = (0, (k : Int), 11)) := hd.trans (read_none (by rw [← HL.out]; exact hlt))
      clear hd
      go_wp2
      go_ret3
      exact ⟨ret_three (by rw [HD.out, hkl]), rfl⟩
end Go.Proofs.YtgnjicpmfpgdeaaDoor
