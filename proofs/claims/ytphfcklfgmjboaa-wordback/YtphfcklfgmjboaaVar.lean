/-
  The contracts of word.Varint and the document's Varint: both hand back, in new memory, the varint of x.
-/
import Derived.Test.YtphfcklfgmjboaaTurnRef
namespace Go.Proofs.Ytphfcklfgmjboaa
open Go.RowKit

theorem Try.info5 : (Try.prog.info? 5).map (fun i => (i.zero, i.size, i.bytes)) = some (some (.int .u8 0), 1, 1) := by kernel_rfl

/-- A varint's bytes; of a number below 128 ^ (f + 1) all of them. -/
def vintL : Nat → Int → List Int
  | 0, x => [x]
  | f + 1, x => if x < 128 then [x] else (x % 128 + 128) :: vintL f (x / 128)
def vint (x : Int) : List Int := vintL 9 x

theorem or128 (x : Int) : bits .or .u8 (x % 256) 128 = x % 128 + 128 := by
  have h0 : 0 ≤ x % 256 := by omega
  have h1 : x % 256 < 256 := by omega
  have e : x % 128 = x % 256 % 128 := by omega
  rw [e]
  generalize x % 256 = y at *
  obtain ⟨n, rfl⟩ := Int.eq_ofNat_of_zero_le h0
  rw [show (128 : Int) = ((128 : Nat) : Int) from rfl, u8_or_nat _ _ (by omega) (by omega)]
  have hn : n < 256 := by omega
  have key : ∀ m : Fin 256, (m.val ||| 128) = m.val % 128 + 128 := by decide +kernel
  have := key ⟨n, hn⟩
  simp only at this
  rw [this]
  omega

theorem vint_more (f : Nat) (y : Int) (h : ¬ y < 128) : vintL (f + 1) y = (y % 128 + 128) :: vintL f (y / 128) := by rw [vintL, if_neg h]
theorem vint_last (f : Nat) (y : Int) (h : y < 128) : vintL f y = [y] := by cases f with
  | zero => rfl
  | succ f => rw [vintL, if_pos h]

theorem one_cell (w : World) (o : Obj) (v u : Value) (j : Nat) (ho : o = .cells #[v] 5) (h : [v][j]? = some u) : (w.alloc o).cell? (Addr.add ⟨w.heap.size, 0, none⟩ j) = some u := by
  subst ho
  match j, h with
  | 0, h => simp at h; subst h; simp [Addr.add]

/-- Behind an append of one byte: what is owned, and that all that was there is as it was. -/
theorem own_snoc {B : Nat} {w wr w1 : World} {acc : List Int} {z : Int} {u v : Value} {o : Obj} (hB : B ≤ wr.heap.size)
    (hown : wr.ownsRow B 5 1 u acc.length (acc.map (Value.int .u8))) (hbel : Below B w wr)
    (hown' : w1.ownsRow B 5 1 v (acc.length + 1) (acc.map (Value.int .u8) ++ [.int .u8 z])) (hgrow : (wr.alloc o).grownBy w1 u.ownBlock) :
    w1.ownsRow B 5 1 v (acc ++ [z]).length ((acc ++ [z]).map (Value.int .u8)) ∧ Below B w w1 :=
  ⟨by simpa using hown', (hbel.alloc hB o).grown hgrow (by simp; omega) (fun j hj => (hown.lt j hj).1)⟩

set_option maxHeartbeats 800000 in
set_option maxRecDepth 1000000 in
theorem var_word (x : Int) (w : World) (h0 : 0 ≤ x) (h1 : x < 18446744073709551616) :
    Calls Try.prog 22 #[.int .u64 x] w fun e w' => ∃ v, e = .returned v ∧ w'.ownsRow w.heap.size 5 1 v (vint x).length ((vint x).map (Value.int .u8)) ∧ Below w.heap.size w w' := by
  obtain ⟨i0, hi, hz0, hz1, hz2⟩ := info_parts Try.info5
  go_enter Try.func22, Try.ntmps22
  go_wp2
  go_loopw [0, 3] (fun c v wr => ∃ (f : Nat) (acc : List Int) (y : Int), c = .int .u64 y ∧ 0 ≤ y ∧ y < 18446744073709551616 ∧ y < 128 ^ (f + 1) ∧ acc.length + f = 9 ∧ acc ++ vintL f y = vint x ∧ wr.ownsRow w.heap.size 5 1 v acc.length (acc.map (Value.int .u8)) ∧ Below w.heap.size w wr)
    (fun c _ _ => (intOf c).toNat)
  case atStart => exact ⟨9, [], x, rfl, h0, h1, by omega, rfl, rfl, World.ownsRow_nil _ _ _ _, Below.refl _ _⟩
  case round =>
    obtain ⟨f, acc, y, rfl, hy0, hy1, hyf, hlen, hcat, hown, hbel⟩ := hrel
    have hor := or128 y
    by_cases hy : y < 128
    · go_wp2_with (at_builtin; refine wpList_append_own _ rfl _ _ 30 rfl w.heap.size 5 i0 (.int .u8 0) 1 1 Try.underlying30 hi hz0 hz1 hz2 rfl (by decide) _ _ _ rfl (hown.alloc _) ⟨wr.heap.size, 0, none⟩ 1 1 [.int .u8 y] rfl rfl ?c1 ?c2 ?c3 ?c4 ?c5 ?_)
      case c1 =>
        intro j u hj
        match j, hj with
        | 0, hj => simp at hj; subst hj; simp [Addr.add]
      case c2 => intro u hu; simp at hu; subst hu; rfl
      case c3 => unfold maxLen; omega
      case c4 => omega
      case c5 => have := hbel.size; simp; omega
      intro v' w1 hown' hgrow _
      have R := own_snoc hbel.size hown hbel hown' hgrow
      have hv : acc ++ [y] = vint x := by rw [← hcat, vint_last f y hy]
      rw [hv] at R
      clear hown' hgrow hown hcat
      go_wp2
      go_ret
      exact ⟨_, rfl, R.1, R.2⟩
    · obtain ⟨g, rfl⟩ : ∃ g, f = g + 1 := by
        cases f with
        | zero => omega
        | succ g => exact ⟨g, rfl⟩
      have hcat' : (acc ++ [y % 128 + 128]) ++ vintL g (y / 128) = vint x := by rw [← hcat, vint_more g y hy]; simp
      have hyg : y / 128 < 128 ^ (g + 1) := by
        rw [Int.ediv_lt_iff_lt_mul (by decide), ← Int.pow_succ]; exact hyf
      clear hcat hyf
      go_wp2_with (at_builtin; refine wpList_append_own _ rfl _ _ 30 rfl w.heap.size 5 i0 (.int .u8 0) 1 1 Try.underlying30 hi hz0 hz1 hz2 rfl (by decide) _ _ _ rfl (hown.alloc _) ⟨wr.heap.size, 0, none⟩ 1 1 [.int .u8 (y % 128 + 128)] rfl rfl ?d1 ?d2 ?d3 ?d4 ?d5 ?_)
      case d2 => rfl
      case d3 => unfold maxLen; omega
      case d4 => omega
      case d5 => have := hbel.size; simp; omega
      intro v' w1 hown' hgrow _
      have R := own_snoc hbel.size hown hbel hown' hgrow
      clear hown' hgrow hown
      go_wp2
      go_roundw
      case rel => exact ⟨g, acc ++ [y % 128 + 128], y / 128, rfl, by omega, by omega, hyg, by simp; omega, hcat', R.1, R.2⟩
      case measure => simp [intOf]; omega
set_option maxHeartbeats 800000 in
set_option maxRecDepth 1000000 in
theorem var_ref (x : Int) (w : World) (h0 : 0 ≤ x) (h1 : x < 18446744073709551616) :
    Calls Try.prog 23 #[.int .u64 x] w fun e w' => ∃ v, e = .returned v ∧ w'.ownsRow w.heap.size 5 1 v (vint x).length ((vint x).map (Value.int .u8)) ∧ Below w.heap.size w w' := by
  obtain ⟨i0, hi, hz0, hz1, hz2⟩ := info_parts Try.info5
  go_enter Try.func23, Try.ntmps23
  go_wp2
  go_loopw [0, 3] (fun c v wr => ∃ (f : Nat) (acc : List Int) (y : Int), c = .int .u64 y ∧ 0 ≤ y ∧ y < 18446744073709551616 ∧ y < 128 ^ (f + 1) ∧ acc.length + f = 9 ∧ acc ++ vintL f y = vint x ∧ wr.ownsRow w.heap.size 5 1 v acc.length (acc.map (Value.int .u8)) ∧ Below w.heap.size w wr)
    (fun c _ _ => (intOf c).toNat)
  case atStart => exact ⟨9, [], x, rfl, h0, h1, by omega, rfl, rfl, World.ownsRow_nil _ _ _ _, Below.refl _ _⟩
  case round =>
    obtain ⟨f, acc, y, rfl, hy0, hy1, hyf, hlen, hcat, hown, hbel⟩ := hrel
    by_cases hy : y < 128
    · go_wp2_with (at_builtin; refine wpList_append_own _ rfl _ _ 30 rfl w.heap.size 5 i0 (.int .u8 0) 1 1 Try.underlying30 hi hz0 hz1 hz2 rfl (by decide) _ _ _ rfl (hown.alloc _) ⟨wr.heap.size, 0, none⟩ 1 1 [.int .u8 y] rfl rfl ?c1 ?c2 ?c3 ?c4 ?c5 ?_)
      case c1 =>
        intro j u hj
        match j, hj with
        | 0, hj => simp at hj; subst hj; simp [Addr.add]
      case c2 => intro u hu; simp at hu; subst hu; rfl
      case c3 => unfold maxLen; omega
      case c4 => omega
      case c5 => have := hbel.size; simp; omega
      intro v' w1 hown' hgrow _
      have R := own_snoc hbel.size hown hbel hown' hgrow
      have hv : acc ++ [y] = vint x := by rw [← hcat, vint_last f y hy]
      rw [hv] at R
      clear hown' hgrow hown hcat
      go_wp2
      go_ret
      exact ⟨_, rfl, R.1, R.2⟩
    · obtain ⟨g, rfl⟩ : ∃ g, f = g + 1 := by
        cases f with
        | zero => omega
        | succ g => exact ⟨g, rfl⟩
      have hcat' : (acc ++ [y % 128 + 128]) ++ vintL g (y / 128) = vint x := by rw [← hcat, vint_more g y hy]; simp
      have hyg : y / 128 < 128 ^ (g + 1) := by
        rw [Int.ediv_lt_iff_lt_mul (by decide), ← Int.pow_succ]; exact hyf
      clear hcat hyf
      go_wp2_with (at_builtin; refine wpList_append_own _ rfl _ _ 30 rfl w.heap.size 5 i0 (.int .u8 0) 1 1 Try.underlying30 hi hz0 hz1 hz2 rfl (by decide) _ _ _ rfl (hown.alloc _) ⟨wr.heap.size, 0, none⟩ 1 1 [.int .u8 (y % 128 + 128)] rfl rfl ?d1 ?d2 ?d3 ?d4 ?d5 ?_)
      case d2 => rfl
      case d3 => unfold maxLen; omega
      case d4 => omega
      case d5 => have := hbel.size; simp; omega
      intro v' w1 hown' hgrow _
      have R := own_snoc hbel.size hown hbel hown' hgrow
      clear hown' hgrow hown
      go_wp2
      go_roundw
      case rel => exact ⟨g, acc ++ [y % 128 + 128], y / 128, rfl, by omega, by omega, hyg, by simp; omega, hcat', R.1, R.2⟩
      case measure => simp [intOf]; omega
end Go.Proofs.Ytphfcklfgmjboaa
