/-
  What Read tells: the number that it tells has, as its varint, just the bytes that were read; with an error it is 0.
-/
import Derived.Test.YtphfcklfgmjboaaRead
namespace Go.Proofs.Ytphfcklfgmjboaa

theorem read_tail (zs : List Int) : ∀ (k : Nat) (acc : Int), k ≤ 9 → 0 ≤ acc → acc < 128 ^ k → (∀ j, 0 ≤ zs.getD j 0 ∧ zs.getD j 0 ≤ 255) →
    ((readL acc k zs).2.2 ≠ 0 ∧ (readL acc k zs).1 = 0) ∨
    ((readL acc k zs).2.2 = 0 ∧ 0 ≤ (readL acc k zs).1 ∧ (readL acc k zs).1 < 18446744073709551616 ∧ ∃ (y : Int) (m : Nat), (readL acc k zs).1 = acc + y * 128 ^ k ∧ (readL acc k zs).2.1 = k + m ∧ 1 ≤ m ∧ m ≤ zs.length ∧ vintL (9 - k) y = zs.take m ∧ 0 ≤ y ∧ (0 < k → 0 < y)) := by
  induction zs with
  | nil => intro k acc _ _ _ _; left; simp [readL]
  | cons c cs ih =>
    intro k acc hk h0 h1 hby
    have hc := hby 0
    simp only [List.getD_cons_zero] at hc
    cases hbad : badB k c with
    | true => left; rw [read_bad hbad]; simp
    | false =>
      have hnb := of_decide_eq_false hbad
      by_cases hlt : c < 128
      · right
        rw [read_last hbad hlt]
        refine ⟨rfl, (digit_next acc c k h0 h1).1, digit_sum acc c k hk (not_bad hbad) h0 h1, c, 1, ?_, rfl, by omega, by simp, ?_, hc.1, fun h => ?_⟩
        · rw [Int.emod_eq_of_lt hc.1 hlt]
        · rw [vint_last _ _ hlt]; simp
        · omega
      · have hk8 : k + 1 ≤ 9 := by
          have := not_bad hbad
          omega
        have hn := digit_next acc c k h0 h1
        have := ih (k + 1) (acc + c % 128 * 128 ^ k) hk8 hn.1 hn.2 (fun j => by have := hby (j + 1); simpa using this)
        rw [read_more hbad hlt]
        rcases this with h | ⟨he, hx0, hx1, y, m, hx, hm, hm1, hm2, hv, hy0, hy1⟩
        · exact Or.inl h
        · right
          have hyp := hy1 (by omega)
          refine ⟨he, hx0, hx1, c % 128 + 128 * y, m + 1, ?_, ?_, by omega, by simp; omega, ?_, by omega, fun _ => by omega⟩
          · rw [hx, Int.pow_succ, Int.add_mul, Int.add_assoc]
            congr 1
            congr 1
            rw [Int.mul_comm (128 ^ k) 128, ← Int.mul_assoc, Int.mul_comm y 128]
          · rw [hm]; omega
          · rw [show 9 - k = (9 - (k + 1)) + 1 from by omega, vint_more _ _ (by omega)]
            rw [show (c % 128 + 128 * y) / 128 = y from by omega, hv, show (c % 128 + 128 * y) % 128 + 128 = c from by omega]
            simp

theorem read_one (zs : List Int) (hby : ∀ j, 0 ≤ zs.getD j 0 ∧ zs.getD j 0 ≤ 255) :
    ((readL 0 0 zs).2.2 ≠ 0 ∧ (readL 0 0 zs).1 = 0) ∨
    ((readL 0 0 zs).2.2 = 0 ∧ 0 ≤ (readL 0 0 zs).1 ∧ (readL 0 0 zs).1 < 18446744073709551616 ∧ ∃ (m : Nat), (readL 0 0 zs).2.1 = m ∧ 1 ≤ m ∧ m ≤ zs.length ∧ vint (readL 0 0 zs).1 = zs.take m) := by
  rcases read_tail zs 0 0 (by omega) (by omega) (by simp) hby with h | ⟨he, hx0, hx1, y, m, hx, hm, hm1, hm2, hv, _, _⟩
  · exact Or.inl h
  · right
    refine ⟨he, hx0, hx1, m, by rw [hm]; omega, hm1, hm2, ?_⟩
    rw [hx, vint, show (0 : Int) + y * 128 ^ 0 = y from by simp]
    exact hv
end Go.Proofs.Ytphfcklfgmjboaa
