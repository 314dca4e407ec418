/-
  Plain facts: no code is the beginning of another one's; and what Codes answers.
-/
import Derived.Test.YtgecoiakhmnilabAlive
import Derived.Test.YtgecoiakhmnilabDecMath
import Derived.Test.YtgecoiakhmnilabRefPack
namespace Go.Proofs.Ytgecoiakhmnilab
open Go.RowKit Hf

theorem ri_nil (w : World) (kd : IntKind) : Ri w kd none 0 [] := ⟨Nat.le_refl _, by unfold maxLen; omega, fun h => absurd h (by simp), fun j => by simp; exact wf_zero kd⟩

/-- The codes of lengths; none, if they are no code's. -/
def codesO (zs : List Int) : List Int := if checkB zs then codesL zs else []
theorem codesO_rng (zs : List Int) (j : Nat) : (Lit.int .u16 ((codesO zs).getD j 0)).wf = true := by
  unfold codesO; split
  · exact wf_mk_u16 (codesL_rng zs j).1 (codesL_rng zs j).2
  · simp; exact wf_zero _
def CodesPost (zs : List Int) (w : World) (e : Ending) (w' : World) : Prop :=
  ∃ a cap, e = .returned (.tuple #[.slice a (codesO zs).length cap, .int .i64 (checkF zs)]) ∧ Ri w' .u16 a cap (codesO zs) ∧ Below w.heap.size w w'
theorem codes_w (a : Option Addr) (cap : Nat) (zs : List Int) (w : World) (hr : Ri w .i64 a cap zs) : Calls Try.prog 13 #[.slice a zs.length cap] w (CodesPost zs w) := by
  cases hc : checkB zs with
  | false =>
    refine (codes_no a cap zs w hr hc).mono ?_
    rintro e w' ⟨he, hb⟩
    refine ⟨none, 0, ?_, ?_, hb⟩
    · rw [he]; unfold codesO checkF; rw [hc]; rfl
    · unfold codesO; rw [hc]; exact ri_nil _ _
  | true =>
    refine (codes_word a cap zs w hr hc).mono ?_
    rintro e w' ⟨v, he, ho, hb⟩
    have e1 : codesO zs = codesL zs := by unfold codesO; rw [hc]; rfl
    obtain ⟨a', cap', rfl, hr'⟩ := Ri.own ho (fun j => by rw [← e1]; exact codesO_rng zs j)
    exact ⟨a', cap', by rw [he, e1]; unfold checkF; rw [hc]; rfl, by rw [e1]; exact hr', hb⟩
namespace Hf
theorem first_up (zs : List Int) (l d : Nat) : (first zs l + cnt zs l) * 2 ^ (d + 1) ≤ first zs (l + d + 1) := by
  induction d with
  | zero => rw [first]; simp
  | succ d ih =>
    rw [Nat.pow_succ, ← Nat.mul_assoc, show l + (d + 1) + 1 = (l + d + 1) + 1 from by omega, first]
    exact Nat.mul_le_mul_right 2 (Nat.le_trans ih (Nat.le_add_right _ _))
theorem nB_congr (xs ys : List Bool) : ∀ j, (∀ i, i < j → xs.getD i false = ys.getD i false) → nB xs j = nB ys j
  | 0, _ => rfl
  | j + 1, h => by rw [nB, nB, nB_congr xs ys j (fun i hi => h i (by omega)), h j (by omega)]
theorem apart {zs : List Int} (hc : checkB zs = true) (s t l m : Nat) (hs : s < zs.length) (ht : t < zs.length) (hst : s ≠ t) (h1 : zs.getD s 0 = (l : Int)) (h2 : zs.getD t 0 = (m : Int)) (h0 : 0 < l) (hlm : l ≤ m) (hm : m ≤ 15)
    (h : ∀ i, i < l → (bitsL (codeN zs s) l).getD i false = (bitsL (codeN zs t) m).getD i false) : False := by
  have e := nB_congr _ _ l h
  have c1 := codeN_lt hc s l hs h1 h0 (by omega)
  have c2 := codeN_lt hc t m ht h2 (by omega) hm
  rw [nB_bits _ _ c1 l (Nat.le_refl _), nB_bits _ _ c2 l hlm, Nat.sub_self, Nat.pow_zero, Nat.div_one] at e
  by_cases hlm2 : l = m
  · subst hlm2
    rw [Nat.sub_self, Nat.pow_zero, Nat.div_one] at e
    exact hst (code_inj zs l s t h0 hs ht h1 h2 e)
  · have d1 := codeN_eq zs s l h1
    have d2 := cnt_take_lt zs s l hs h1 h0
    have d3 := codeN_eq zs t m h2
    have d4 := first_up zs l (m - l - 1)
    rw [show m - l - 1 + 1 = m - l from by omega, show l + (m - l - 1) + 1 = m from by omega] at d4
    have d6 : first zs l + cnt zs l ≤ codeN zs t / 2 ^ (m - l) := by
      rw [Nat.le_div_iff_mul_le (Nat.two_pow_pos _)]
      omega
    omega
end Hf
end Go.Proofs.Ytgecoiakhmnilab
