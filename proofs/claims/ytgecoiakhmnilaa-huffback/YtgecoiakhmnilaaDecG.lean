/-
  The symbols of bits: how a walk goes on, and what both Decodes answer.
-/
import Derived.Test.YtgecoiakhmnilaaByLen
namespace Go.Proofs.Ytgecoiakhmnilaa
open Go.RowKit Hf

namespace Hf
def joinD (ys : List Int) (r : List Int × Int × Int) : List Int × Int × Int := (if r.2.2 = 0 then ys ++ r.1 else [], r.2.1, r.2.2)
theorem joinD_nil (r : List Int × Int × Int) (h : r.2.2 ≠ 0 → r.1 = []) : joinD [] r = r := by
  unfold joinD
  by_cases hr : r.2.2 = 0
  · rw [if_pos hr]; simp
  · rw [if_neg hr]
    have := h hr
    obtain ⟨a, b, c⟩ := r
    simp at this ⊢; exact this
theorem decG_err (zs b : List Int) : ∀ (f n at' : Nat), (decG zs b f n at').2.2 ≠ 0 → (decG zs b f n at').1 = []
  | 0, _, _, _ => rfl
  | _ + 1, 0, _, h => absurd rfl h
  | f + 1, n + 1, at', h => by
    rw [decG] at h ⊢
    by_cases hc : (oneF zs b at').1 < 0
    · rw [if_pos hc]
    · rw [if_neg hc] at h ⊢
      exact if_neg h
theorem joinD_step (zs b ys : List Int) (f n at' : Nat) (h : ¬ (oneF zs b at').1 < 0) : joinD ys (decG zs b (f + 1) (n + 1) at') = joinD (ys ++ [(oneF zs b at').1]) (decG zs b f n (at' + (oneF zs b at').2.toNat)) := by
  rw [decG, if_neg h]
  unfold joinD
  by_cases hr : (decG zs b f n (at' + (oneF zs b at').2.toNat)).2.2 = 0
  · simp [hr]
  · simp [hr]
theorem joinD_stop (zs b ys : List Int) (f n at' : Nat) (h : (oneF zs b at').1 < 0) : joinD ys (decG zs b (f + 1) (n + 1) at') = ([], (at' : Int), 52) := by
  rw [decG, if_pos h]; rfl
theorem joinD_end (zs b ys : List Int) (f at' : Nat) : joinD ys (decG zs b (f + 1) 0 at') = (ys, (at' : Int), 0) := by
  rw [decG]; unfold joinD; simp
/-- Every symbol is a number of the code's. -/
theorem oneG_rng (zs b : List Int) (at' : Nat) (hl : zs.length ≤ 512) : ∀ f l, -1 ≤ (oneG zs b at' f l).1 ∧ (oneG zs b at' f l).1 < 512
  | 0, _ => by rw [oneG]; omega
  | f + 1, l => by
    rw [oneG]
    split
    · cases hw : who zs l (vb b at' l) with
      | none => exact oneG_rng zs b at' hl f (l + 1)
      | some s =>
        have h2 := List.mem_of_find?_eq_some hw
        rw [List.mem_range] at h2
        show -1 ≤ (s : Int) ∧ (s : Int) < 512
        omega
    · omega
theorem oneF_rng (zs b : List Int) (at' : Nat) (hl : zs.length ≤ 512) : -1 ≤ (oneF zs b at').1 ∧ (oneF zs b at').1 < 512 := oneG_rng zs b at' hl 16 1
/-- What Decode answers. -/
def decO (zs b : List Int) (n : Int) : List Int × Int × Int :=
  if !checkB zs then ([], 0, 51) else if n < 0 then ([], 0, 1) else decG zs b (8 * b.length + 1) n.toNat 0
/-- Where a walk stands: the symbols so far, and the place. -/
structure At (zs b : List Int) (n : Nat) (ys : List Int) (at' : Nat) : Prop where
  most : ys.length ≤ at'
  room : at' ≤ 8 * b.length
  few : ys.length ≤ n
  low : ∀ j, 0 ≤ ys.getD j 0 ∧ ys.getD j 0 < 512
  eq : decG zs b (8 * b.length + 1) n 0 = joinD ys (decG zs b (8 * b.length + 1 - ys.length) (n - ys.length) at')
theorem At.start (zs b : List Int) (n : Nat) : At zs b n [] 0 :=
  ⟨by simp, by omega, by simp, fun j => by simp, by rw [joinD_nil _ (decG_err zs b _ _ _)]; rfl⟩
theorem At.step {zs b ys : List Int} {n at' s l : Nat} (h : At zs b n ys at') (hn : ys.length < n) (h1 : oneF zs b at' = ((s : Int), (l : Int))) (hs : s < 512) (hl : 0 < l) (hr : at' + l ≤ 8 * b.length) : At zs b n (ys ++ [(s : Int)]) (at' + l) := by
  have hm := h.most
  have e := h.eq
  rw [show 8 * b.length + 1 - ys.length = (8 * b.length + 1 - (ys ++ [(s : Int)]).length) + 1 from by rw [List.length_append, List.length_singleton]; omega, show n - ys.length = (n - (ys ++ [(s : Int)]).length) + 1 from by rw [List.length_append, List.length_singleton]; omega, joinD_step _ _ _ _ _ _ (by rw [h1]; simp), h1] at e
  refine ⟨by rw [List.length_append, List.length_singleton]; omega, hr, by rw [List.length_append, List.length_singleton]; omega, fun j => ?_, e⟩
  have hlo := h.low j
  rcases Nat.lt_trichotomy j ys.length with hj | hj | hj
  · rw [List.getD_eq_getElem?_getD, List.getElem?_append_left hj, ← List.getD_eq_getElem?_getD]; exact hlo
  · rw [hj, List.getD_eq_getElem?_getD, List.getElem?_append_right (Nat.le_refl _), Nat.sub_self]; show 0 ≤ (s : Int) ∧ (s : Int) < 512; omega
  · rw [List.getD_eq_getElem?_getD, List.getElem?_eq_none (by simp; omega)]; simp
theorem At.stop {zs b ys : List Int} {n at' : Nat} (h : At zs b n ys at') (hn : ys.length < n) (h1 : (oneF zs b at').1 < 0) : decG zs b (8 * b.length + 1) n 0 = ([], (at' : Int), 52) := by
  have hm := h.most
  have hr := h.room
  have e := h.eq
  rw [show 8 * b.length + 1 - ys.length = (8 * b.length - ys.length) + 1 from by omega, show n - ys.length = (n - ys.length - 1) + 1 from by omega, joinD_stop _ _ _ _ _ _ h1] at e
  exact e
theorem At.done {zs b ys : List Int} {n at' : Nat} (h : At zs b n ys at') (hn : ys.length = n) : decG zs b (8 * b.length + 1) n 0 = (ys, (at' : Int), 0) := by
  have hm := h.most
  have hr := h.room
  have e := h.eq
  rw [show 8 * b.length + 1 - ys.length = (8 * b.length - ys.length) + 1 from by omega, show n - ys.length = 0 from by omega, joinD_end] at e
  exact e
end Hf

/-- What Decode answers, of both. -/
def DecPost (zs b : List Int) (n : Int) (w : World) (e : Ending) (w' : World) : Prop :=
  ∃ a cap, e = .returned (.tuple #[.slice a (decO zs b n).1.length cap, .int .i64 (decO zs b n).2.1, .int .i64 (decO zs b n).2.2]) ∧ Ri w' .i64 a cap (decO zs b n).1 ∧ Below w.heap.size w w'
theorem dec_no {zs b : List Int} {n : Int} {w w' : World} (x c : Int) (h : decO zs b n = ([], x, c)) (hb : Below w.heap.size w w') : DecPost zs b n w (.returned (.tuple #[.slice none 0 0, .int .i64 x, .int .i64 c])) w' :=
  ⟨none, 0, by rw [h]; rfl, by rw [h]; exact ri_nil _ _, hb⟩
theorem dec_yes {zs b ys : List Int} {n : Int} {w w' : World} {v : Value} {B : Nat} (x : Int) (h : decO zs b n = (ys, x, 0)) (hf : ∀ j, 0 ≤ ys.getD j 0 ∧ ys.getD j 0 < 512) (ho : w'.ownsRow B 3 1 v ys.length (ys.map (Value.int .i64))) (hb : Below w.heap.size w w') : DecPost zs b n w (.returned (.tuple #[v, .int .i64 x, .int .i64 0])) w' := by
  obtain ⟨a', cap', rfl, hr'⟩ := Ri.own ho (fun j => wf_mk_i64 (by have := (hf j).1; omega) (by have := (hf j).2; omega))
  exact ⟨a', cap', by rw [h], by rw [h]; exact hr', hb⟩

theorem one_new (w : World) (x : Value) (t : TypeId) : ∀ (j : Nat) (u : Value), [x][j]? = some u → (w.alloc (.cells #[x] t)).cell? ((⟨w.heap.size, 0, none⟩ : Addr).add j) = some u := by
  intro j u hj
  match j, hj with
  | 0, hj => simp at hj; subst hj; rw [Go.WideShapes.add_plain]; simp
theorem one_cellI (k : IntKind) (x : Int) : ∀ u ∈ [Value.int k x], u.oneCell' = true := by
  intro u hu; simp at hu; subst hu; rfl
end Go.Proofs.Ytgecoiakhmnilaa
