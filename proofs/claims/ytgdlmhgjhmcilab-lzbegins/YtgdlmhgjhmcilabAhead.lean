/-
  The iterator over all places ahead, and the contracts of lz's ahead and Longest.
-/
import Derived.Test.YtgdlmhgjhmcilabLong
namespace Go.Proofs.Ytgdlmhgjhmcilab
open Go.RowKit Go.Shelf Lz
attribute [local go_sem] Oper.semAt_some

/-- Places below q, as such. -/
def fins (q : Nat) (l : List Nat) (h : ∀ p ∈ l, p < q) : List (Fin q) := l.pmap (fun p hp => ⟨p, hp⟩) h
theorem fins_val {q : Nat} {l : List Nat} (h : ∀ p ∈ l, p < q) : (fins q l h).map Fin.val = l := by
  unfold fins; rw [List.map_pmap]; simp
theorem fins_len {q : Nat} {l : List Nat} (h : ∀ p ∈ l, p < q) : (fins q l h).length = l.length := by unfold fins; simp
theorem cons_of_map {q : Nat} {rest : List (Fin q)} {a : Nat} {l : List Nat} (h : rest.map Fin.val = a :: l) : ∃ (x : Fin q) (r : List (Fin q)), rest = x :: r ∧ x.val = a ∧ r.map Fin.val = l := by
  cases rest with
  | nil => cases h
  | cons x r =>
    simp only [List.map_cons, List.cons.injEq] at h
    exact ⟨x, r, rfl, h.1, h.2⟩
theorem nil_of_map {q : Nat} {rest : List (Fin q)} (h : rest.map Fin.val = []) : rest = [] := by
  cases rest with
  | nil => rfl
  | cons x r => cases h
theorem ahead_drop {q j : Nat} (h1 : j < q) (h2 : j < 4096) : (aheadL q).drop j = (q - 1 - j) :: (aheadL q).drop (j + 1) := by
  have hl : j < (aheadL q).length := by simp [aheadL]; omega
  rw [List.drop_eq_getElem_cons hl]
  congr 1
  simp [aheadL]
theorem ahead_out {q j : Nat} (h : q ≤ j ∨ 4096 ≤ j) : (aheadL q).drop j = [] := by
  apply List.drop_eq_nil_of_le
  simp [aheadL]; omega

theorem results_row_tmp {P : Program} {fn : Func} {p u : Tmp} {ty : TypeId} (h : fn.results = #[.cell p ty, .tmp u]) (tmps : Array Value) (w : World) (g : Nat) (v : Value) (hp : tmps.getD p undef = .pointer (some ⟨g, 0, none⟩)) (hl : (loadVar ty ⟨g, 0, none⟩).run P w = .ok v w) :
    (results fn tmps).run P w = .ok (.tuple #[v, tmps.getD u undef]) w := by
  rw [results_cell_tmp h, hp]
  simp [asAddr, hl]

theorem Tb.load {W : World} {B : Nat} {t : Tok} (h : Tb W B t) : (loadVar 34 ⟨B, 0, none⟩).run Try.prog W = .ok (.agg (tokV t)) W :=
  run_loadVar_row W B 34 34 (tokV t) (0, 0) _ h Try.underlying34 rfl (by kernel_rfl)

/-- What Longest tells. -/
def lgO (bs : List Int) (z : Int) : Tok × Int := if 65536 < bs.length then ((0, 0, 0), 2) else if z < 0 ∨ (bs.length : Int) ≤ z then ((0, 0, 0), 5) else (longT bs z.toNat, 0)

end Go.Proofs.Ytgdlmhgjhmcilab
