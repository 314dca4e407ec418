/-
  The contract of the document's Tokens.
-/
import Derived.Test.YtgdlmhgjhmcilabAlike
namespace Go.Proofs.Ytgdlmhgjhmcilab
open Go.RowKit Go.Shelf Lz Go.ChangeShapes Go.WideShapes

def tokC (t : Tok) : List Value := [.int .i64 (t.1 : Int), .int .i64 (t.2.1 : Int), .int .u8 t.2.2]
theorem tokC_len (l : List Tok) : (l.flatMap tokC).length = l.length * 3 := by
  induction l with
  | nil => rfl
  | cons t l ih => rw [List.flatMap_cons, List.length_append, ih]; simp [tokC]; omega
theorem tokC_one (t : Tok) : ∀ u ∈ tokC t, u.oneCell' = true := by
  intro u hu
  simp [tokC] at hu
  rcases hu with rfl | rfl | rfl <;> rfl
theorem tokC_snoc (l : List Tok) (t : Tok) : (l ++ [t]).flatMap tokC = l.flatMap tokC ++ tokC t := by simp

/-- What Tokens tells. -/
def tksO (bs : List Int) : List Tok × Int := if 65536 < bs.length then ([], 2) else (toksL bs, 0)
def TksPost (bs : List Int) (w : World) (e : Ending) (w' : World) : Prop :=
  ∃ v, e = .returned (.tuple #[v, .int .i64 (tksO bs).2]) ∧ w'.ownsRow w.heap.size 34 3 v (tksO bs).1.length ((tksO bs).1.flatMap tokC) ∧ Below w.heap.size w w'

theorem Try.info34 : (Try.prog.info? 34).map (fun i => (i.zero, i.size, i.bytes)) = some (some (.agg #[.int .i64 0, .int .i64 0, .int .u8 0]), 3, 24) := by kernel_rfl
theorem nil_row (w : World) (base : Nat) : w.ownsRow base 34 3 (.slice none 0 0) 0 [] := ⟨rfl, .inl ⟨rfl, rfl⟩⟩
theorem tok_new (w : World) (t : Tok) (j : Nat) (u : Value) (h : (tokC t)[j]? = some u) : (w.alloc (.cells (tokV t) 34)).cell? ((⟨w.heap.size, 0, none⟩ : Addr).add j) = some u := by
  have e := Joins.cell_of_block (heap_new w (.cells (tokV t) 34)) j
  rw [add_plain, Nat.zero_add, e]
  unfold tokV tokC at *
  rw [List.getElem?_toArray]
  exact h

theorem own_later {w w' : World} {base : Nat} {e : TypeId} {size : Nat} {v : Value} {n : Nat} {xs : List Value} (h : w.ownsRow base e size v n xs) (hb : Below w.heap.size w w') : w'.ownsRow base e size v n xs :=
  h.kept (grown_of_below hb) (by cases v.ownBlock <;> simp)

theorem own_block {w : World} {base : Nat} {e : TypeId} {size : Nat} {v : Value} {n : Nat} {xs : List Value} (h : w.ownsRow base e size v n xs) : ∀ g, v.ownBlock = some g → base ≤ g ∧ g < w.heap.size := by
  intro g hg
  rcases h.2 with ⟨rfl, _⟩ | ⟨g', cap, cur, rfl, hb, hh, _⟩
  · cases hg
  · simp only [Value.ownBlock, Option.some.injEq] at hg
    subst hg
    exact ⟨hb, (Array.getElem?_eq_some_iff.1 hh).1⟩

end Go.Proofs.Ytgdlmhgjhmcilab
