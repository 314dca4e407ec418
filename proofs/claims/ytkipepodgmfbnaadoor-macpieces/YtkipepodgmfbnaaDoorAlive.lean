/-
  The contract of the statements' 'alive': it returns true where the program's tables are as they were laid.
-/
import Derived.Test.YtkipepodgmfbnaaDoorDigest
import Derived.Test.YtkipepodgmfbnaaDoorText
namespace Go.Proofs.YtkipepodgmfbnaaDoor
open Go.RowKit Sha

/-- A new row of bytes. -/
theorem Rd.fresh (w : World) (C : Array Value) (fr : Nat × Nat) (zs : List Nat) (n g : Nat) (hg : g = w.heap.size) (hn : zs.length = n) (hm : n ≤ maxLen) (hC : C = (zs.map fun z : Nat => Value.int .u8 (z : Int)).toArray) (hz : ∀ z ∈ zs, z < 256) :
    Rd (w.alloc (.cells C 5 fr)) (.slice (some ⟨g, 0, none⟩) n n) (some ⟨g, 0, none⟩) n zs := by
  subst hg hn
  refine ⟨rfl, Nat.le_refl _, hm, fun _ => ⟨w.heap.size, 0, rfl, by simp, fun j hj => ?_⟩, (all_lt zs).2 hz, fun h => by cases h⟩
  rw [Nat.zero_add, World.cell?_alloc_mark, hC]
  simp [List.getD, List.getElem?_eq_getElem hj]

/-- Two rows as a new list of rows. -/
theorem Ps.two {w : World} {v1 v2 : Value} {a1 a2 : Option Addr} {c1 c2 : Nat} {z1 z2 : List Nat} (h1 : Rd w v1 a1 c1 z1) (h2 : Rd w v2 a2 c2 z2) (g : Nat) (hg : g = w.heap.size) :
    Ps (w.alloc (.cells #[v1, v2] 22)) (some ⟨g, 0, none⟩) 2 [z1, z2] := by
  subst hg
  have hb := bel_alloc w (.cells #[v1, v2] 22)
  refine ⟨Nat.le_refl _, by unfold maxLen; omega, fun _ => ⟨w.heap.size, 0, rfl, by simp, fun j hj => ?_⟩⟩
  have hc := World.cell?_alloc_mark w #[v1, v2] 22 (0, 0)
  match j, hj with
  | 0, _ => exact ⟨v1, a1, c1, hc 0, h1.later hb⟩
  | 1, _ => exact ⟨v2, a2, c2, hc 1, h2.later hb⟩

theorem digest_lt (l : List Nat) : ∀ j, (digest l).getD j 0 < 256 := by
  rw [digest]
  generalize blocks _ _ _ = s
  intro j
  by_cases hj : j < 32
  · rw [bytes_get s j hj]; exact Nat.mod_lt _ (by decide)
  · rw [List.getD, List.getElem?_eq_none (by rw [bytes_length]; omega)]; decide

end Go.Proofs.YtkipepodgmfbnaaDoor
