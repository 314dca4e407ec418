/-
  A record's bytes: the contracts of record's writtenPieces, written, Bytes.
-/
import Derived.Test.YtcbjlnabbfkkeaaRcC
namespace Go.Proofs.Ytcbjlnabbfkkeaa
open Go.ChangeShapes Go.WideShapes Go.ChangeAt Go.RowKit Go.Deep

def pcB (x : Pc) : List Int := vint x.2 ++ x.1
def pcsB (l : List Pc) : List Int := vint (l.length : Int) ++ l.flatMap pcB
theorem vint10 (x : Int) : (vint x).length ≤ 10 := by
  have : ∀ f (y : Int), (vintL f y).length ≤ f + 1 := by
    intro f
    induction f with
    | zero => intro y; unfold vintL; simp
    | succ f ih =>
      intro y
      unfold vintL
      split
      · simp
      · simp only [List.length_cons]; have := ih (y / 128); omega
  exact this 9 x
theorem flat_len (l : List Pc) (h : ∀ x ∈ l, x.1.length = 32) : (l.flatMap pcB).length ≤ 42 * l.length := by
  induction l with
  | nil => simp
  | cons x l ih =>
    have h1 := h x (by simp)
    have h2 := ih (fun y hy => h y (by simp [hy]))
    have := vint10 x.2
    simp only [List.flatMap_cons, List.length_append, List.length_cons, pcB]
    omega
theorem Ri.grown {w w' : World} {kd : IntKind} {a : Option Addr} {cap : Nat} {zs : List Int} {row : Option Nat} (h : Ri w kd a cap zs) (hg : w.grownBy w' row) (hne : ∀ b off, a = some ⟨b, off, none⟩ → some b ≠ row) : Ri w' kd a cap zs := by
  refine ⟨h.room, h.most, fun h0 => ?_, h.fits⟩
  obtain ⟨b, off, ha, hb, hc⟩ := h.cells h0
  have hk : ∀ j, j < zs.length → w'.cell? ⟨b, off + j, none⟩ = some (.int kd (zs.getD j 0)) := fun j hj => hg.cell (hc j hj) (hne b off ha)
  exact ⟨b, off, ha, cell_lt (hk 0 h0), hk⟩
end Go.Proofs.Ytcbjlnabbfkkeaa
