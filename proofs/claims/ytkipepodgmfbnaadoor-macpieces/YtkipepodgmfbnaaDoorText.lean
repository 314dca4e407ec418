/-
  The contracts of strings.Builder's copyCheck and WriteByte at this program, and of sha.Text.
-/
import Derived.Test.YtkipepodgmfbnaaDoorStepW
import Derived.Test.YtkipepodgmfbnaaDoorOwn
namespace Go.Proofs.YtkipepodgmfbnaaDoor
open Go.RowKit Sha

/-- The signs of a text. -/
def hexL : List Nat := [48, 49, 50, 51, 52, 53, 54, 55, 56, 57, 97, 98, 99, 100, 101, 102]
def dig (n : Nat) : Nat := hexL.getD n 0
def textN (d : List Nat) : List Nat := d.flatMap fun b => [dig (b / 16), dig (b % 16)]
def bytesU (l : List Nat) : List UInt8 := l.map Nat.toUInt8
theorem dig_lt (n : Nat) : dig n < 256 := by
  by_cases h : n < 16
  · have : ∀ i : Fin 16, dig i.val < 256 := by decide
    exact this ⟨n, h⟩
  · rw [dig, List.getD, List.getElem?_eq_none (by show hexL.length ≤ n; rw [show hexL.length = 16 from rfl]; omega)]
    decide
theorem textN_lt (d : List Nat) : ∀ z ∈ textN d, z < 256 := by
  intro z hz
  simp only [textN, List.mem_flatMap] at hz
  obtain ⟨b, _, hb⟩ := hz
  simp at hb
  rcases hb with rfl | rfl <;> exact dig_lt _
theorem textN_take (d : List Nat) (k : Nat) (hk : k < d.length) : textN (d.take (k + 1)) = textN (d.take k) ++ [dig (d.getD k 0 / 16)] ++ [dig (d.getD k 0 % 16)] := by
  have e : d.take (k + 1) = d.take k ++ [d.getD k 0] := by
    rw [List.take_succ_eq_append_getElem hk]
    simp [List.getD, List.getElem?_eq_getElem hk]
  rw [e, textN, List.flatMap_append]
  simp [textN]
theorem textN_length (d : List Nat) : (textN d).length = 2 * d.length := by
  induction d with
  | nil => rfl
  | cons b d ih => simp [textN] at *; omega

def digB : ByteArray := ⟨#[48, 49, 50, 51, 52, 53, 54, 55, 56, 57, 97, 98, 99, 100, 101, 102]⟩
theorem dig_get (n : Nat) (h : n < (⟨#[48, 49, 50, 51, 52, 53, 54, 55, 56, 57, 97, 98, 99, 100, 101, 102]⟩ : ByteArray).size) : ((⟨#[48, 49, 50, 51, 52, 53, 54, 55, 56, 57, 97, 98, 99, 100, 101, 102]⟩ : ByteArray)[n]'h).toNat = dig n := by
  have : ∀ i : Fin 16, (digB[i.val]'(i.isLt)).toNat = dig i.val := by decide +kernel
  exact this ⟨n, h⟩

theorem Tryd.size26' : (Tryd.prog.info? 26).map (·.size) = some 32 := by kernel_rfl
theorem Tryd.size5 : (Tryd.prog.info? 5).map (·.size) = some 1 := by kernel_rfl

end Go.Proofs.YtkipepodgmfbnaaDoor
