/-
  The contract of the document's Pad: the padding, in new memory.
-/
import Derived.Test.YtkipepodgmfbnabDoorSmall
import Derived.Laws.AppendOwn
namespace Go.Proofs.YtkipepodgmfbnabDoor
open Go.RowKit Sha

theorem Tryd.info5 : (Tryd.prog.info? 5).map (fun i => (i.zero, i.size, i.bytes)) = some (some (.int .u8 0), 1, 1) := by kernel_rfl

/-- Bytes as cells. -/
def V (l : List Nat) : List Value := l.map (fun z : Nat => Value.int .u8 (z : Int))

theorem V_length (l : List Nat) : (V l).length = l.length := by simp [V]
theorem V_snoc (l : List Nat) (z : Nat) : V l ++ [.int .u8 (z : Int)] = V (l ++ [z]) := by simp [V]

def slen : Value → Nat
  | .slice _ n _ => n
  | _ => 0
theorem slen_own {w : World} {B e n : Nat} {v : Value} {xs : List Value} (h : w.ownsRow B e 1 v n xs) : slen v = n := by
  rcases h.2 with ⟨rfl, rfl⟩ | ⟨g, cap, cur, rfl, _⟩
  · rfl
  · rfl

theorem own_first (w : World) (z : Nat) : (w.alloc (.cells #[.int .u8 (z : Int)] 5)).ownsRow w.heap.size 5 1 (.slice (some ⟨w.heap.size, 0, none⟩) 1 1) 1 (V [z]) :=
  ⟨rfl, Or.inr ⟨w.heap.size, 1, #[.int .u8 (z : Int)], rfl, Nat.le_refl _, heap_new w _, Nat.le_refl _, by unfold maxLen; omega, rfl, rfl⟩⟩

theorem one_new (w : World) (v : Value) : ∀ (j : Nat) (u : Value), [v][j]? = some u → (w.alloc (.cells #[v] 5)).cell? (Addr.add ⟨w.heap.size, 0, none⟩ j) = some u := by
  intro j u h
  match j, h with
  | 0, h => simp at h; subst h; simp [Addr.add]

theorem one_cell (z : Int) : ∀ u ∈ [Value.int .u8 z], u.oneCell' = true := by
  intro u hu
  simp at hu
  subst hu
  rfl

def zeroes (n : Nat) : Nat := (119 - n % 64) % 64
theorem more_zeroes (n z : Nat) (hz : z ≤ zeroes n) : (n % 64 + (z + 1) + 8) % 64 = 0 ↔ z = zeroes n := by
  unfold zeroes at *; omega
def tailL (n i : Nat) : List Nat := (List.range i).map fun i => (8 * n) % 2 ^ 64 / 256 ^ (7 - i) % 256
theorem tailL_succ (n i : Nat) : tailL n (i + 1) = tailL n i ++ [(8 * n) % 2 ^ 64 / 256 ^ (7 - i) % 256] := by
  rw [tailL, List.range_succ, List.map_append]; rfl
theorem tailL_length (n i : Nat) : (tailL n i).length = i := by simp [tailL]
/-- The number of which i bytes went out: its i lowest bytes are gone round. -/
def outX (n i : Nat) : Nat := (8 * n) % 2 ^ 64 * 256 ^ i % 2 ^ 64

theorem outX_succ (n i : Nat) : outX n i * 256 % 2 ^ 64 = outX n (i + 1) := by
  unfold outX
  rw [Nat.mod_mul_mod, Nat.mul_assoc, ← Nat.pow_succ]
theorem outX_byte (n i : Nat) (hi : i < 8) : outX n i / 72057594037927936 = (8 * n) % 2 ^ 64 / 256 ^ (7 - i) % 256 := by
  unfold outX
  generalize (8 * n) % 2 ^ 64 = x
  have hp : (2 : Nat) ^ 64 = 256 ^ (8 - i) * 256 ^ i := by rw [← Nat.pow_add, show 8 - i + i = 8 from by omega]
  have hq : (72057594037927936 : Nat) = 256 ^ (7 - i) * 256 ^ i := by rw [← Nat.pow_add, show 7 - i + i = 7 from by omega]
  have h8 : (256 : Nat) ^ (8 - i) = 256 ^ (7 - i) * 256 := by rw [← Nat.pow_succ, show (7 - i).succ = 8 - i from by omega]
  have hpos : 0 < 256 ^ i := Nat.pow_pos (by decide)
  rw [hp, Nat.mul_mod_mul_right, hq, Nat.mul_div_mul_right _ _ hpos, h8, Nat.mod_mul_right_div_self]
theorem outX_lt (n i : Nat) : outX n i < 2 ^ 64 := Nat.mod_lt _ (by decide)
theorem outX_start (n : Nat) : IntKind.u64.wrap ((n : Int) * 8) = ((outX n 0 : Nat) : Int) := by
  rw [IntKind.wrap_u64]; unfold outX; rw [Nat.pow_zero, Nat.mul_one, Nat.mod_mod]; omega
theorem pad_parts (n : Nat) : pad n = 128 :: List.replicate (zeroes n) 0 ++ tailL n 8 := rfl

end Go.Proofs.YtkipepodgmfbnabDoor
