/-
  The contract of the document's Pad: the padding, in new memory.
-/
import Derived.Test.YtpbaacplgohniaaDoorShSmall
import Derived.Laws.AppendOwn
namespace Go.Proofs.YtpbaacplgohniaaDoor.Sh
open Go.RowKit Sha

theorem Tryd.info5 : (Tryd.prog.info? 5).map (fun i => (i.zero, i.size, i.bytes)) = some (some (.int .u8 0), 1, 1) := by kernel_rfl

/-- Bytes as cells. -/
def V (l : List Nat) : List Value := l.map (fun z : Nat => Value.int .u8 (z : Int))

theorem V_length (l : List Nat) : (V l).length = l.length := by simp [V]
theorem V_snoc (l : List Nat) (z : Nat) : V l ++ [.int .u8 (z : Int)] = V (l ++ [z]) := by simp [V]

def slen : Value → Nat
  | .slice _ n _ => n
  | _ => 0
theorem slen_own {w : World} {B e n : Nat} {v : Value} {xs : List Value} (h : w.ownsRow B e 1 v n xs) : slen v = n := by
  rcases h.2 with ⟨rfl, rfl⟩ | ⟨g, cap, cur, rfl, _⟩
  · rfl
  · rfl

theorem own_first (w : World) (z : Nat) : (w.alloc (.cells #[.int .u8 (z : Int)] 5)).ownsRow w.heap.size 5 1 (.slice (some ⟨w.heap.size, 0, none⟩) 1 1) 1 (V [z]) :=
  ⟨rfl, Or.inr ⟨w.heap.size, 1, #[.int .u8 (z : Int)], rfl, Nat.le_refl _, heap_new w _, Nat.le_refl _, by unfold maxLen; omega, rfl, rfl⟩⟩

theorem one_new (w : World) (v : Value) : ∀ (j : Nat) (u : Value), [v][j]? = some u → (w.alloc (.cells #[v] 5)).cell? (Addr.add ⟨w.heap.size, 0, none⟩ j) = some u := by
  intro j u h
  match j, h with
  | 0, h => simp at h; subst h; simp [Addr.add]

theorem one_cell (z : Int) : ∀ u ∈ [Value.int .u8 z], u.oneCell' = true := by
  intro u hu
  simp at hu
  subst hu
  rfl

def zeroes (n : Nat) : Nat := (119 - n % 64) % 64
theorem more_zeroes (n z : Nat) (hz : z ≤ zeroes n) : (n % 64 + (z + 1) + 8) % 64 = 0 ↔ z = zeroes n := by
  unfold zeroes at *; omega
def tailL (n i : Nat) : List Nat := (List.range i).map fun i => (8 * n) % 2 ^ 64 / 256 ^ (7 - i) % 256
theorem tailL_succ (n i : Nat) : tailL n (i + 1) = tailL n i ++ [(8 * n) % 2 ^ 64 / 256 ^ (7 - i) % 256] := by
  rw [tailL, List.range_succ, List.map_append]; rfl
theorem tailL_length (n i : Nat) : (tailL n i).length = i := by simp [tailL]
/-- The number of which i bytes went out: its i lowest bytes are gone round. -/
def outX (n i : Nat) : Nat := (8 * n) % 2 ^ 64 * 256 ^ i % 2 ^ 64

theorem outX_succ (n i : Nat) : outX n i * 256 % 2 ^ 64 = outX n (i + 1) := by
  unfold outX
  rw [Nat.mod_mul_mod, Nat.mul_assoc, ← Nat.pow_succ]
theorem outX_byte (n i : Nat) (hi : i < 8) : outX n i / 72057594037927936 = (8 * n) % 2 ^ 64 / 256 ^ (7 - i) % 256 := by
  unfold outX
  generalize (8 * n) % 2 ^ 64 = x
  have hp : (2 : Nat) ^ 64 = 256 ^ (8 - i) * 256 ^ i := by rw [← Nat.pow_add, show 8 - i + i = 8 from by omega]
  have hq : (72057594037927936 : Nat) = 256 ^ (7 - i) * 256 ^ i := by rw [← Nat.pow_add, show 7 - i + i = 7 from by omega]
  have h8 : (256 : Nat) ^ (8 - i) = 256 ^ (7 - i) * 256 := by rw [← Nat.pow_succ, show (7 - i).succ = 8 - i from by omega]
  have hpos : 0 < 256 ^ i := Nat.pow_pos (by decide)
  rw [hp, Nat.mul_mod_mul_right, hq, Nat.mul_div_mul_right _ _ hpos, h8, Nat.mod_mul_right_div_self]
theorem outX_lt (n i : Nat) : outX n i < 2 ^ 64 := Nat.mod_lt _ (by decide)
theorem outX_start (n : Nat) : IntKind.u64.wrap ((n : Int) * 8) = ((outX n 0 : Nat) : Int) := by
  rw [IntKind.wrap_u64]; unfold outX; rw [Nat.pow_zero, Nat.mul_one, Nat.mod_mod]; omega
theorem pad_parts (n : Nat) : pad n = 128 :: List.replicate (zeroes n) 0 ++ tailL n 8 := rfl

set_option maxHeartbeats 1600000 in
theorem pad_ref (n : Nat) (w : World) (hn : n < 2 ^ 64) :
    Calls Tryd.prog 71 #[.int .u64 (n : Int)] w fun e w' => ∃ v, e = .returned v ∧ w'.ownsRow w.heap.size 5 1 v (pad n).length (V (pad n)) ∧ Below w.heap.size w w' := by
  obtain ⟨i0, hi, hz0, hz1, hz2⟩ := info_parts Tryd.info5
  have O1 := own_first w 128
  have B1 := bel_alloc w (.cells #[.int .u8 ((128 : Nat) : Int)] 5)
  have hzl : zeroes n < 64 := Nat.mod_lt _ (by decide)
  go_enter Tryd.func71, Tryd.ntmps71
  go_wp2_with fail
  rw [show (128 : Int) = ((128 : Nat) : Int) from rfl]
  generalize w.alloc (.cells #[.int .u8 ((128 : Nat) : Int)] 5) = w1 at *
  go_loopw [3] (fun v wr => ∃ z : Nat, z ≤ zeroes n ∧ wr.ownsRow w.heap.size 5 1 v (z + 1) (V (128 :: List.replicate z 0)) ∧ Below w.heap.size w wr) (fun v _ => 64 - slen v)
  case atStart => exact ⟨0, by omega, O1, B1⟩
  case round =>
    obtain ⟨z, hz, hown, hbel⟩ := hrel
    obtain ⟨g, cap, rfl⟩ := Joins.ownsRow_form hown (by omega)
    have hmz := more_zeroes n z hz
    by_cases hze : z = zeroes n
    · have hc : (((n : Int) % 64 + ((z : Int) + 1) + 8) % 64 != 0) = false := by
        have := hmz.2 hze
        simp
        omega
      have HX0 := hid (outX_start n)
      have hl0 : (V (128 :: List.replicate z 0 ++ tailL n 0)) = V (128 :: List.replicate z 0) := by simp [tailL]
      rw [← hl0] at hown
      have HOW := hid hown
      have HZE := hid hze
      clear hown hmz O1 hl0 hze
      go_wp2_with fail
      rw [HX0.out]
      go_loopw [3, 4, 5] (fun v x i wr => ∃ j : Nat, j ≤ 8 ∧ i = .int .i64 j ∧ x = .int .u64 ((outX n j : Nat) : Int) ∧ wr.ownsRow w.heap.size 5 1 v (z + 1 + j) (V (128 :: List.replicate z 0 ++ tailL n j)) ∧ Below w.heap.size w wr) (fun _ _ i _ => 8 - (intOf i).toNat)
      case atStart => exact ⟨0, by omega, rfl, rfl, HOW.out, hbel⟩
      case round =>
        obtain ⟨j, hj, rfl, rfl, hown, hbel⟩ := hrel
        by_cases hlt : j < 8
        · have hj8 : (j : Int) < 8 := by omega
          have HBY := hid (outX_byte n j hlt)
          have HSU := hid (outX_succ n j)
          have hol := outX_lt n j
          have HTL := hid (tailL_succ n j)
          have hby : outX n j / 72057594037927936 < 256 := by omega
          have HI : Hid ((outX n j : Int) / 72057594037927936 = ((outX n j / 72057594037927936 : Nat) : Int)) := by
            show _ = _
            omega
          generalize outX n j = x at *
          go_wp2_with (at_builtin; refine wpList_append_own _ rfl _ _ 29 rfl w.heap.size 5 i0 (.int .u8 0) 1 1 Tryd.underlying29 hi hz0 hz1 hz2 rfl (by decide) _ _ _ rfl (hown.alloc _) ⟨wr.heap.size, 0, none⟩ 1 1 [.int .u8 ((x : Int) / 72057594037927936)] rfl rfl (one_new wr _) (one_cell _) (by unfold maxLen; omega) (by omega) (by have := hbel.size; simp; omega) ?_)
          intro v' w2 hown' hgrow _
          have hb2 := (hbel.alloc hbel.size _).grown hgrow (by have := hbel.size; simp; omega) (fun j hj => (hown.lt j hj).1)
          have R : w2.ownsRow w.heap.size 5 1 v' (z + 1 + (j + 1)) (V (128 :: List.replicate z 0 ++ tailL n (j + 1))) := by
            rw [HTL.out, ← List.append_assoc, ← V_snoc, ← HBY.out, ← HI.out]
            exact hown'
          clear hown' hgrow hown
          go_wp2
          refine ⟨⟨j + 1, by omega, by go_num, ?_, R, hb2⟩, by simp [intOf]; omega⟩
          rw [IntKind.wrap_u64, ← HSU.out]
          congr 1
        · obtain rfl : j = 8 := by omega
          have R : wr.ownsRow w.heap.size 5 1 u3 (pad n).length (V (pad n)) := by
            rw [pad_parts, ← HZE.out]
            have e : (128 :: List.replicate z 0 ++ tailL n 8).length = z + 1 + 8 := by simp [tailL_length]
            rw [e]
            exact hown
          clear hown
          go_wp2
          go_ret
          exact ⟨_, rfl, R, hbel⟩
    · have hc : (((n : Int) % 64 + ((z : Int) + 1) + 8) % 64 != 0) = true := by
        have h1 : ¬ (n % 64 + (z + 1) + 8) % 64 = 0 := fun h => hze (hmz.1 h)
        simp
        omega
      have hzlt : z < zeroes n := by omega
      clear hmz O1 hze
      go_wp2_with (at_builtin; refine wpList_append_own _ rfl _ _ 29 rfl w.heap.size 5 i0 (.int .u8 0) 1 1 Tryd.underlying29 hi hz0 hz1 hz2 rfl (by decide) _ _ _ rfl (hown.alloc _) ⟨wr.heap.size, 0, none⟩ 1 1 [.int .u8 0] rfl rfl (one_new wr _) (one_cell _) (by unfold maxLen; omega) (by omega) (by have := hbel.size; simp; omega) ?_)
      intro v' w2 hown' hgrow _
      have hb2 := (hbel.alloc hbel.size _).grown hgrow (by have := hbel.size; simp; omega) (fun j hj => (hown.lt j hj).1)
      have R : w2.ownsRow w.heap.size 5 1 v' (z + 1 + 1) (V (128 :: List.replicate (z + 1) 0)) := by
        have e : V (128 :: List.replicate z 0) ++ [.int .u8 0] = V (128 :: List.replicate (z + 1) 0) := by
          rw [show (0 : Int) = ((0 : Nat) : Int) from rfl, V_snoc, List.cons_append, ← List.replicate_succ']
        rw [← e]; exact hown'
      have hs1 := slen_own R
      clear hown' hgrow hown
      go_wp2
      refine ⟨⟨z + 1, by omega, R, hb2⟩, ?_⟩
      rw [hs1]
      show 64 - (z + 1 + 1) < 64 - (z + 1)
      omega
end Go.Proofs.YtpbaacplgohniaaDoor.Sh
