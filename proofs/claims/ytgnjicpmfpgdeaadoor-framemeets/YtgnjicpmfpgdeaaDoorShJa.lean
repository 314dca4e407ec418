/-
  Plain facts on rows of bytes that are owned, on blocks and on paddings. The contract of the document's Sum: the digest of all rows. The contract of the document's Pad: the padding, in new memory. The contract of the document's Bytes: a state as bytes.
-/
import Derived.Test.YtgnjicpmfpgdeaaDoorShRefStep
import Derived.Test.YtgnjicpmfpgdeaaDoorShSmall
import Derived.Laws.AppendOwn
import Derived.Laws.AppendOwnNone
import Derived.Laws.BytesArg
namespace Go.Proofs.YtgnjicpmfpgdeaaDoor.Sh
open Go.RowKit Sha

theorem bytes_length (s : St) : (Sha.bytes s).length = 32 := rfl
theorem bytes_get (s : St) : ∀ i, i < 32 → (Sha.bytes s).getD i 0 = s.list.getD (i / 4) 0 / 256 ^ (3 - i % 4) % 256
  | 0, _ => rfl
  | 1, _ => rfl
  | 2, _ => rfl
  | 3, _ => by show s.a % 256 = s.a / 256 ^ 0 % 256; rw [Nat.pow_zero, Nat.div_one]
  | 4, _ => rfl
  | 5, _ => rfl
  | 6, _ => rfl
  | 7, _ => by show s.b % 256 = s.b / 256 ^ 0 % 256; rw [Nat.pow_zero, Nat.div_one]
  | 8, _ => rfl
  | 9, _ => rfl
  | 10, _ => rfl
  | 11, _ => by show s.c % 256 = s.c / 256 ^ 0 % 256; rw [Nat.pow_zero, Nat.div_one]
  | 12, _ => rfl
  | 13, _ => rfl
  | 14, _ => rfl
  | 15, _ => by show s.d % 256 = s.d / 256 ^ 0 % 256; rw [Nat.pow_zero, Nat.div_one]
  | 16, _ => rfl
  | 17, _ => rfl
  | 18, _ => rfl
  | 19, _ => by show s.e % 256 = s.e / 256 ^ 0 % 256; rw [Nat.pow_zero, Nat.div_one]
  | 20, _ => rfl
  | 21, _ => rfl
  | 22, _ => rfl
  | 23, _ => by show s.f % 256 = s.f / 256 ^ 0 % 256; rw [Nat.pow_zero, Nat.div_one]
  | 24, _ => rfl
  | 25, _ => rfl
  | 26, _ => rfl
  | 27, _ => by show s.g % 256 = s.g / 256 ^ 0 % 256; rw [Nat.pow_zero, Nat.div_one]
  | 28, _ => rfl
  | 29, _ => rfl
  | 30, _ => rfl
  | 31, _ => by show s.h % 256 = s.h / 256 ^ 0 % 256; rw [Nat.pow_zero, Nat.div_one]
  | n + 32, h => absurd h (by omega)

def z32 : List Nat := List.replicate 32 0
theorem Tryd.zero38 : ∀ w, (zeroValue 38).run Tryd.prog w = .ok (.agg (arr .u8 z32)) w := (zero_of_info (t := 38) (n := 32) (by kernel_rfl)).1
theorem Tryd.size38 : (Tryd.prog.info? 38).map (·.size) = some 32 := by kernel_rfl

structure MemB (w wr : World) (s d : List Nat) : Prop where
  st : wr.heap[w.heap.size]? = some (.cells (arr .u32 s) 118 (0, 0))
  res : wr.heap[w.heap.size + 1]? = some (.cells (arr .u8 z32) 38 (0, 0))
  dv : wr.heap[w.heap.size + 1 + 1]? = some (.cells (arr .u8 d) 38 (0, 0))
  bel : Below w.heap.size w wr

theorem MemB.put {w wr : World} {s d : List Nat} (h : MemB w wr s d) (i v : Nat) : MemB w (wr.setCell ⟨w.heap.size + 1 + 1, i, none⟩ (.int .u8 (v : Int))) s (d.set i v) := by
  refine ⟨?_, ?_, ?_, h.bel.setCell (by simp; omega) _⟩
  · rw [heap_put_other h.dv (by omega)]; exact h.st
  · rw [heap_put_other h.dv (by omega)]; exact h.res
  · rw [Joins.block_setCell h.dv, arr_set]

/-- The first i bytes of a row of n. -/
def fillL (n : Nat) (l : List Nat) (i : Nat) : List Nat := l.take i ++ List.replicate (n - i) 0
theorem fillL_length (n : Nat) (l : List Nat) (i : Nat) (hl : l.length = n) (hi : i ≤ n) : (fillL n l i).length = n := by simp [fillL]; omega
theorem fillL_set (n : Nat) (l : List Nat) (i : Nat) (hl : l.length = n) (hi : i < n) : (fillL n l i).set i (l.getD i 0) = fillL n l (i + 1) := by
  unfold fillL
  rw [List.set_append_right _ _ (by simp; omega), show i - (l.take i).length = 0 from by simp; omega, show n - i = (n - (i + 1)) + 1 from by omega, List.replicate_succ, List.set_cons_zero]
  have e : l.getD i 0 = l[i]'(by omega) := by simp [List.getD, List.getElem?_eq_getElem (show i < l.length from by omega)]
  rw [e, List.take_succ_eq_append_getElem (show i < l.length from by omega), List.append_assoc]
  rfl
theorem fillL_full (n : Nat) (l : List Nat) (hl : l.length = n) : fillL n l n = l := by simp [fillL, ← hl]
theorem fillL_zero (n : Nat) (l : List Nat) : fillL n l 0 = List.replicate n 0 := by simp [fillL]

theorem list_lt (s : St) (h : s.Ok) (i : Nat) : s.list.getD i 0 < 2 ^ 32 := by
  match i with
  | 0 => exact h.a
  | 1 => exact h.b
  | 2 => exact h.c
  | 3 => exact h.d
  | 4 => exact h.e
  | 5 => exact h.f
  | 6 => exact h.g
  | 7 => exact h.h
  | n + 8 => exact Nat.two_pow_pos 32

theorem quo_int (x m : Nat) : ((x / 256 ^ m : Nat) : Int) / 256 = ((x / 256 ^ (m + 1) : Nat) : Int) := by
  rw [Nat.pow_succ, ← Nat.div_div_eq_div_mul]; omega

set_option maxHeartbeats 1600000 in
set_option maxRecDepth 100000 in
theorem bytes_ref (s : St) (w : World) (hs : s.Ok) : Calls Tryd.prog 87 #[.agg (arr .u32 s.list)] w fun e w' => e = .returned (.agg (arr .u8 (Sha.bytes s))) ∧ Below w.heap.size w w' := by
  have HSL := hid (list_lt s hs)
  have HBG := hid (bytes_get s)
  have HBL := hid (bytes_length s)
  have hM : MemB w (((w.alloc (.cells (arr .u32 s.list) 118)).alloc (.cells (arr .u8 z32) 38)).alloc (.cells (arr .u8 z32) 38)) s.list (fillL 32 (Sha.bytes s) 0) := by
    rw [fillL_zero]
    have b1 := bel_alloc w (.cells (arr .u32 s.list) 118)
    generalize hw1 : w.alloc (.cells (arr .u32 s.list) 118) = w1 at *
    have s1 : w1.heap.size = w.heap.size + 1 := by rw [← hw1]; simp
    have e1 : w1.heap[w.heap.size]? = some (.cells (arr .u32 s.list) 118 (0, 0)) := by rw [← hw1]; exact heap_new _ _
    have b2 := bel_alloc w1 (.cells (arr .u8 z32) 38)
    generalize hw2 : w1.alloc (.cells (arr .u8 z32) 38) = w2 at *
    have s2 : w2.heap.size = w.heap.size + 1 + 1 := by rw [← hw2]; simp [s1]
    have e2 : w2.heap[w.heap.size + 1]? = some (.cells (arr .u8 z32) 38 (0, 0)) := by rw [← hw2, ← s1]; exact heap_new _ _
    have b3 := bel_alloc w2 (.cells (arr .u8 z32) 38)
    refine ⟨?_, ?_, ?_, Bn (Bn b1 b2) b3⟩
    · rw [b3.block _ (by omega), b2.block _ (by omega)]; exact e1
    · rw [b3.block _ (by omega)]; exact e2
    · rw [← s2]; exact heap_new _ _
  go_enter Tryd.func87, Tryd.ntmps87
  go_wp2_with (first
    | (refine wpList_alloc_at rfl 38 rfl (some 2) rfl (arr .u8 z32) Tryd.zero38 (w.heap.size + 1) (by simp) ?_)
    | (refine wpList_alloc_at rfl 38 rfl (some 3) rfl (arr .u8 z32) Tryd.zero38 (w.heap.size + 1 + 1) (by simp) ?_))
  generalize ((w.alloc (.cells (arr .u32 s.list) 118)).alloc (.cells (arr .u8 z32) 38)).alloc (.cells (arr .u8 z32) 38) = w3 at *
  go_loopw [4] (fun i wr => ∃ k : Nat, k ≤ 32 ∧ i = .int .i64 k ∧ MemB w wr s.list (fillL 32 (Sha.bytes s) k)) (fun i _ => 32 - (intOf i).toNat)
  case atStart => exact ⟨0, by omega, rfl, hM⟩
  case round =>
    obtain ⟨k, hk, rfl, hM⟩ := hrel
    by_cases hlt : k < 32
    · have hk32 : (k : Int) < 32 := by omega
      have hq : k / 4 < s.list.length := by show k / 4 < 8; omega
      have c0 := (Joins.cell_of_block hM.st (k / 4)).trans (arr_get .u32 s.list _ hq)
      have hx := HSL.out (k / 4)
      have HG := hid (HBG.out k hlt)
      have hfl := fillL_length 32 (Sha.bytes s) k HBL.out hk
      have c1 := (Joins.cell_of_block hM.dv k).trans (arr_get .u8 _ k (by omega))
      have fz := Joins.unfrozen_of_block hM.dv k
      have hput := hM.put k ((Sha.bytes s).getD k 0)
      rw [fillL_set 32 (Sha.bytes s) k HBL.out hlt, HG.out] at hput
      have HP := hid hput
      clear hput hM hfl hq
      generalize s.list.getD (k / 4) 0 = X at *
      generalize (fillL 32 (Sha.bytes s) k).getD k 0 = old at *
      have hq' : ((k : Int) / 4).toNat = k / 4 := by omega
      go_wp2_with fail
      go_loop [5, 6] (fun x i => ∃ m : Nat, k % 4 ≤ m ∧ m ≤ 3 ∧ i = .int .i64 m ∧ x = .int .u32 ((X / 256 ^ (m - k % 4) : Nat) : Int)) (fun _ i => 3 - (intOf i).toNat)
      case atStart => exact ⟨k % 4, by omega, by omega, by go_num, by rw [Nat.sub_self, Nat.pow_zero, Nat.div_one]⟩
      case round =>
        obtain ⟨m, hm1, hm2, rfl, rfl⟩ := hrel
        by_cases hm3 : m < 3
        · have hm3' : (m : Int) < 3 := by omega
          have HQ := hid (quo_int X (m - k % 4))
          have hxl : X / 256 ^ (m - k % 4) < 2 ^ 32 := Nat.lt_of_le_of_lt (Nat.div_le_self _ _) hx
          generalize X / 256 ^ (m - k % 4) = y at *
          go_wp2
          go_round
          case rel => exact ⟨m + 1, by omega, by omega, by go_num, by rw [HQ.out, show m + 1 - k % 4 = m - k % 4 + 1 from by omega]⟩
          case measure => simp [intOf]; omega
        · obtain rfl : m = 3 := by omega
          have hxl : X / 256 ^ (3 - k % 4) < 2 ^ 32 := Nat.lt_of_le_of_lt (Nat.div_le_self _ _) hx
          have HI : Hid (((X / 256 ^ (3 - k % 4) : Nat) : Int) % 256 = ((X / 256 ^ (3 - k % 4) % 256 : Nat) : Int)) := by
            show _ = _
            omega
          generalize X / 256 ^ (3 - k % 4) = y at *
          go_wp2
          rw [HI.out]
          exact ⟨⟨k + 1, by omega, by go_num, HP.out⟩, by simp [intOf]; omega⟩
    · obtain rfl : k = 32 := by omega
      rw [fillL_full 32 _ HBL.out] at hM
      have hres := hM.res
      have hdv := hM.dv
      have hbel := hM.bel
      have hsz : (arr .u8 (Sha.bytes s)).size = 32 := arr_size _ _
      clear hM
      go_wp2_with (first
        | (refine wpList_load_row rfl 38 _ rfl (w.heap.size + 1 + 1) rfl 38 (arr .u8 (Sha.bytes s)) (0, 0) _ hdv Tryd.underlying38 rfl (by rw [hsz]; exact Tryd.size38) ?_)
        | (refine wpList_store_rowTo rfl 38 _ _ rfl rfl (w.heap.size + 1) (arr .u8 (Sha.bytes s)) rfl rfl 38 _ hres (by rw [hsz]; exact Tryd.size38) (by rw [hsz]; rfl) (arr_one _ _) ?_))
      refine bodyPost_ret (results_cell_row (ty := 38) rfl _ _ _ _ _ _ _ rfl (setRow_heap _ _ _ _ _ _ hres) Tryd.underlying38 rfl (by rw [hsz]; exact Tryd.size38)) rfl ?_
      exact ⟨rfl, below_setRow hbel (by omega) _⟩
end Go.Proofs.YtgnjicpmfpgdeaaDoor.Sh
namespace Go.Proofs.YtgnjicpmfpgdeaaDoor.Sh
open Go.RowKit Sha

theorem Tryd.info5 : (Tryd.prog.info? 5).map (fun i => (i.zero, i.size, i.bytes)) = some (some (.int .u8 0), 1, 1) := by kernel_rfl

/-- Bytes as cells. -/
def V (l : List Nat) : List Value := l.map (fun z : Nat => Value.int .u8 (z : Int))

theorem V_length (l : List Nat) : (V l).length = l.length := by simp [V]
theorem V_snoc (l : List Nat) (z : Nat) : V l ++ [.int .u8 (z : Int)] = V (l ++ [z]) := by simp [V]

def slen : Value → Nat
  | .slice _ n _ => n
  | _ => 0
theorem slen_own {w : World} {B e n : Nat} {v : Value} {xs : List Value} (h : w.ownsRow B e 1 v n xs) : slen v = n := by
  rcases h.2 with ⟨rfl, rfl⟩ | ⟨g, cap, cur, rfl, _⟩
  · rfl
  · rfl

theorem own_first (w : World) (z : Nat) : (w.alloc (.cells #[.int .u8 (z : Int)] 5)).ownsRow w.heap.size 5 1 (.slice (some ⟨w.heap.size, 0, none⟩) 1 1) 1 (V [z]) :=
  ⟨rfl, Or.inr ⟨w.heap.size, 1, #[.int .u8 (z : Int)], rfl, Nat.le_refl _, heap_new w _, Nat.le_refl _, by unfold maxLen; omega, rfl, rfl⟩⟩

theorem one_new (w : World) (v : Value) : ∀ (j : Nat) (u : Value), [v][j]? = some u → (w.alloc (.cells #[v] 5)).cell? (Addr.add ⟨w.heap.size, 0, none⟩ j) = some u := by
  intro j u h
  match j, h with
  | 0, h => simp at h; subst h; simp [Addr.add]

theorem one_cell (z : Int) : ∀ u ∈ [Value.int .u8 z], u.oneCell' = true := by
  intro u hu
  simp at hu
  subst hu
  rfl

def zeroes (n : Nat) : Nat := (119 - n % 64) % 64
theorem more_zeroes (n z : Nat) (hz : z ≤ zeroes n) : (n % 64 + (z + 1) + 8) % 64 = 0 ↔ z = zeroes n := by
  unfold zeroes at *; omega
def tailL (n i : Nat) : List Nat := (List.range i).map fun i => (8 * n) % 2 ^ 64 / 256 ^ (7 - i) % 256
theorem tailL_succ (n i : Nat) : tailL n (i + 1) = tailL n i ++ [(8 * n) % 2 ^ 64 / 256 ^ (7 - i) % 256] := by
  rw [tailL, List.range_succ, List.map_append]; rfl
theorem tailL_length (n i : Nat) : (tailL n i).length = i := by simp [tailL]
/-- The number of which i bytes went out: its i lowest bytes are gone round. -/
def outX (n i : Nat) : Nat := (8 * n) % 2 ^ 64 * 256 ^ i % 2 ^ 64

theorem outX_succ (n i : Nat) : outX n i * 256 % 2 ^ 64 = outX n (i + 1) := by
  unfold outX
  rw [Nat.mod_mul_mod, Nat.mul_assoc, ← Nat.pow_succ]
theorem outX_byte (n i : Nat) (hi : i < 8) : outX n i / 72057594037927936 = (8 * n) % 2 ^ 64 / 256 ^ (7 - i) % 256 := by
  unfold outX
  generalize (8 * n) % 2 ^ 64 = x
  have hp : (2 : Nat) ^ 64 = 256 ^ (8 - i) * 256 ^ i := by rw [← Nat.pow_add, show 8 - i + i = 8 from by omega]
  have hq : (72057594037927936 : Nat) = 256 ^ (7 - i) * 256 ^ i := by rw [← Nat.pow_add, show 7 - i + i = 7 from by omega]
  have h8 : (256 : Nat) ^ (8 - i) = 256 ^ (7 - i) * 256 := by rw [← Nat.pow_succ, show (7 - i).succ = 8 - i from by omega]
  have hpos : 0 < 256 ^ i := Nat.pow_pos (by decide)
  rw [hp, Nat.mul_mod_mul_right, hq, Nat.mul_div_mul_right _ _ hpos, h8, Nat.mod_mul_right_div_self]
theorem outX_lt (n i : Nat) : outX n i < 2 ^ 64 := Nat.mod_lt _ (by decide)
theorem outX_start (n : Nat) : IntKind.u64.wrap ((n : Int) * 8) = ((outX n 0 : Nat) : Int) := by
  rw [IntKind.wrap_u64]; unfold outX; rw [Nat.pow_zero, Nat.mul_one, Nat.mod_mod]; omega
theorem pad_parts (n : Nat) : pad n = 128 :: List.replicate (zeroes n) 0 ++ tailL n 8 := rfl

set_option maxHeartbeats 1600000 in
theorem pad_ref (n : Nat) (w : World) (hn : n < 2 ^ 64) :
    Calls Tryd.prog 84 #[.int .u64 (n : Int)] w fun e w' => ∃ v, e = .returned v ∧ w'.ownsRow w.heap.size 5 1 v (pad n).length (V (pad n)) ∧ Below w.heap.size w w' := by
  obtain ⟨i0, hi, hz0, hz1, hz2⟩ := info_parts Tryd.info5
  have O1 := own_first w 128
  have B1 := bel_alloc w (.cells #[.int .u8 ((128 : Nat) : Int)] 5)
  have hzl : zeroes n < 64 := Nat.mod_lt _ (by decide)
  go_enter Tryd.func84, Tryd.ntmps84
  go_wp2_with fail
  rw [show (128 : Int) = ((128 : Nat) : Int) from rfl]
  generalize w.alloc (.cells #[.int .u8 ((128 : Nat) : Int)] 5) = w1 at *
  go_loopw [3] (fun v wr => ∃ z : Nat, z ≤ zeroes n ∧ wr.ownsRow w.heap.size 5 1 v (z + 1) (V (128 :: List.replicate z 0)) ∧ Below w.heap.size w wr) (fun v _ => 64 - slen v)
  case atStart => exact ⟨0, by omega, O1, B1⟩
  case round =>
    obtain ⟨z, hz, hown, hbel⟩ := hrel
    obtain ⟨g, cap, rfl⟩ := Joins.ownsRow_form hown (by omega)
    have hmz := more_zeroes n z hz
    by_cases hze : z = zeroes n
    · have hc : (((n : Int) % 64 + ((z : Int) + 1) + 8) % 64 != 0) = false := by
        have := hmz.2 hze
        simp
        omega
      have HX0 := hid (outX_start n)
      have hl0 : (V (128 :: List.replicate z 0 ++ tailL n 0)) = V (128 :: List.replicate z 0) := by simp [tailL]
      rw [← hl0] at hown
      have HOW := hid hown
      have HZE := hid hze
      clear hown hmz O1 hl0 hze
      go_wp2_with fail
      rw [HX0.out]
      go_loopw [3, 4, 5] (fun v x i wr => ∃ j : Nat, j ≤ 8 ∧ i = .int .i64 j ∧ x = .int .u64 ((outX n j : Nat) : Int) ∧ wr.ownsRow w.heap.size 5 1 v (z + 1 + j) (V (128 :: List.replicate z 0 ++ tailL n j)) ∧ Below w.heap.size w wr) (fun _ _ i _ => 8 - (intOf i).toNat)
      case atStart => exact ⟨0, by omega, rfl, rfl, HOW.out, hbel⟩
      case round =>
        obtain ⟨j, hj, rfl, rfl, hown, hbel⟩ := hrel
        by_cases hlt : j < 8
        · have hj8 : (j : Int) < 8 := by omega
          have HBY := hid (outX_byte n j hlt)
          have HSU := hid (outX_succ n j)
          have hol := outX_lt n j
          have HTL := hid (tailL_succ n j)
          have hby : outX n j / 72057594037927936 < 256 := by omega
          have HI : Hid ((outX n j : Int) / 72057594037927936 = ((outX n j / 72057594037927936 : Nat) : Int)) := by
            show _ = _
            omega
          generalize outX n j = x at *
          go_wp2_with (at_builtin; refine wpList_append_own _ rfl _ _ 22 rfl w.heap.size 5 i0 (.int .u8 0) 1 1 Tryd.underlying22 hi hz0 hz1 hz2 rfl (by decide) _ _ _ rfl (hown.alloc _) ⟨wr.heap.size, 0, none⟩ 1 1 [.int .u8 ((x : Int) / 72057594037927936)] rfl rfl (one_new wr _) (one_cell _) (by unfold maxLen; omega) (by omega) (by have := hbel.size; simp; omega) ?_)
          intro v' w2 hown' hgrow _
          have hb2 := (hbel.alloc hbel.size _).grown hgrow (by have := hbel.size; simp; omega) (fun j hj => (hown.lt j hj).1)
          have R : w2.ownsRow w.heap.size 5 1 v' (z + 1 + (j + 1)) (V (128 :: List.replicate z 0 ++ tailL n (j + 1))) := by
            rw [HTL.out, ← List.append_assoc, ← V_snoc, ← HBY.out, ← HI.out]
            exact hown'
          clear hown' hgrow hown
          go_wp2
          refine ⟨⟨j + 1, by omega, by go_num, ?_, R, hb2⟩, by simp [intOf]; omega⟩
          rw [IntKind.wrap_u64, ← HSU.out]
          congr 1
        · obtain rfl : j = 8 := by omega
          have R : wr.ownsRow w.heap.size 5 1 u3 (pad n).length (V (pad n)) := by
            rw [pad_parts, ← HZE.out]
            have e : (128 :: List.replicate z 0 ++ tailL n 8).length = z + 1 + 8 := by simp [tailL_length]
            rw [e]
            exact hown
          clear hown
          go_wp2
          go_ret
          exact ⟨_, rfl, R, hbel⟩
    · have hc : (((n : Int) % 64 + ((z : Int) + 1) + 8) % 64 != 0) = true := by
        have h1 : ¬ (n % 64 + (z + 1) + 8) % 64 = 0 := fun h => hze (hmz.1 h)
        simp
        omega
      have hzlt : z < zeroes n := by omega
      clear hmz O1 hze
      go_wp2_with (at_builtin; refine wpList_append_own _ rfl _ _ 22 rfl w.heap.size 5 i0 (.int .u8 0) 1 1 Tryd.underlying22 hi hz0 hz1 hz2 rfl (by decide) _ _ _ rfl (hown.alloc _) ⟨wr.heap.size, 0, none⟩ 1 1 [.int .u8 0] rfl rfl (one_new wr _) (one_cell _) (by unfold maxLen; omega) (by omega) (by have := hbel.size; simp; omega) ?_)
      intro v' w2 hown' hgrow _
      have hb2 := (hbel.alloc hbel.size _).grown hgrow (by have := hbel.size; simp; omega) (fun j hj => (hown.lt j hj).1)
      have R : w2.ownsRow w.heap.size 5 1 v' (z + 1 + 1) (V (128 :: List.replicate (z + 1) 0)) := by
        have e : V (128 :: List.replicate z 0) ++ [.int .u8 0] = V (128 :: List.replicate (z + 1) 0) := by
          rw [show (0 : Int) = ((0 : Nat) : Int) from rfl, V_snoc, List.cons_append, ← List.replicate_succ']
        rw [← e]; exact hown'
      have hs1 := slen_own R
      clear hown' hgrow hown
      go_wp2
      refine ⟨⟨z + 1, by omega, R, hb2⟩, ?_⟩
      rw [hs1]
      show 64 - (z + 1 + 1) < 64 - (z + 1)
      omega
end Go.Proofs.YtgnjicpmfpgdeaaDoor.Sh
namespace Go.Proofs.YtgnjicpmfpgdeaaDoor.Sh
open Go.RowKit Sha

/-- A slice value v reads, in the world w, as the bytes zs. -/
structure Rd (w : World) (v : Value) (a : Option Addr) (cap : Nat) (zs : List Nat) : Prop where
  val : v = .slice a zs.length cap
  room : zs.length ≤ cap
  most : cap ≤ maxLen
  cells : 0 < zs.length → ∃ b off, a = some ⟨b, off, none⟩ ∧ b < w.heap.size ∧ ∀ j, j < zs.length → w.cell? ⟨b, off + j, none⟩ = some (.int .u8 ((zs.getD j 0 : Nat) : Int))
  hi : ∀ j, zs.getD j 0 < 256
  nil : a = none → cap = 0

set_option maxRecDepth 100000 in
theorem Rd.later {w w' : World} {v : Value} {a : Option Addr} {cap : Nat} {zs : List Nat} (h : Rd w v a cap zs) (hb : Below w.heap.size w w') : Rd w' v a cap zs := by
  refine ⟨h.val, h.room, h.most, fun h0 => ?_, h.hi, h.nil⟩
  obtain ⟨b, off, ha, hbw, hc⟩ := h.cells h0
  exact ⟨b, off, ha, Nat.lt_of_lt_of_le hbw hb.size, fun j hj => (hb.cell (p := ⟨b, off + j, none⟩) hbw).trans (hc j hj)⟩

/-- A slice of slices reads, in the world w, as these rows of bytes. -/
structure Ps (w : World) (a : Option Addr) (cap : Nat) (l : List (List Nat)) : Prop where
  room : l.length ≤ cap
  most : cap ≤ maxLen
  cells : 0 < l.length → ∃ b off, a = some ⟨b, off, none⟩ ∧ b < w.heap.size ∧ ∀ j, j < l.length → ∃ v a' cap', w.cell? ⟨b, off + j, none⟩ = some v ∧ Rd w v a' cap' (l.getD j [])

set_option maxRecDepth 100000 in
theorem V_one (l : List Nat) : ∀ u ∈ V l, u.oneCell' = true := by
  intro u hu
  simp only [V, List.mem_map] at hu
  obtain ⟨z, _, rfl⟩ := hu
  rfl

set_option maxRecDepth 100000 in
theorem grown_refl (w : World) (r : Option Nat) : w.grownBy w r := ⟨rfl, rfl, rfl, Nat.le_refl _, fun _ _ _ => rfl⟩

set_option maxRecDepth 100000 in
/-- append of bytes, whatever slice they lie in, behind a row that the call owns. -/
theorem app_any (w : World) {ops : Array Oper} {rest : List Oper} {o : Oper} {ac : Act} {Q : Exit → Act → World → Prop} (hgd : o.guard = none) (s x : Operand)
    (ho : o.op = .call { callee := .builtin .append, args := #[s, x], argTypes := #[22, 22] }) (B : Nat) (v : Value) (l : List Nat) (hs : ac.eval s = v) (hown : w.ownsRow B 5 1 v l.length (V l))
    (a : Option Addr) (cap : Nat) (zs : List Nat) (hx : ac.eval x = .slice a zs.length cap) (hrd : Rd w (.slice a zs.length cap) a cap zs) (hbd : l.length + zs.length ≤ 1000000) (hB : B ≤ w.heap.size)
    (h : ∀ v' w', w'.ownsRow B 5 1 v' (l ++ zs).length (V (l ++ zs)) → w.grownBy w' v.ownBlock → wpList Tryd.prog ops Q rest (ac.put o.dst v') w') : wpList Tryd.prog ops Q (o :: rest) ac w := by
  obtain ⟨i0, hi, hz0, hz1, hz2⟩ := info_parts Tryd.info5
  cases a with
  | none =>
    have hz : zs = [] := by
      apply List.length_eq_zero_iff.1
      rcases Nat.eq_zero_or_pos zs.length with h | h
      · exact h
      · obtain ⟨_, _, h', _⟩ := hrd.cells h
        cases h'
    subst hz
    have hc := hrd.nil rfl
    subst hc
    refine wpList_append_own_none hgd s x 22 ho B 5 i0 1 Tryd.underlying22 hi v l.length _ hs hown hx ?_
    have := h v w (by simpa using hown) (grown_refl _ _)
    exact this
  | some ad =>
    refine wpList_append_own w hgd s x 22 ho B 5 i0 (.int .u8 0) 1 1 Tryd.underlying22 hi hz0 hz1 hz2 rfl (by decide) v l.length _ hs hown ad zs.length cap (V zs) hx (by simp [V]) ?_ (V_one _) (by unfold maxLen; omega) (by omega) hB ?_
    · intro j u hj
      have hjl : j < zs.length := by
        have := (List.getElem?_eq_some_iff.1 hj).1
        simpa [V] using this
      obtain ⟨b, off, hb, _, hc⟩ := hrd.cells (by omega)
      injection hb with hb
      subst hb
      rw [Go.WideShapes.add_plain, hc j hjl, ← hj]
      simp [V, List.getD, List.getElem?_eq_getElem hjl]
    · intro v' w' h1 h2 _
      refine h v' w' ?_ h2
      rw [List.length_append, show V (l ++ zs) = V l ++ V zs from by simp [V]]
      exact h1

set_option maxRecDepth 100000 in
theorem rd_own {w : World} {B : Nat} {v : Value} {l : List Nat} (hown : w.ownsRow B 5 1 v l.length (V l)) (h0 : 0 < l.length) (hz : ∀ j, l.getD j 0 < 256) :
    ∃ g cap, v = .slice (some ⟨g, 0, none⟩) l.length cap ∧ B ≤ g ∧ Rd w v (some ⟨g, 0, none⟩) cap l := by
  have h' := hown
  rcases hown.2 with ⟨_, h1⟩ | ⟨g, cp, cur, rfl, hg, hh, hn, hcap, _, _⟩
  · omega
  · refine ⟨g, cp, rfl, hg, rfl, hn, hcap, fun _ => ⟨g, 0, rfl, (Array.getElem?_eq_some_iff.1 hh).1, fun j hj => ?_⟩, hz, fun h => by cases h⟩
    rw [Nat.zero_add, h'.cellAt j (by omega)]
    simp [V, List.getD, List.getElem?_eq_getElem hj]

set_option maxRecDepth 100000 in
theorem getD_app (l m : List Nat) (hl : ∀ j, l.getD j 0 < 256) (hm : ∀ j, m.getD j 0 < 256) (j : Nat) : (l ++ m).getD j 0 < 256 := by
  by_cases hj : j < l.length
  · have := hl j
    simpa [List.getD, List.getElem?_append_left hj] using this
  · have := hm (j - l.length)
    simpa [List.getD, List.getElem?_append_right (show l.length ≤ j by omega)] using this
end Go.Proofs.YtgnjicpmfpgdeaaDoor.Sh
namespace Go.Proofs.YtgnjicpmfpgdeaaDoor.Sh
open Go.RowKit Sha

set_option maxRecDepth 100000 in
theorem own_later {w w' : World} {B n : Nat} {v : Value} {xs : List Value} (h : w.ownsRow B 5 1 v n xs) (hb : Below w.heap.size w w') : w'.ownsRow B 5 1 v n xs := by
  refine ⟨h.1, ?_⟩
  rcases h.2 with h1 | ⟨g, cap, cur, hv, hg, hh, hr⟩
  · exact Or.inl h1
  · have hlt : g < w.heap.size := (Array.getElem?_eq_some_iff.1 hh).1
    exact Or.inr ⟨g, cap, cur, hv, hg, (hb.block g hlt).trans hh, hr⟩

set_option maxRecDepth 100000 in
theorem own_slice {w : World} {B n : Nat} {v : Value} {xs : List Value} (h : w.ownsRow B 5 1 v n xs) : ∃ a cap, v = .slice a n cap := by
  rcases h.2 with ⟨rfl, rfl⟩ | ⟨g, cap, cur, rfl, _⟩
  · exact ⟨none, 0, rfl⟩
  · exact ⟨_, cap, rfl⟩

set_option maxRecDepth 100000 in
theorem blocksG_snoc (f : St → List Nat → St) (n : Nat) : ∀ (l : List Nat) (s : St), blocksG f (n + 1) l s = f (blocksG f n l s) ((l.drop (64 * n)).take 64) := by
  induction n with
  | zero => intro l s; rw [blocksG_succ, blocksG_zero, blocksG_zero, Nat.mul_zero, List.drop_zero]
  | succ n ih => intro l s; rw [blocksG_succ, ih, blocksG_succ, List.drop_drop, show 64 + 64 * n = 64 * (n + 1) from by omega]

set_option maxRecDepth 100000 in
theorem pad_length (n : Nat) : (n + (pad n).length) % 64 = 0 ∧ 9 ≤ (pad n).length ∧ (pad n).length ≤ 72 := by
  have h : (pad n).length = zeroes n + 9 := by rw [pad_parts]; simp [tailL_length]
  rw [h]; unfold zeroes; omega
set_option maxRecDepth 100000 in
theorem pad_lt (n j : Nat) : (pad n).getD j 0 < 256 := by
  have h : ∀ z ∈ pad n, z < 256 := by
    intro z hz
    rw [pad_parts, List.mem_append] at hz
    rcases hz with h | h
    · rw [List.mem_cons] at h
      rcases h with h | h
      · omega
      · rw [List.eq_of_mem_replicate h]; decide
    · simp only [tailL, List.mem_map] at h
      obtain ⟨i, _, rfl⟩ := h
      exact Nat.mod_lt _ (by decide)
  by_cases hj : j < (pad n).length
  · have : (pad n).getD j 0 ∈ pad n := by
      simp only [List.getD, List.getElem?_eq_getElem hj, Option.getD_some]
      exact List.getElem_mem hj
    exact h _ this
  · simp [List.getD, List.getElem?_eq_none (show (pad n).length ≤ j from by omega)]

set_option maxRecDepth 100000 in
theorem flat_take (l : List (List Nat)) (k : Nat) (hk : k < l.length) : (l.take (k + 1)).flatten = (l.take k).flatten ++ l.getD k [] := by
  have e : l.take (k + 1) = l.take k ++ [l.getD k []] := by
    rw [List.take_succ_eq_append_getElem hk]
    simp [List.getD, List.getElem?_eq_getElem hk]
  rw [e, List.flatten_append]; simp
set_option maxRecDepth 100000 in
theorem flat_le (l : List (List Nat)) (k : Nat) : (l.take k).flatten.length ≤ l.flatten.length := by
  conv => rhs; rw [← List.take_append_drop k l]
  rw [List.flatten_append, List.length_append]; omega

set_option maxRecDepth 100000 in
theorem Tryd.zero82 : ∀ w, (zeroValue 82).run Tryd.prog w = .ok (.agg (arr .u8 z64)) w := (zero_of_info (t := 82) (n := 64) (by kernel_rfl)).1
set_option maxRecDepth 100000 in
theorem Tryd.size82o : (Tryd.prog.info? 82).map (·.size) = some 64 := by kernel_rfl

set_option maxRecDepth 100000 in
theorem flat_lt (l : List (List Nat)) (h : ∀ y ∈ l, ∀ j, y.getD j 0 < 256) : ∀ j, l.flatten.getD j 0 < 256 := by
  induction l with
  | nil => intro j; simp
  | cons y l ih =>
    rw [List.flatten_cons]
    exact getD_app y l.flatten (h y (by simp)) (ih (fun z hz => h z (by simp [hz])))
set_option maxRecDepth 100000 in
theorem Ps.lt {w : World} {a : Option Addr} {cap : Nat} {l : List (List Nat)} (h : Ps w a cap l) : ∀ j, l.flatten.getD j 0 < 256 := by
  refine flat_lt l (fun y hy => ?_)
  obtain ⟨i, hi, rfl⟩ := List.getElem_of_mem hy
  obtain ⟨_, _, _, _, hc⟩ := h.cells (by omega)
  obtain ⟨_, _, _, _, hr⟩ := hc i hi
  have e : l.getD i [] = l[i] := by simp [List.getD, List.getElem?_eq_getElem hi]
  rw [← e]
  exact hr.hi

/-- What the walk of Sum keeps from the blocks on. -/
structure MemS (w wr : World) (gS ag ac : Nat) (al : List Nat) (s : St) : Prop where
  res : wr.heap[w.heap.size]? = some (.cells (arr .u8 z32) 38 (0, 0))
  sv : wr.heap[gS]? = some (.cells (arr .u32 s.list) 118 (0, 0))
  rd : Rd wr (.slice (some ⟨ag, 0, none⟩) al.length ac) (some ⟨ag, 0, none⟩) ac al
  bel : Below w.heap.size w wr

set_option maxRecDepth 100000 in
theorem MemS.later {w wr w' : World} {gS ag ac : Nat} {al : List Nat} {s : St} (h : MemS w wr gS ag ac al s) (hb : Below wr.heap.size wr w') : MemS w w' gS ag ac al s := by
  have h1 : w.heap.size < wr.heap.size := (Array.getElem?_eq_some_iff.1 h.res).1
  have h2 : gS < wr.heap.size := (Array.getElem?_eq_some_iff.1 h.sv).1
  exact ⟨by rw [hb.block _ h1]; exact h.res, by rw [hb.block _ h2]; exact h.sv, h.rd.later hb, Bn h.bel hb⟩

set_option maxRecDepth 100000 in
theorem MemS.keep {w wr w' : World} {gS ag ac B : Nat} {al : List Nat} {s : St} (h : MemS w wr gS ag ac al s) (hb : Below B wr w') (h1 : w.heap.size < B) (h2 : gS < B) (h3 : ag < B) : MemS w w' gS ag ac al s := by
  refine ⟨by rw [hb.block _ h1]; exact h.res, by rw [hb.block _ h2]; exact h.sv, ⟨h.rd.val, h.rd.room, h.rd.most, fun h0 => ?_, h.rd.hi, h.rd.nil⟩, h.bel.trans (hb.mono (by omega))⟩
  obtain ⟨b, off, ha, hbw, hc⟩ := h.rd.cells h0
  injection ha with ha'
  injection ha' with hb1 hb2
  subst hb1 hb2
  exact ⟨ag, 0, rfl, Nat.lt_of_lt_of_le hbw hb.size, fun j hj => (hb.cell (p := ⟨ag, 0 + j, none⟩) h3).trans (hc j hj)⟩

set_option maxRecDepth 100000 in
theorem blk_lt (l : List Nat) (h : ∀ j, l.getD j 0 < 256) (p : Nat) : ∀ j, ((l.drop p).take 64).getD j 0 < 256 := by
  intro j
  by_cases hj : j < 64
  · have := h (p + j)
    simpa [List.getD, List.getElem?_take_of_lt hj, List.getElem?_drop] using this
  · have hn : ((l.drop p).take 64)[j]? = none := List.getElem?_eq_none (by rw [List.length_take]; omega)
    simp [List.getD, hn]
set_option maxRecDepth 100000 in
theorem blk_get (l : List Nat) (p j : Nat) (hj : j < 64) : ((l.drop p).take 64).getD j 0 = l.getD (p + j) 0 := by
  simp [List.getD, List.getElem?_take_of_lt hj, List.getElem?_drop]

end Go.Proofs.YtgnjicpmfpgdeaaDoor.Sh
