/-
  The contract of the document's Bytes: a state as bytes.
-/
import Derived.Test.YtpbaacplgohniaaDoorShRefStep
namespace Go.Proofs.YtpbaacplgohniaaDoor.Sh
open Go.RowKit Sha

theorem bytes_length (s : St) : (Sha.bytes s).length = 32 := rfl
theorem bytes_get (s : St) : ∀ i, i < 32 → (Sha.bytes s).getD i 0 = s.list.getD (i / 4) 0 / 256 ^ (3 - i % 4) % 256
  | 0, _ => rfl
  | 1, _ => rfl
  | 2, _ => rfl
  | 3, _ => by show s.a % 256 = s.a / 256 ^ 0 % 256; rw [Nat.pow_zero, Nat.div_one]
  | 4, _ => rfl
  | 5, _ => rfl
  | 6, _ => rfl
  | 7, _ => by show s.b % 256 = s.b / 256 ^ 0 % 256; rw [Nat.pow_zero, Nat.div_one]
  | 8, _ => rfl
  | 9, _ => rfl
  | 10, _ => rfl
  | 11, _ => by show s.c % 256 = s.c / 256 ^ 0 % 256; rw [Nat.pow_zero, Nat.div_one]
  | 12, _ => rfl
  | 13, _ => rfl
  | 14, _ => rfl
  | 15, _ => by show s.d % 256 = s.d / 256 ^ 0 % 256; rw [Nat.pow_zero, Nat.div_one]
  | 16, _ => rfl
  | 17, _ => rfl
  | 18, _ => rfl
  | 19, _ => by show s.e % 256 = s.e / 256 ^ 0 % 256; rw [Nat.pow_zero, Nat.div_one]
  | 20, _ => rfl
  | 21, _ => rfl
  | 22, _ => rfl
  | 23, _ => by show s.f % 256 = s.f / 256 ^ 0 % 256; rw [Nat.pow_zero, Nat.div_one]
  | 24, _ => rfl
  | 25, _ => rfl
  | 26, _ => rfl
  | 27, _ => by show s.g % 256 = s.g / 256 ^ 0 % 256; rw [Nat.pow_zero, Nat.div_one]
  | 28, _ => rfl
  | 29, _ => rfl
  | 30, _ => rfl
  | 31, _ => by show s.h % 256 = s.h / 256 ^ 0 % 256; rw [Nat.pow_zero, Nat.div_one]
  | n + 32, h => absurd h (by omega)

def z32 : List Nat := List.replicate 32 0
theorem Tryd.zero22 : ∀ w, (zeroValue 22).run Tryd.prog w = .ok (.agg (arr .u8 z32)) w := (zero_of_info (t := 22) (n := 32) (by kernel_rfl)).1
theorem Tryd.size22 : (Tryd.prog.info? 22).map (·.size) = some 32 := by kernel_rfl

structure MemB (w wr : World) (s d : List Nat) : Prop where
  st : wr.heap[w.heap.size]? = some (.cells (arr .u32 s) 118 (0, 0))
  res : wr.heap[w.heap.size + 1]? = some (.cells (arr .u8 z32) 22 (0, 0))
  dv : wr.heap[w.heap.size + 1 + 1]? = some (.cells (arr .u8 d) 22 (0, 0))
  bel : Below w.heap.size w wr

theorem MemB.put {w wr : World} {s d : List Nat} (h : MemB w wr s d) (i v : Nat) : MemB w (wr.setCell ⟨w.heap.size + 1 + 1, i, none⟩ (.int .u8 (v : Int))) s (d.set i v) := by
  refine ⟨?_, ?_, ?_, h.bel.setCell (by simp; omega) _⟩
  · rw [heap_put_other h.dv (by omega)]; exact h.st
  · rw [heap_put_other h.dv (by omega)]; exact h.res
  · rw [Joins.block_setCell h.dv, arr_set]

/-- The first i bytes of a row of n. -/
def fillL (n : Nat) (l : List Nat) (i : Nat) : List Nat := l.take i ++ List.replicate (n - i) 0
theorem fillL_length (n : Nat) (l : List Nat) (i : Nat) (hl : l.length = n) (hi : i ≤ n) : (fillL n l i).length = n := by simp [fillL]; omega
theorem fillL_set (n : Nat) (l : List Nat) (i : Nat) (hl : l.length = n) (hi : i < n) : (fillL n l i).set i (l.getD i 0) = fillL n l (i + 1) := by
  unfold fillL
  rw [List.set_append_right _ _ (by simp; omega), show i - (l.take i).length = 0 from by simp; omega, show n - i = (n - (i + 1)) + 1 from by omega, List.replicate_succ, List.set_cons_zero]
  have e : l.getD i 0 = l[i]'(by omega) := by simp [List.getD, List.getElem?_eq_getElem (show i < l.length from by omega)]
  rw [e, List.take_succ_eq_append_getElem (show i < l.length from by omega), List.append_assoc]
  rfl
theorem fillL_full (n : Nat) (l : List Nat) (hl : l.length = n) : fillL n l n = l := by simp [fillL, ← hl]
theorem fillL_zero (n : Nat) (l : List Nat) : fillL n l 0 = List.replicate n 0 := by simp [fillL]

theorem list_lt (s : St) (h : s.Ok) (i : Nat) : s.list.getD i 0 < 2 ^ 32 := by
  match i with
  | 0 => exact h.a
  | 1 => exact h.b
  | 2 => exact h.c
  | 3 => exact h.d
  | 4 => exact h.e
  | 5 => exact h.f
  | 6 => exact h.g
  | 7 => exact h.h
  | n + 8 => exact Nat.two_pow_pos 32

theorem quo_int (x m : Nat) : ((x / 256 ^ m : Nat) : Int) / 256 = ((x / 256 ^ (m + 1) : Nat) : Int) := by
  rw [Nat.pow_succ, ← Nat.div_div_eq_div_mul]; omega

set_option maxHeartbeats 1600000 in
set_option maxRecDepth 100000 in
theorem bytes_ref (s : St) (w : World) (hs : s.Ok) : Calls Tryd.prog 74 #[.agg (arr .u32 s.list)] w fun e w' => e = .returned (.agg (arr .u8 (Sha.bytes s))) ∧ Below w.heap.size w w' := by
  have HSL := hid (list_lt s hs)
  have HBG := hid (bytes_get s)
  have HBL := hid (bytes_length s)
  have hM : MemB w (((w.alloc (.cells (arr .u32 s.list) 118)).alloc (.cells (arr .u8 z32) 22)).alloc (.cells (arr .u8 z32) 22)) s.list (fillL 32 (Sha.bytes s) 0) := by
    rw [fillL_zero]
    have b1 := bel_alloc w (.cells (arr .u32 s.list) 118)
    generalize hw1 : w.alloc (.cells (arr .u32 s.list) 118) = w1 at *
    have s1 : w1.heap.size = w.heap.size + 1 := by rw [← hw1]; simp
    have e1 : w1.heap[w.heap.size]? = some (.cells (arr .u32 s.list) 118 (0, 0)) := by rw [← hw1]; exact heap_new _ _
    have b2 := bel_alloc w1 (.cells (arr .u8 z32) 22)
    generalize hw2 : w1.alloc (.cells (arr .u8 z32) 22) = w2 at *
    have s2 : w2.heap.size = w.heap.size + 1 + 1 := by rw [← hw2]; simp [s1]
    have e2 : w2.heap[w.heap.size + 1]? = some (.cells (arr .u8 z32) 22 (0, 0)) := by rw [← hw2, ← s1]; exact heap_new _ _
    have b3 := bel_alloc w2 (.cells (arr .u8 z32) 22)
    refine ⟨?_, ?_, ?_, Bn (Bn b1 b2) b3⟩
    · rw [b3.block _ (by omega), b2.block _ (by omega)]; exact e1
    · rw [b3.block _ (by omega)]; exact e2
    · rw [← s2]; exact heap_new _ _
  go_enter Tryd.func74, Tryd.ntmps74
  go_wp2_with (first
    | (refine wpList_alloc_at rfl 22 rfl (some 2) rfl (arr .u8 z32) Tryd.zero22 (w.heap.size + 1) (by simp) ?_)
    | (refine wpList_alloc_at rfl 22 rfl (some 3) rfl (arr .u8 z32) Tryd.zero22 (w.heap.size + 1 + 1) (by simp) ?_))
  generalize ((w.alloc (.cells (arr .u32 s.list) 118)).alloc (.cells (arr .u8 z32) 22)).alloc (.cells (arr .u8 z32) 22) = w3 at *
  go_loopw [4] (fun i wr => ∃ k : Nat, k ≤ 32 ∧ i = .int .i64 k ∧ MemB w wr s.list (fillL 32 (Sha.bytes s) k)) (fun i _ => 32 - (intOf i).toNat)
  case atStart => exact ⟨0, by omega, rfl, hM⟩
  case round =>
    obtain ⟨k, hk, rfl, hM⟩ := hrel
    by_cases hlt : k < 32
    · have hk32 : (k : Int) < 32 := by omega
      have hq : k / 4 < s.list.length := by show k / 4 < 8; omega
      have c0 := (Joins.cell_of_block hM.st (k / 4)).trans (arr_get .u32 s.list _ hq)
      have hx := HSL.out (k / 4)
      have HG := hid (HBG.out k hlt)
      have hfl := fillL_length 32 (Sha.bytes s) k HBL.out hk
      have c1 := (Joins.cell_of_block hM.dv k).trans (arr_get .u8 _ k (by omega))
      have fz := Joins.unfrozen_of_block hM.dv k
      have hput := hM.put k ((Sha.bytes s).getD k 0)
      rw [fillL_set 32 (Sha.bytes s) k HBL.out hlt, HG.out] at hput
      have HP := hid hput
      clear hput hM hfl hq
      generalize s.list.getD (k / 4) 0 = X at *
      generalize (fillL 32 (Sha.bytes s) k).getD k 0 = old at *
      have hq' : ((k : Int) / 4).toNat = k / 4 := by omega
      go_wp2_with fail
      go_loop [5, 6] (fun x i => ∃ m : Nat, k % 4 ≤ m ∧ m ≤ 3 ∧ i = .int .i64 m ∧ x = .int .u32 ((X / 256 ^ (m - k % 4) : Nat) : Int)) (fun _ i => 3 - (intOf i).toNat)
      case atStart => exact ⟨k % 4, by omega, by omega, by go_num, by rw [Nat.sub_self, Nat.pow_zero, Nat.div_one]⟩
      case round =>
        obtain ⟨m, hm1, hm2, rfl, rfl⟩ := hrel
        by_cases hm3 : m < 3
        · have hm3' : (m : Int) < 3 := by omega
          have HQ := hid (quo_int X (m - k % 4))
          have hxl : X / 256 ^ (m - k % 4) < 2 ^ 32 := Nat.lt_of_le_of_lt (Nat.div_le_self _ _) hx
          generalize X / 256 ^ (m - k % 4) = y at *
          go_wp2
          go_round
          case rel => exact ⟨m + 1, by omega, by omega, by go_num, by rw [HQ.out, show m + 1 - k % 4 = m - k % 4 + 1 from by omega]⟩
          case measure => simp [intOf]; omega
        · obtain rfl : m = 3 := by omega
          have hxl : X / 256 ^ (3 - k % 4) < 2 ^ 32 := Nat.lt_of_le_of_lt (Nat.div_le_self _ _) hx
          have HI : Hid (((X / 256 ^ (3 - k % 4) : Nat) : Int) % 256 = ((X / 256 ^ (3 - k % 4) % 256 : Nat) : Int)) := by
            show _ = _
            omega
          generalize X / 256 ^ (3 - k % 4) = y at *
          go_wp2
          rw [HI.out]
          exact ⟨⟨k + 1, by omega, by go_num, HP.out⟩, by simp [intOf]; omega⟩
    · obtain rfl : k = 32 := by omega
      rw [fillL_full 32 _ HBL.out] at hM
      have hres := hM.res
      have hdv := hM.dv
      have hbel := hM.bel
      have hsz : (arr .u8 (Sha.bytes s)).size = 32 := arr_size _ _
      clear hM
      go_wp2_with (first
        | (refine wpList_load_row rfl 22 _ rfl (w.heap.size + 1 + 1) rfl 22 (arr .u8 (Sha.bytes s)) (0, 0) _ hdv Tryd.underlying22 rfl (by rw [hsz]; exact Tryd.size22) ?_)
        | (refine wpList_store_rowTo rfl 22 _ _ rfl rfl (w.heap.size + 1) (arr .u8 (Sha.bytes s)) rfl rfl 22 _ hres (by rw [hsz]; exact Tryd.size22) (by rw [hsz]; rfl) (arr_one _ _) ?_))
      refine bodyPost_ret (results_cell_row (ty := 22) rfl _ _ _ _ _ _ _ rfl (setRow_heap _ _ _ _ _ _ hres) Tryd.underlying22 rfl (by rw [hsz]; exact Tryd.size22)) rfl ?_
      exact ⟨rfl, below_setRow hbel (by omega) _⟩
end Go.Proofs.YtpbaacplgohniaaDoor.Sh
