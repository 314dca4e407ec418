/-
  The contracts of word.Bytes at a width of 32, the lowest byte first, and of Forge, the code's and the document's.
-/
import Derived.Test.YtohbghniangknaaZeros
import Derived.Laws.CopyRow
import Derived.Laws.CopyOwn
import Derived.Handy
namespace Go.Proofs.Ytohbghniangknaa
open Go.RowKit Crc

theorem size_32 (w : World) : Calls Try.prog 35 #[.int .i64 32] w fun e w' => e = .returned (.int .i64 4) ∧ w' = w := by
  go_enter Try.func35, Try.ntmps35
  go_wp2
  go_ret
  exact ⟨rfl, rfl⟩

theorem fault_32 (w : World) : Calls Try.prog 34 #[.int .i64 32, .int .i64 2] w fun e w' => e = .returned (.int .i64 0) ∧ w' = w := by
  go_enter Try.func34, Try.ntmps34
  go_wp2_with (go_at_call 35; refine (size_32 _).mono ?_; rintro e w' ⟨rfl, hw⟩; obtain rfl := hw.symm; clear hw)
  go_ret
  exact ⟨rfl, rfl⟩

theorem shift_32 (i : Nat) (w : World) (hi : i < 4) : Calls Try.prog 36 #[.int .i64 (i : Int), .int .i64 4, .int .i64 2] w fun e w' => e = .returned (.int .i64 ((8 * i : Nat) : Int)) ∧ w' = w := by
  go_enter Try.func36, Try.ntmps36
  go_wp2
  go_ret
  exact ⟨ret_int (by omega), rfl⟩

/-- A row of n places of which the first k are filled. -/
def partL (n k : Nat) (l : List Int) : List Int := l.take k ++ List.replicate (n - k) 0

theorem partL_length (n k : Nat) (l : List Int) (hl : l.length = n) (hk : k ≤ n) : (partL n k l).length = n := by
  simp [partL]; omega
theorem partL_zero (n : Nat) (l : List Int) : partL n 0 l = List.replicate n 0 := by simp [partL]
theorem partL_full (n : Nat) (l : List Int) (hl : l.length = n) : partL n n l = l := by
  simp [partL, ← hl]
theorem partL_set (n k : Nat) (l : List Int) (hl : l.length = n) (hk : k < n) (kd : IntKind) :
    ((partL n k l).map (Value.int kd)).set k (.int kd (l.getD k 0)) = (partL n (k + 1) l).map (Value.int kd) := by
  rw [← List.map_set]
  congr 1
  unfold partL
  rw [List.set_append_right _ _ (by simp; omega), show k - (l.take k).length = 0 from by simp; omega, show n - k = (n - (k + 1)) + 1 from by omega, List.replicate_succ, List.set_cons_zero]
  have e : l.getD k 0 = l[k]'(by omega) := by simp [List.getD, List.getElem?_eq_getElem (show k < l.length from by omega)]
  rw [e, List.take_succ_eq_append_getElem (show k < l.length from by omega), List.append_assoc]
  rfl

def fourI (x : Nat) : List Int := (four x).map (fun z : Nat => (z : Int))

theorem four_at (x k : Nat) (hk : k < 4) : (fourI x).getD k 0 = (x : Int) / 2 ^ (8 * k) % 256 := by
  match k, hk with
  | 0, _ => simp [fourI, four]
  | 1, _ => simp [fourI, four]
  | 2, _ => simp [fourI, four]
  | 3, _ => simp [fourI, four]

set_option maxHeartbeats 800000 in
theorem bytes_32 (x : Nat) (w : World) (_hx : x < 2 ^ 32) :
    Calls Try.prog 32 #[.int .u64 (x : Int), .int .i64 32, .int .i64 2] w fun e w' => ∃ v, e = .returned (.tuple #[v, .int .i64 0]) ∧ w'.ownsRow w.heap.size 5 1 v 4 ((fourI x).map (Value.int .u8)) ∧ Below w.heap.size w w' := by
  obtain ⟨i0, hi, hz0, hz1, hz2⟩ := info_parts Try.info5
  have HG := hid (four_at x)
  have HL : Hid ((fourI x).length = 4) := rfl
  generalize fourI x = l at *
  go_enter Try.func32, Try.ntmps32
  go_wp2_with (first
    | (go_at_call 34; refine (fault_32 _).mono ?_; rintro e w' ⟨rfl, hw⟩; obtain rfl := hw.symm; clear hw)
    | (go_at_call 35; refine (size_32 _).mono ?_; rintro e w' ⟨rfl, hw⟩; obtain rfl := hw.symm; clear hw)
    | (at_make; refine wpList_make_full _ rfl _ _ 23 rfl w.heap.size 5 i0 (.int .u8 0) 1 Try.underlying23 hi hz0 hz1 .i64 .i64 _ _ 4 rfl rfl (by first | rfl | omega) (by first | rfl | omega) (by rw [hz2]; omega) (by unfold maxLen; omega) (Nat.le_refl _) ?_))
  intro w1 hown0 hgrow
  have hb1 : Below w.heap.size w w1 := (Below.refl _ _).grown hgrow (Nat.le_refl _) (fun k hk => by cases hk)
  rw [toList_madeCells_one, show List.replicate 4 (Value.int .u8 0) = (partL 4 0 l).map (Value.int .u8) from by rw [partL_zero]; simp] at hown0
  clear hgrow
  go_wp2
  go_loopw [22] (fun i wr => ∃ k : Nat, k ≤ 4 ∧ i = .int .i64 k ∧ wr.ownsRow w.heap.size 5 1 (.slice (some ⟨w.heap.size, 0, none⟩) 4 4) 4 ((partL 4 k l).map (Value.int .u8)) ∧ Below w.heap.size w wr) (fun i _ => 4 - (intOf i).toNat)
  case atStart => exact ⟨0, by omega, rfl, hown0, hb1⟩
  case round =>
    obtain ⟨k, hk, rfl, hown, hbel⟩ := hrel
    by_cases hlt : k < 4
    · have hcell : ∃ u, wr.cell? ⟨w.heap.size, k, none⟩ = some u := by
        rw [hown.cellAt k (by omega)]
        exact ⟨_, List.getElem?_eq_getElem (by rw [List.length_map, partL_length 4 k l HL.out hk]; exact hlt)⟩
      obtain ⟨u, hu⟩ := hcell
      have hfz := hown.frozenAt k
      have hst := hown.stored k (.int .u8 (l.getD k 0))
      rw [partL_set 4 k l HL.out hlt] at hst
      have hnb := hbel.grown hst.2 hbel.size (fun j hj => by injection hj with hj; omega)
      rw [HG.out k hlt] at hst hnb
      have HS := hid hst.1
      have HB := hid hnb
      clear hst hnb hown
      go_wp2_with (go_at_call 36; refine (shift_32 k _ hlt).mono ?_; rintro e w' ⟨rfl, hw⟩; obtain rfl := hw.symm; clear hw)
      go_roundw
      case rel => exact ⟨k + 1, by omega, by go_num, HS.out, HB.out⟩
      case measure => simp [intOf]; omega
    · have hkn : k = 4 := by omega
      subst hkn
      rw [partL_full _ _ HL.out] at hown
      go_wp2
      go_ret2
      exact ⟨_, rfl, hown, hbel⟩

theorem heap_new (w : World) (o : Obj) : (w.alloc o).heap[w.heap.size]? = some o := by
  show (w.heap.push o)[w.heap.size]? = _
  simp

theorem forge_val (s t : Nat) (hs : s < 2 ^ 32) (ht : t < 2 ^ 32) : IntKind.u64.wrap (bits .xor .u32 (s : Int) ((back t [0, 0, 0, 0] : Nat) : Int)) = ((forge s t : Nat) : Int) := by
  have hb := back_lt t [0, 0, 0, 0] ht
  have hf := forge_lt s t hs ht
  rw [xor32 _ _ hs hb, Nat.xor_comm]
  unfold forge at *
  rw [IntKind.wrap_u64]
  omega

theorem bytes_32' (z : Int) (x : Nat) (w : World) (hx : x < 2 ^ 32) (hz : z = (x : Int)) :
    Calls Try.prog 32 #[.int .u64 z, .int .i64 32, .int .i64 2] w fun e w' => ∃ v, e = .returned (.tuple #[v, .int .i64 0]) ∧ w'.ownsRow w.heap.size 5 1 v 4 ((fourI x).map (Value.int .u8)) ∧ Below w.heap.size w w' := by
  subst hz; exact bytes_32 x w hx

/-- A row of four bytes that the call owns: where it lies. -/
theorem own_four {w : World} {B : Nat} {v : Value} {l : List Value} (h : w.ownsRow B 5 1 v 4 l) :
    ∃ g cap, v = .slice (some ⟨g, 0, none⟩) 4 cap ∧ B ≤ g ∧ g < w.heap.size ∧ ∀ j, j < 4 → w.cell? ⟨g, j, none⟩ = l[j]? := by
  have h' := h
  obtain ⟨_, hcase⟩ := h
  rcases hcase with ⟨_, h0⟩ | ⟨g, cap, cur, rfl, hg, hh, hn, hcap, _, _⟩
  · omega
  · exact ⟨g, cap, rfl, hg, (Array.getElem?_eq_some_iff.1 hh).1, fun j hj => h'.cellAt j (by omega)⟩

theorem ints_one (a b c d : Int) : ∀ v ∈ [Value.int .u8 a, .int .u8 b, .int .u8 c, .int .u8 d], v.oneCell' = true := by
  intro v hv
  simp only [List.mem_cons, List.not_mem_nil, or_false] at hv
  rcases hv with rfl | rfl | rfl | rfl <;> rfl

theorem copy_four {w : World} {g h cap : Nat} {x0 x1 x2 x3 : Value} (ty : TypeId) (hg : w.heap[g]? = some (.cells #[.int .u8 0, .int .u8 0, .int .u8 0, .int .u8 0] 37 (0, 0)))
    (hc : ∀ j, j < 4 → w.cell? ⟨h, j, none⟩ = [x0, x1, x2, x3][j]?) (h1 : ∀ v ∈ [x0, x1, x2, x3], v.oneCell' = true) :
    (Builtin.copy_ #[23, 23] ty #[.slice (some ⟨g, 0, none⟩) 4 4, .slice (some ⟨h, 0, none⟩) 4 cap]).run Try.prog w = .ok (goInt 4) (w.setRow g #[x0, x1, x2, x3]) := by
  have := run_copy_row Try.prog w 23 23 ty 5 g 0 4 4 ⟨h, 0, none⟩ 4 cap _ 37 [x0, x1, x2, x3] Try.underlying23 (by kernel_rfl) hg rfl (fun j v hv => by
    have hj : j < 4 := by
      rcases Nat.lt_or_ge j 4 with h' | h'
      · exact h'
      · rw [List.getElem?_eq_none (by simpa using h')] at hv; cases hv
    rw [Go.WideShapes.add_plain, Nat.zero_add, hc j hj, hv]) (by simp) h1
  exact this

theorem rd_array (w : World) (g : Nat) (hg : g = w.heap.size) :
    Rd (w.alloc (.cells #[.int .u8 0, .int .u8 0, .int .u8 0, .int .u8 0] 37)) (.slice (some ⟨g, 0, none⟩) 4 4) (some ⟨g, 0, none⟩) 4 [0, 0, 0, 0] := by
  subst hg
  refine ⟨rfl, Nat.le_refl _, by unfold maxLen; omega, fun _ => ⟨w.heap.size, 0, rfl, by simp, fun j hj => ?_⟩, getD_lt _ (by decide)⟩
  rw [Nat.zero_add, World.cell?_alloc_mark]
  match j, hj with
  | 0, _ => rfl
  | 1, _ => rfl
  | 2, _ => rfl
  | 3, _ => rfl

set_option maxHeartbeats 800000 in
theorem forge_word (s t : Nat) (w : World) (hs : s < 2 ^ 32) (ht : t < 2 ^ 32) : Calls Try.prog 23 #[.int .u32 (s : Int), .int .u32 (t : Int)] w fun e w' => e = .returned (.agg ((fourI (forge s t)).map (Value.int .u8)).toArray) ∧ Below w.heap.size w w' := by
  have b1 := bel_alloc w (.cells #[.int .u8 0, .int .u8 0, .int .u8 0, .int .u8 0] 37)
  have hA : (w.alloc (.cells #[.int .u8 0, .int .u8 0, .int .u8 0, .int .u8 0] 37)).heap[w.heap.size]? = some (.cells #[.int .u8 0, .int .u8 0, .int .u8 0, .int .u8 0] 37 (0, 0)) := heap_new _ _
  have sA : (w.alloc (.cells #[.int .u8 0, .int .u8 0, .int .u8 0, .int .u8 0] 37)).heap.size = w.heap.size + 1 := by simp
  have hwA : Hid (w.alloc (.cells #[.int .u8 0, .int .u8 0, .int .u8 0, .int .u8 0] 37) = w.alloc (.cells #[.int .u8 0, .int .u8 0, .int .u8 0, .int .u8 0] 37)) := rfl
  go_enter Try.func23, Try.ntmps23
  go_wp2_with fail
  generalize w.alloc (.cells #[.int .u8 0, .int .u8 0, .int .u8 0, .int .u8 0] 37) = wA at *
  have b2 := bel_alloc wA (.cells #[.int .u8 0, .int .u8 0, .int .u8 0, .int .u8 0] 37)
  have hB1 : (wA.alloc (.cells #[.int .u8 0, .int .u8 0, .int .u8 0, .int .u8 0] 37)).heap[w.heap.size]? = some (.cells #[.int .u8 0, .int .u8 0, .int .u8 0, .int .u8 0] 37 (0, 0)) := by rw [b2.block _ (by omega)]; exact hA
  have hB2 : (wA.alloc (.cells #[.int .u8 0, .int .u8 0, .int .u8 0, .int .u8 0] 37)).heap[w.heap.size + 1]? = some (.cells #[.int .u8 0, .int .u8 0, .int .u8 0, .int .u8 0] 37 (0, 0)) := by rw [← sA]; exact heap_new _ _
  have sB : (wA.alloc (.cells #[.int .u8 0, .int .u8 0, .int .u8 0, .int .u8 0] 37)).heap.size = w.heap.size + 2 := by simp [sA]
  have hrd := rd_array wA (w.heap.size + 1) sA.symm
  generalize wA.alloc (.cells #[.int .u8 0, .int .u8 0, .int .u8 0, .int .u8 0] 37) = wB at *
  go_at_call 21
  refine (back_word t _ _ [0, 0, 0, 0] wB ht hrd).mono ?_
  rintro _ w1 ⟨rfl, m, hw⟩
  have b3 := bel_drewN (Bn b1 b2) m
  have hC1 : w1.heap = wB.heap := by rw [hw]; rfl
  rw [← hw] at b3
  clear hw b1 b2 hA sA hrd hwA
  have HV := hid (forge_val s t hs ht)
  have hf := forge_lt s t hs ht
  go_wp2_with fail
  go_at_call 32
  refine (bytes_32' _ (forge s t) w1 hf HV.out).mono ?_
  rintro _ w2 ⟨v, rfl, hown, hb4⟩
  rw [← hC1] at hB1 hB2 sB
  have hD1 : w2.heap[w.heap.size]? = some (.cells #[.int .u8 0, .int .u8 0, .int .u8 0, .int .u8 0] 37 (0, 0)) := by rw [hb4.block _ (by omega)]; exact hB1
  have hD2 : w2.heap[w.heap.size + 1]? = some (.cells #[.int .u8 0, .int .u8 0, .int .u8 0, .int .u8 0] 37 (0, 0)) := by rw [hb4.block _ (by omega)]; exact hB2
  have b4 := Bn b3 hb4
  obtain ⟨h, cap, rfl, hh1, hh2, hcs⟩ := own_four hown
  obtain ⟨c0, c1, c2, c3, hF⟩ : ∃ c0 c1 c2 c3 : Int, fourI (forge s t) = [c0, c1, c2, c3] := ⟨_, _, _, _, rfl⟩
  have HF := hid hF
  rw [hF] at hcs
  have hcs' : ∀ j, j < 4 → w2.cell? ⟨h, j, none⟩ = [Value.int .u8 c0, .int .u8 c1, .int .u8 c2, .int .u8 c3][j]? := hcs
  have hcp := fun ty => copy_four (cap := cap) (h := h) ty hD2 hcs' (ints_one c0 c1 c2 c3)
  have hE1 : (w2.setRow (w.heap.size + 1) #[.int .u8 c0, .int .u8 c1, .int .u8 c2, .int .u8 c3]).heap[w.heap.size]? = some (.cells #[.int .u8 0, .int .u8 0, .int .u8 0, .int .u8 0] 37 (0, 0)) := by
    rw [setRow_other _ _ _ _ (by omega)]; exact hD1
  have hE2 := setRow_heap w2 (w.heap.size + 1) _ #[.int .u8 c0, .int .u8 c1, .int .u8 c2, .int .u8 c3] 37 _ hD2
  have b5 := below_setRow b4 (show w.heap.size ≤ w.heap.size + 1 by omega) #[.int .u8 c0, .int .u8 c1, .int .u8 c2, .int .u8 c3]
  clear hC1 hB1 hB2 sB hb4 hown hD1 hD2 b4 b3 hcs hcs' hF HV hf
  generalize hw3 : w2.setRow (w.heap.size + 1) #[.int .u8 c0, .int .u8 c1, .int .u8 c2, .int .u8 c3] = w3 at *
  clear hw3
  have d0 := Joins.cell_of_block hE2 0
  have d1 := Joins.cell_of_block hE2 1
  have d2 := Joins.cell_of_block hE2 2
  have d3 := Joins.cell_of_block hE2 3
  have e0 := Joins.cell_of_block hE1 0
  have e1 := Joins.cell_of_block hE1 1
  have e2 := Joins.cell_of_block hE1 2
  have e3 := Joins.cell_of_block hE1 3
  simp at d0 d1 d2 d3 e0 e1 e2 e3
  have f0 := Joins.unfrozen_of_block hE1
  have HE1 := hid hE1
  clear hE1 hE2
  go_wp2
  have g0 := Joins.block_setCell HE1.out (i := 0) (.int .u8 c0)
  have g1 := Joins.block_setCell g0 (i := 1) (.int .u8 c1)
  have g2 := Joins.block_setCell g1 (i := 2) (.int .u8 c2)
  have g3 := Joins.block_setCell g2 (i := 3) (.int .u8 c3)
  refine bodyPost_ret (results_cell_row (ty := 37) rfl _ _ _ _ _ _ _ rfl g3 Try.underlying37 rfl (by kernel_rfl)) rfl ?_
  refine ⟨?_, (((b5.setCell (p := ⟨w.heap.size, 0, none⟩) (Nat.le_refl _) _).setCell (p := ⟨w.heap.size, 1, none⟩) (Nat.le_refl _) _).setCell (p := ⟨w.heap.size, 2, none⟩) (Nat.le_refl _) _).setCell (p := ⟨w.heap.size, 3, none⟩) (Nat.le_refl _) _⟩
  rw [HF.out]
  rfl

theorem forge_bytes (x : Nat) : ((fourI x).map (Value.int .u8)).toArray = #[.int .u8 ((x % 256 : Nat) : Int), .int .u8 ((x / 256 % 256 : Nat) : Int), .int .u8 ((x / 65536 % 256 : Nat) : Int), .int .u8 ((x / 16777216 % 256 : Nat) : Int)] := rfl

theorem forge_ref (s t : Nat) (w : World) (hs : s < 2 ^ 32) (ht : t < 2 ^ 32) : Calls Try.prog 24 #[.int .u32 (s : Int), .int .u32 (t : Int)] w fun e w' => e = .returned (.agg ((fourI (forge s t)).map (Value.int .u8)).toArray) ∧ Below w.heap.size w w' := by
  obtain ⟨i0, hi, hz0, hz1, hz2⟩ := info_parts Try.info5
  have b1 := bel_alloc w (.cells #[.int .u8 0, .int .u8 0, .int .u8 0, .int .u8 0] 37)
  have hA := heap_new w (.cells #[.int .u8 0, .int .u8 0, .int .u8 0, .int .u8 0] 37)
  have sA : (w.alloc (.cells #[.int .u8 0, .int .u8 0, .int .u8 0, .int .u8 0] 37)).heap.size = w.heap.size + 1 := by simp
  go_enter Try.func24, Try.ntmps24
  go_wp2_with (at_make; refine wpList_make_full _ rfl _ _ 23 rfl (w.heap.size + 1) 5 i0 (.int .u8 0) 1 Try.underlying23 hi hz0 hz1 .i64 .i64 _ _ 4 rfl rfl (by first | rfl | omega) (by first | rfl | omega) (by rw [hz2]; omega) (by unfold maxLen; omega) (by simp) ?_)
  intro w1 hown0 hgrow
  generalize w.alloc (.cells #[.int .u8 0, .int .u8 0, .int .u8 0, .int .u8 0] 37) = wA at *
  have hb1 : Below wA.heap.size wA w1 := (Below.refl _ _).grown hgrow (Nat.le_refl _) (fun k hk => by cases hk)
  rw [toList_madeCells_one] at hown0
  have hrd := zeros_rd hown0 (by unfold maxLen; omega)
  have HA := hid (back_ref t _ _ _ _ ht hrd)
  have hB1 : w1.heap[w.heap.size]? = some (.cells #[.int .u8 0, .int .u8 0, .int .u8 0, .int .u8 0] 37 (0, 0)) := by rw [hb1.block _ (by omega)]; exact hA
  have b2 := Bn b1 hb1
  have HV : Hid (bits .xor .u32 ((back t [0, 0, 0, 0] : Nat) : Int) (s : Int) = ((forge s t : Nat) : Int)) := by
    have := xor32 _ _ (back_lt t [0, 0, 0, 0] ht) hs
    exact this
  have hf := forge_lt s t hs ht
  clear hown0 hgrow hrd b1 hA sA hb1
  go_wp2_with fail
  go_at_call 22
  refine HA.out.mono ?_
  rintro e w' ⟨rfl, hw⟩
  obtain rfl := hw.symm
  clear hw
  rw [show List.replicate 4 0 = [0, 0, 0, 0] from rfl]
  have e0 := Joins.cell_of_block hB1 0
  have e1 := Joins.cell_of_block hB1 1
  have e2 := Joins.cell_of_block hB1 2
  have e3 := Joins.cell_of_block hB1 3
  simp at e0 e1 e2 e3
  have f0 := Joins.unfrozen_of_block hB1
  have HE1 := hid hB1
  clear hB1
  go_wp2
  rw [HV.out]
  generalize forge s t = x at *
  have g0 := Joins.block_setCell HE1.out (i := 0) (.int .u8 ((x : Int) % 256))
  have g1 := Joins.block_setCell g0 (i := 1) (.int .u8 ((x : Int) / 256 % 256))
  have g2 := Joins.block_setCell g1 (i := 2) (.int .u8 ((x : Int) / 65536 % 256))
  have g3 := Joins.block_setCell g2 (i := 3) (.int .u8 ((x : Int) / 16777216 % 256))
  refine bodyPost_ret (results_cell_row (ty := 37) rfl _ _ _ _ _ _ _ rfl g3 Try.underlying37 rfl (by kernel_rfl)) rfl ?_
  refine ⟨?_, (((b2.setCell (p := ⟨w.heap.size, 0, none⟩) (Nat.le_refl _) _).setCell (p := ⟨w.heap.size, 1, none⟩) (Nat.le_refl _) _).setCell (p := ⟨w.heap.size, 2, none⟩) (Nat.le_refl _) _).setCell (p := ⟨w.heap.size, 3, none⟩) (Nat.le_refl _) _⟩
  rw [forge_bytes]
  simp
end Go.Proofs.Ytohbghniangknaa
