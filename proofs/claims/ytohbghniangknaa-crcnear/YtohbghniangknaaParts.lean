/-
  The contracts of Of, the code's and the document's, and of the statements' 'awake'.
-/
import Derived.Test.YtohbghniangknaaSums
import Derived.Lib.SmallJoins
namespace Go.Proofs.Ytohbghniangknaa
open Go.RowKit Crc

/-- A slice of slices reads, in the world w, as these rows of bytes. -/
structure Ps (w : World) (a : Option Addr) (cap : Nat) (l : List (List Nat)) : Prop where
  room : l.length ≤ cap
  most : cap ≤ maxLen
  cells : 0 < l.length → ∃ b off, a = some ⟨b, off, none⟩ ∧ ∀ j, j < l.length → ∃ v a' cap', w.cell? ⟨b, off + j, none⟩ = some v ∧ Rd w v a' cap' (l.getD j [])

def sumL (l : List (List Nat)) : Nat := add 0 l.flatten

theorem sumL_lt (l : List (List Nat)) : sumL l < 2 ^ 32 := add_lt 0 _ (by decide)

theorem sumL_take (l : List (List Nat)) (k : Nat) (hk : k < l.length) : sumL (l.take (k + 1)) = add (sumL (l.take k)) (l.getD k []) := by
  have e : l.take (k + 1) = l.take k ++ [l.getD k []] := by
    rw [List.take_succ_eq_append_getElem hk]
    simp [List.getD, List.getElem?_eq_getElem hk]
  rw [sumL, sumL, e, List.flatten_append, add_append]
  simp

theorem of_word (a : Option Addr) (cap : Nat) (l : List (List Nat)) (w : World) (hr : Ps w a cap l) :
    Calls Try.prog 12 #[.slice a l.length cap] w fun e w' => e = .returned (.int .u32 ((sumL l : Nat) : Int)) ∧ w' = w := by
  have hcells := hr.cells
  have hroom := hr.room
  have hmost := hr.most
  unfold maxLen at hmost
  have HT := hid (sumL_take l)
  have HF : Hid (sumL (l.take l.length) = sumL l) := by rw [List.take_length]; exact rfl
  clear hr
  generalize l.length = n at *
  go_enter Try.func12, Try.ntmps12
  go_wp2
  go_loop [3, 8] (fun r i => ∃ k : Nat, k ≤ n ∧ i = .int .i64 k ∧ r = .int .u32 ((sumL (l.take k) : Nat) : Int)) (fun _ i => n - (intOf i).toNat)
  case atStart => exact ⟨0, by omega, rfl, by rw [show sumL (l.take 0) = 0 from by rw [List.take_zero]; decide]; rfl⟩
  case round =>
    obtain ⟨k, hk, rfl, rfl⟩ := hrel
    by_cases hlt : k < n
    · obtain ⟨b, off, rfl, hc⟩ := hcells (by omega)
      obtain ⟨v, a', cap', hck, hrd⟩ := hc k hlt
      have hv := hrd.val
      subst hv
      have HA := hid (add_word (sumL (l.take k)) a' cap' (l.getD k []) w (sumL_lt _) hrd)
      have HTk := hid (HT.out k hlt)
      have hkn : (k : Int) < (n : Int) := by omega
      generalize sumL (l.take k) = x at *
      generalize l.getD k [] = y at *
      clear hc hcells hrd
      go_wp2_with fail
      go_at_call 10
      refine HA.out.mono ?_
      rintro e w' ⟨rfl, hw⟩
      obtain rfl := hw.symm
      clear hw
      go_wp2
      go_round
      case rel => exact ⟨k + 1, by omega, by go_num, by rw [HTk.out]⟩
      case measure => simp [intOf]; omega
    · have hkn : k = n := by omega
      subst hkn
      go_wp2
      go_ret
      exact ⟨ret_int (by rw [HF.out]), rfl⟩

theorem of_ref (a : Option Addr) (cap : Nat) (l : List (List Nat)) (w : World) (hr : Ps w a cap l) :
    Calls Try.prog 13 #[.slice a l.length cap] w fun e w' => e = .returned (.int .u32 ((sumL l : Nat) : Int)) ∧ w' = w := by
  have hcells := hr.cells
  have hroom := hr.room
  have hmost := hr.most
  unfold maxLen at hmost
  have HT := hid (sumL_take l)
  have HF : Hid (sumL (l.take l.length) = sumL l) := by rw [List.take_length]; exact rfl
  clear hr
  generalize l.length = n at *
  go_enter Try.func13, Try.ntmps13
  go_wp2
  go_loop [3, 4] (fun r i => ∃ k : Nat, k ≤ n ∧ i = .int .i64 k ∧ r = .int .u32 ((sumL (l.take k) : Nat) : Int)) (fun _ i => n - (intOf i).toNat)
  case atStart => exact ⟨0, by omega, rfl, by rw [show sumL (l.take 0) = 0 from by rw [List.take_zero]; decide]; rfl⟩
  case round =>
    obtain ⟨k, hk, rfl, rfl⟩ := hrel
    by_cases hlt : k < n
    · obtain ⟨b, off, rfl, hc⟩ := hcells (by omega)
      obtain ⟨v, a', cap', hck, hrd⟩ := hc k hlt
      have hv := hrd.val
      subst hv
      have HA := hid (add_ref (sumL (l.take k)) a' cap' (l.getD k []) w (sumL_lt _) hrd)
      have HTk := hid (HT.out k hlt)
      have hkn : (k : Int) < (n : Int) := by omega
      generalize sumL (l.take k) = x at *
      generalize l.getD k [] = y at *
      clear hc hcells hrd
      go_wp2_with fail
      go_at_call 11
      refine HA.out.mono ?_
      rintro e w' ⟨rfl, hw⟩
      obtain rfl := hw.symm
      clear hw
      go_wp2
      go_round
      case rel => exact ⟨k + 1, by omega, by go_num, by rw [HTk.out]⟩
      case measure => simp [intOf]; omega
    · have hkn : k = n := by omega
      subst hkn
      go_wp2
      go_ret
      exact ⟨ret_int (by rw [HF.out]), rfl⟩

theorem getD_lt (zs : List Nat) (h : ∀ z ∈ zs, z < 256) (j : Nat) : zs.getD j 0 < 256 := by
  by_cases hj : j < zs.length
  · have : zs.getD j 0 ∈ zs := by
      simp only [List.getD, List.getElem?_eq_getElem hj, Option.getD_some]
      exact List.getElem_mem hj
    exact h _ this
  · simp [List.getD, List.getElem?_eq_none (show zs.length ≤ j from by omega)]

/-- A new row of bytes. -/
theorem Rd.fresh (w : World) (C : Array Value) (fr : Nat × Nat) (zs : List Nat) (n g : Nat) (hg : g = w.heap.size) (hn : zs.length = n) (hm : n ≤ maxLen) (hC : C = (zs.map fun z : Nat => Value.int .u8 (z : Int)).toArray) (hz : ∀ z ∈ zs, z < 256) :
    Rd (w.alloc (.cells C 5 fr)) (.slice (some ⟨g, 0, none⟩) n n) (some ⟨g, 0, none⟩) n zs := by
  subst hg hn
  refine ⟨rfl, Nat.le_refl _, hm, fun _ => ⟨w.heap.size, 0, rfl, by simp, fun j hj => ?_⟩, getD_lt zs hz⟩
  rw [Nat.zero_add, World.cell?_alloc_mark, hC]
  simp [List.getD, List.getElem?_eq_getElem hj]

theorem bel_alloc (w : World) (o : Obj) : Below w.heap.size w (w.alloc o) := (Below.refl _ _).alloc (Nat.le_refl _) o

/-- Two rows as a new list of rows. -/
theorem Ps.two {w : World} {v1 v2 : Value} {a1 a2 : Option Addr} {c1 c2 : Nat} {z1 z2 : List Nat} (h1 : Rd w v1 a1 c1 z1) (h2 : Rd w v2 a2 c2 z2) (g : Nat) (hg : g = w.heap.size) :
    Ps (w.alloc (.cells #[v1, v2] 23)) (some ⟨g, 0, none⟩) 2 [z1, z2] := by
  subst hg
  have hb := bel_alloc w (.cells #[v1, v2] 23)
  refine ⟨Nat.le_refl _, by unfold maxLen; omega, fun _ => ⟨w.heap.size, 0, rfl, fun j hj => ?_⟩⟩
  have hc := World.cell?_alloc_mark w #[v1, v2] 23 (0, 0)
  match j, hj with
  | 0, _ => exact ⟨v1, a1, c1, hc 0, h1.later hb⟩
  | 1, _ => exact ⟨v2, a2, c2, hc 1, h2.later hb⟩

theorem awake_any (w : World) : Calls Try.prog 16 #[] w fun e w' => e = .returned (.bool true) ∧ Below w.heap.size w w' := by
  have kc := fun (w : World) (C : Array Value) (n c : Nat) => Lib.run_convert_bytes_const (P := Try.prog) w 23 5 C n c Try.underlying23 Try.underlying5
  have kd := Joins.run_convert_bytes_const_at (P := Try.prog) (w.alloc (.cells #[.int .u8 49, .int .u8 50, .int .u8 51] 5 (3, 4))) 23 5 #[.int .u8 52, .int .u8 53, .int .u8 54, .int .u8 55, .int .u8 56, .int .u8 57] 6 6 (w.heap.size + 1) (by simp) Try.underlying23 Try.underlying5
  have r1 := Rd.fresh w #[.int .u8 49, .int .u8 50, .int .u8 51] (3, 4) [49, 50, 51] 3 _ rfl rfl (by decide) rfl (by decide)
  have b1 := bel_alloc w (.cells #[.int .u8 49, .int .u8 50, .int .u8 51] 5 (3, 4))
  have s1 : (w.alloc (.cells #[.int .u8 49, .int .u8 50, .int .u8 51] 5 (3, 4))).heap.size = w.heap.size + 1 := by simp
  generalize hw1 : w.alloc (.cells #[.int .u8 49, .int .u8 50, .int .u8 51] 5 (3, 4)) = w1 at *
  have r2 := Rd.fresh w1 #[.int .u8 52, .int .u8 53, .int .u8 54, .int .u8 55, .int .u8 56, .int .u8 57] (6, 7) [52, 53, 54, 55, 56, 57] 6 (w.heap.size + 1) s1.symm rfl (by decide) rfl (by decide)
  have b2 := bel_alloc w1 (.cells #[.int .u8 52, .int .u8 53, .int .u8 54, .int .u8 55, .int .u8 56, .int .u8 57] 5 (6, 7))
  have s2 : (w1.alloc (.cells #[.int .u8 52, .int .u8 53, .int .u8 54, .int .u8 55, .int .u8 56, .int .u8 57] 5 (6, 7))).heap.size = w.heap.size + 1 + 1 := by simp [s1]
  have p := Ps.two (r1.later b2) r2 (w.heap.size + 1 + 1) s2.symm
  have HB := hid (Bn (Bn b1 b2) (bel_alloc _ (.cells #[.slice (some ⟨w.heap.size, 0, none⟩) 3 3, .slice (some ⟨w.heap.size + 1, 0, none⟩) 6 6] 23)))
  subst hw1
  have HO := hid (of_word _ _ _ _ p)
  have hs : sumL [[49, 50, 51], [52, 53, 54, 55, 56, 57]] = 3808858755 := by decide +kernel
  rw [hs] at HO
  clear r1 b1 s1 r2 b2 s2 p hs
  go_enter Try.func16, Try.ntmps16
  go_wp2_with fail
  go_at_call 12
  refine HO.out.mono ?_
  rintro e w' ⟨rfl, hw⟩
  obtain rfl := hw.symm
  clear hw
  go_wp2
  go_ret
  exact ⟨rfl, HB.out⟩
end Go.Proofs.Ytohbghniangknaa
