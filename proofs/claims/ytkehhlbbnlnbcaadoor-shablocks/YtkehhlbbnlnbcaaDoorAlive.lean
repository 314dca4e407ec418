/-
  The contract of the statements' 'alive': it returns true where the program's tables are as they were laid.
-/
import Derived.Test.YtkehhlbbnlnbcaaDoorDigest
import Derived.Test.YtkehhlbbnlnbcaaDoorText
namespace Go.Proofs.YtkehhlbbnlnbcaaDoor
open Go.RowKit Sha

/-- A new row of bytes. -/
theorem Rd.fresh (w : World) (C : Array Value) (fr : Nat × Nat) (zs : List Nat) (n g : Nat) (hg : g = w.heap.size) (hn : zs.length = n) (hm : n ≤ maxLen) (hC : C = (zs.map fun z : Nat => Value.int .u8 (z : Int)).toArray) (hz : ∀ z ∈ zs, z < 256) :
    Rd (w.alloc (.cells C 5 fr)) (.slice (some ⟨g, 0, none⟩) n n) (some ⟨g, 0, none⟩) n zs := by
  subst hg hn
  refine ⟨rfl, Nat.le_refl _, hm, fun _ => ⟨w.heap.size, 0, rfl, by simp, fun j hj => ?_⟩, (all_lt zs).2 hz, fun h => by cases h⟩
  rw [Nat.zero_add, World.cell?_alloc_mark, hC]
  simp [List.getD, List.getElem?_eq_getElem hj]

/-- Two rows as a new list of rows. -/
theorem Ps.two {w : World} {v1 v2 : Value} {a1 a2 : Option Addr} {c1 c2 : Nat} {z1 z2 : List Nat} (h1 : Rd w v1 a1 c1 z1) (h2 : Rd w v2 a2 c2 z2) (g : Nat) (hg : g = w.heap.size) :
    Ps (w.alloc (.cells #[v1, v2] 35)) (some ⟨g, 0, none⟩) 2 [z1, z2] := by
  subst hg
  have hb := bel_alloc w (.cells #[v1, v2] 35)
  refine ⟨Nat.le_refl _, by unfold maxLen; omega, fun _ => ⟨w.heap.size, 0, rfl, by simp, fun j hj => ?_⟩⟩
  have hc := World.cell?_alloc_mark w #[v1, v2] 35 (0, 0)
  match j, hj with
  | 0, _ => exact ⟨v1, a1, c1, hc 0, h1.later hb⟩
  | 1, _ => exact ⟨v2, a2, c2, hc 1, h2.later hb⟩

theorem abc_text : (⟨(bytesU (textN (digest [97, 98, 99]))).toArray⟩ : ByteArray) = ⟨#[98, 97, 55, 56, 49, 54, 98, 102, 56, 102, 48, 49, 99, 102, 101, 97, 52, 49, 52, 49, 52, 48, 100, 101, 53, 100, 97, 101, 50, 50, 50, 51, 98, 48, 48, 51, 54, 49, 97, 51, 57, 54, 49, 55, 55, 97, 57, 99, 98, 52, 49, 48, 102, 102, 54, 49, 102, 50, 48, 48, 49, 53, 97, 100]⟩ := by
  rw [abc]
  decide +kernel

theorem digest_lt (l : List Nat) : ∀ j, (digest l).getD j 0 < 256 := by
  rw [digest]
  generalize blocks _ _ _ = s
  intro j
  by_cases hj : j < 32
  · rw [bytes_get s j hj]; exact Nat.mod_lt _ (by decide)
  · rw [List.getD, List.getElem?_eq_none (by rw [bytes_length]; omega)]; decide

set_option maxHeartbeats 1600000 in
theorem alive_any (w : World) (hlaid : Laid w) : Calls Tryd.prog 12 #[] w fun e w' => e = .returned (.bool true) ∧ Below w.heap.size w w' := by
  have kc := fun (w : World) (C : Array Value) (n c : Nat) => Lib.run_convert_bytes_const (P := Tryd.prog) w 35 5 C n c Tryd.underlying35 Tryd.underlying5
  have kd := Joins.run_convert_bytes_const_at (P := Tryd.prog) (w.alloc (.cells #[.int .u8 97] 5 (1, 2))) 35 5 #[.int .u8 98, .int .u8 99] 2 2 (w.heap.size + 1) (by simp) Tryd.underlying35 Tryd.underlying5
  have r1 := Rd.fresh w #[.int .u8 97] (1, 2) [97] 1 _ rfl rfl (by decide) rfl (by decide)
  have b1 := bel_alloc w (.cells #[.int .u8 97] 5 (1, 2))
  have s1 : (w.alloc (.cells #[.int .u8 97] 5 (1, 2))).heap.size = w.heap.size + 1 := by simp
  generalize hw1 : w.alloc (.cells #[.int .u8 97] 5 (1, 2)) = w1 at *
  have r2 := Rd.fresh w1 #[.int .u8 98, .int .u8 99] (2, 3) [98, 99] 2 (w.heap.size + 1) s1.symm rfl (by decide) rfl (by decide)
  have b2 := bel_alloc w1 (.cells #[.int .u8 98, .int .u8 99] 5 (2, 3))
  have s2 : (w1.alloc (.cells #[.int .u8 98, .int .u8 99] 5 (2, 3))).heap.size = w.heap.size + 1 + 1 := by simp [s1]
  have p := Ps.two (r1.later b2) r2 (w.heap.size + 1 + 1) s2.symm
  have hb3 := Bn (Bn b1 b2) (bel_alloc _ (.cells #[.slice (some ⟨w.heap.size, 0, none⟩) 1 1, .slice (some ⟨w.heap.size + 1, 0, none⟩) 2 2] 35))
  have HB := hid hb3
  subst hw1
  have HO := hid (sum_word _ _ _ _ (hlaid.later hb3) p (by decide))
  have HTX := hid (fun W : World => text_word (digest [97, 98, 99]) W rfl (digest_lt _))
  rw [abc_text] at HTX
  clear r1 b1 s1 r2 b2 s2 p hlaid hb3
  go_enter Tryd.func12, Tryd.ntmps12
  go_wp2_with fail
  go_at_call 10
  refine HO.out.mono ?_
  rintro _ w4 ⟨rfl, hb4⟩
  have HB4 := hid (Bn HB.out hb4)
  clear hb4
  go_wp2_with fail
  go_at_call 21
  refine (HTX.out w4).mono ?_
  rintro _ w5 ⟨rfl, hb5⟩
  have HB5 := hid (Bn HB4.out hb5)
  clear hb5
  go_wp2
  go_ret
  exact ⟨rfl, HB5.out⟩
end Go.Proofs.YtkehhlbbnlnbcaaDoor
