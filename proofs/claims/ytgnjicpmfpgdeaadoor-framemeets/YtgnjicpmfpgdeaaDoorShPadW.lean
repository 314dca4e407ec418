/-
  The contract of sha.Pad: the padding, in new memory.
-/
import Derived.Test.YtgnjicpmfpgdeaaDoorShJa
import Derived.Test.YtgnjicpmfpgdeaaDoorShStepW
import Derived.Deep.OwnRows
namespace Go.Proofs.YtgnjicpmfpgdeaaDoor.Sh
open Go.RowKit Sha

set_option maxRecDepth 100000 in
/-- 'make([]T, m, n)'. -/
theorem wpList_make_part {P : Program} (w : World) {ops : Array Oper} {rest : List Oper} {o : Oper} {a : Act} {Q : Exit → Act → World → Prop}
    (hg : o.guard = none) (l c : Operand) (t : TypeId) (hop : o.op = Op.makeSlice t l c)
    (e : TypeId) (i : TypeInfo) (z : Value) (ht : P.underlying t = some (.slice e)) (hi : P.info? e = some i) (hz : i.zero = some z) (hsize : i.size = 1) (hz1 : z.cells = #[z])
    (kl kc : IntKind) (L C : Int) (m n : Nat) (hl : a.eval l = .int kl L) (hc : a.eval c = .int kc C) (hL : L = (m : Int)) (hC : C = (n : Int)) (hmn : m ≤ n) (hbytes : i.bytes * n ≤ 281474976710656) (h63 : n ≤ 9223372036854775807)
    (hK : wpList P ops Q rest (a.put o.dst (.slice (some ⟨w.heap.size, 0, none⟩) m n)) (w.alloc (.cells (madeCells #[z] n) e))) :
    wpList P ops Q (o :: rest) a w := by
  subst hL hC
  refine wpList_plain hg fun K hK' => ?_
  have hb' : (i.bytes : Int) * (n : Int) ≤ 281474976710656 := by
    have h : ((i.bytes * n : Nat) : Int) ≤ 281474976710656 := by omega
    rwa [Int.natCast_mul] at h
  have hrun := run_make (P := P) w t e i z ht hi hz kl kc m n (by omega) (by omega) hb' (by omega)
  simp only [Int.toNat_natCast, hsize, Nat.mul_one, hz1] at hrun
  unfold Oper.wp
  simp [execOp, hop, hl, hc, hrun, Result.andThen]
  exact hK' _ _ hK

set_option maxRecDepth 100000 in
theorem tail_bytes (n : Nat) : Wd.bytesF 8 1 (IntKind.u64.wrap (8 * (n : Int))) = ints (tailL n 8) := by
  apply List.ext_getElem?
  intro j
  have h1 : (Wd.bytesF 8 1 (IntKind.u64.wrap (8 * (n : Int)))).length = 8 := Wd.bytesF_length _ _ _
  have h2 : (ints (tailL n 8)).length = 8 := by rw [ints_length, tailL_length]
  by_cases hj : j < 8
  · have e1 := Wd.bytesF_getD 8 1 (IntKind.u64.wrap (8 * (n : Int))) j hj
    have e2 := ints_getD (tailL n 8) j
    rw [List.getD, List.getElem?_eq_getElem (by omega), Option.getD_some] at e1 e2
    rw [List.getElem?_eq_getElem (by omega), List.getElem?_eq_getElem (by omega), e1, e2]
    have e3 : (tailL n 8).getD j 0 = (8 * n) % 2 ^ 64 / 256 ^ (7 - j) % 256 := by
      simp [tailL, List.getD, hj]
    rw [e3, IntKind.wrap_u64, Wd.shF, if_pos rfl, ← Wd.pow256]
    have e4 : (8 * (n : Int)) % 18446744073709551616 = ((8 * n % 2 ^ 64 : Nat) : Int) := by omega
    rw [e4, show (256 : Int) ^ (8 - 1 - j) = ((256 ^ (7 - j) : Nat) : Int) from by simp, ← Int.natCast_ediv]
    congr 1
  · rw [List.getElem?_eq_none (by omega), List.getElem?_eq_none (by omega)]

set_option maxRecDepth 100000 in
theorem pad_zeros (n : Nat) : (IntKind.u64.wrap (-(IntKind.u64.wrap (IntKind.u64.wrap ((n : Int) + 1) + 8)))).tmod 64 = ((zeroes n : Nat) : Int) := by
  rw [Int.tmod_eq_emod_of_nonneg (by rw [IntKind.wrap_u64]; omega)]
  simp only [IntKind.wrap_u64]
  unfold zeroes
  omega

set_option maxRecDepth 100000 in
/-- A row of bytes in new memory reads as they are. -/
theorem V_ints (l : List Nat) : (ints l).map (Value.int .u8) = V l := by simp [ints, V]

set_option maxRecDepth 100000 in
set_option maxHeartbeats 1600000 in
theorem pad_word (n : Nat) (w : World) (_hn : n < 2 ^ 64) :
    Calls Tryd.prog 89 #[.int .u64 (n : Int)] w fun e w' => ∃ v, e = .returned v ∧ w'.ownsRow w.heap.size 5 1 v (pad n).length (V (pad n)) ∧ Below w.heap.size w w' := by
  obtain ⟨i0, hi, hz0, hz1, hz2⟩ := info_parts Tryd.info5
  have HZ := pad_zeros n
  have hzl : zeroes n < 64 := Nat.mod_lt _ (by decide)
  have HPP := hid (pad_parts n)
  have HTB := hid (tail_bytes n)
  have HTL : Hid ((tailL n 8).length = 8) := tailL_length n 8
  have htlt : ∀ j, (tailL n 8).getD j 0 < 256 := by
    intro j
    by_cases hj : j < 8
    · simp [tailL, List.getD, hj]; exact Nat.mod_lt _ (by decide)
    · simp [List.getD, List.getElem?_eq_none (show (tailL n 8).length ≤ j from by rw [tailL_length]; omega)]
  have HTT := hid htlt
  have HBW := hid (fun W : World => Wd.bytes_word (IntKind.u64.wrap (8 * (n : Int))) 64 1 8 W (by rw [IntKind.wrap_u64]; omega) (by rw [IntKind.wrap_u64]; omega) (by decide) (by decide) (by decide))
  clear htlt
  generalize zeroes n = z at *
  generalize tailL n 8 = tl at *
  have e0 := heap_new w (.cells (madeCells #[.int .u8 0] (z + 9)) 5)
  have b0 := bel_alloc w (.cells (madeCells #[.int .u8 0] (z + 9)) 5)
  have hml : (madeCells #[Value.int .u8 0] (z + 9)) = (V (List.replicate (z + 9) 0)).toArray := by
    apply Array.ext'
    rw [toList_madeCells_one]
    simp [V]
  have c0 : (w.alloc (.cells (madeCells #[.int .u8 0] (z + 9)) 5)).cell? ⟨w.heap.size, 0, none⟩ = some (.int .u8 0) := by
    rw [Joins.cell_of_block e0 0, hml]; rfl
  have f0 := Joins.unfrozen_of_block e0 0
  have e1 := heap_new w (.cells ((madeCells #[.int .u8 0] (z + 9)).setIfInBounds 0 (.int .u8 128)) 5)
  have b1 := bel_alloc w (.cells ((madeCells #[.int .u8 0] (z + 9)).setIfInBounds 0 (.int .u8 128)) 5)
  have O1 : (w.alloc (.cells ((madeCells #[.int .u8 0] (z + 9)).setIfInBounds 0 (.int .u8 128)) 5)).ownsRow w.heap.size 5 1 (.slice (some ⟨w.heap.size, 0, none⟩) (z + 1) (z + 9)) (128 :: List.replicate z 0).length (V (128 :: List.replicate z 0)) := by
    refine ⟨by simp [V], Or.inr ⟨w.heap.size, z + 9, _, by simp, Nat.le_refl _, e1, by simp, by unfold maxLen; omega, by rw [hml]; simp [V], ?_⟩⟩
    rw [hml]
    simp [V]
    rw [show z + 9 = (z + 8) + 1 from rfl, List.replicate_succ]
    simp
  have HO1 := hid O1
  have HB1 := hid b1
  clear O1 e1 b1 b0 e0 hml
  go_enter Tryd.func89, Tryd.ntmps89
  go_wp2_with (at_make; refine wpList_make_part _ rfl _ _ 22 rfl 5 i0 (.int .u8 0) Tryd.underlying22 hi hz0 hz1 rfl .u64 .u64 _ _ (z + 1) (z + 9) rfl rfl (by omega) (by omega) (by omega) (by rw [hz2]; omega) (by omega) ?_)
  generalize hW1 : w.alloc (.cells ((madeCells #[.int .u8 0] (z + 9)).setIfInBounds 0 (.int .u8 128)) 5) = W1 at *
  clear hW1 c0 f0
  go_at_call 55
  refine (HBW.out _).mono ?_
  rintro _ w2 ⟨pv, rfl, hpo, hpb⟩
  rw [HTB.out, ints_length, V_ints] at hpo
  obtain ⟨pg, pc, rfl, hpg, hprd⟩ := rd_own hpo (by rw [HTL.out]; decide) HTT.out
  have hown2 := own_later HO1.out hpb
  have hb2 := Bn HB1.out hpb
  have hz2' := hb2.size
  have htl8 : tl.length ≤ 8 := by rw [HTL.out]; exact Nat.le_refl _
  have hrl : (128 :: List.replicate z 0).length ≤ z + 1 := by simp
  clear hpo HBW
  go_wp2_with (at_builtin; refine app_any _ rfl _ _ rfl w.heap.size _ (128 :: List.replicate z 0) rfl hown2 _ pc tl rfl hprd (by omega) (by omega) ?_)
  intro v' w3 hown3 hgrow
  have hb3 : Below w.heap.size w w3 := hb2.grown hgrow hz2' (fun j hj => (hown2.lt j hj).1)
  have R : w3.ownsRow w.heap.size 5 1 v' (pad n).length (V (pad n)) := by
    rw [HPP.out, List.cons_append, show (128 :: (List.replicate z 0 ++ tl)).length = z + tl.length + 1 from by simp]
    exact hown3
  clear hown3 hgrow hown2 hprd
  go_wp2
  go_ret
  exact ⟨_, rfl, R, hb3⟩
end Go.Proofs.YtgnjicpmfpgdeaaDoor.Sh
