/-
  The arguments that the statements take: arrays of numbers, rows of bytes, lists of rows.
-/
import Derived.Test.YtkehhlbbnlnbcaaDoorDoor
namespace Go.Proofs.YtkehhlbbnlnbcaaDoor
open Go.ChangeShapes Go.WideShapes Go.ChangeAt Go.RowKit Sha

theorem wf_u8 {x : Int} (h : (Lit.int .u8 x).wf = true) : 0 ≤ x ∧ x ≤ 255 := by
  have h1 : IntKind.u8.min = 0 := rfl
  have h2 : IntKind.u8.max = 255 := rfl
  simp only [Lit.wf, Bool.and_eq_true, decide_eq_true_eq] at h
  omega
theorem wf_u32 {x : Int} (h : (Lit.int .u32 x).wf = true) : 0 ≤ x ∧ x < 4294967296 := by
  have h1 : IntKind.u32.min = 0 := rfl
  have h2 : IntKind.u32.max = 4294967295 := rfl
  simp only [Lit.wf, Bool.and_eq_true, decide_eq_true_eq] at h
  omega
theorem wf_u64 {x : Int} (h : (Lit.int .u64 x).wf = true) : 0 ≤ x ∧ x < 18446744073709551616 := by
  have h1 : IntKind.u64.min = 0 := rfl
  have h2 : IntKind.u64.max = 18446744073709551615 := rfl
  simp only [Lit.wf, Bool.and_eq_true, decide_eq_true_eq] at h
  omega

/-- An argument that is an array of numbers. -/
theorem open_arr {P : Program} {H : Type} {enc : TypeId × Value → H} {W : World} {base : Nat} {t e : TypeId} {n : Nat} {k : IntKind} {v : Value} {d : DataW H} {p : List MemPlace} (ht : P.underlying t = some (.array n e)) (he : P.underlying e = some (.int k)) (hce : P.cellsOf e = 1) (hct : P.cellsOf t = n)
    (hmin : k.min = 0) (hv : Value.okWide P W .any base t v) (h : DataW.Trod enc P W 0 (fun _ => true) true t v d p) : ∃ l : List Nat, v = .agg (arr k l) ∧ l.length = n ∧ p = [] ∧ ∀ j, ((l.getD j 0 : Nat) : Int) ≤ k.max := by
  obtain ⟨cs, rfl, hsz, _⟩ : ∃ cs, v = .agg cs ∧ cs.size = P.cellsOf t ∧ Row.okWide P W .any base t cs := by
    simpa [Value.okWide, ht] using hv
  rw [hct] at hsz
  obtain ⟨fuel, hf⟩ := h
  obtain ⟨xs, m, _, hx, _, hxl, hel⟩ := DataW.trod_array ht hf
  simp only [Value.cells] at hel
  have key : ∀ i, i < n → ∃ z : Int, cs[i]? = some (.int k z) ∧ xs[i]? = some (.lit (.int k z), []) ∧ (Lit.int k z).wf = true := by
    intro i hi
    have h1 := hel i hi
    rw [hce, Nat.mul_one, List.getElem?_eq_getElem (by omega)] at h1
    obtain ⟨z, e1, e2, e3⟩ := DataW.trod_int he h1
    refine ⟨z, ?_, by rw [List.getElem?_eq_getElem (by omega), e2], e3⟩
    have := congrArg (·[0]?) e1
    simpa [List.getElem?_take, List.getElem?_drop] using this
  have hp : p = [] := by
    have e : p = xs.flatMap (·.2) := congrArg Prod.snd hx
    rw [e, List.flatMap_eq_nil_iff]
    intro x hxm
    obtain ⟨i, hi, rfl⟩ := List.getElem_of_mem hxm
    obtain ⟨z, _, h2, _⟩ := key i (by omega)
    rw [List.getElem?_eq_getElem hi] at h2
    injection h2 with h2
    rw [h2]
  refine ⟨cs.toList.map fun v => (intOf v).toNat, ?_, by simp [hsz], hp, fun j => ?_⟩
  · congr 1
    apply Array.ext'
    simp only [arr, List.map_map]
    apply List.ext_getElem?
    intro i
    by_cases hi : i < n
    · obtain ⟨z, h1, _, h3⟩ := key i hi
      have hz : 0 ≤ z := by
        simp only [Lit.wf, Bool.and_eq_true, decide_eq_true_eq] at h3
        omega
      simp only [List.getElem?_map, Array.getElem?_toList, h1, Option.map_some, Function.comp, intOf]
      rw [Int.toNat_of_nonneg hz]
    · rw [List.getElem?_eq_none (by simp; omega), List.getElem?_eq_none (by simp; omega)]
  · by_cases hj : j < n
    · obtain ⟨z, h1, _, h3⟩ := key j hj
      simp only [Lit.wf, Bool.and_eq_true, decide_eq_true_eq] at h3
      have : (cs.toList.map fun v => (intOf v).toNat).getD j 0 = z.toNat := by
        simp [List.getD, h1, intOf]
      rw [this]
      omega
    · have : (cs.toList.map fun v => (intOf v).toNat).getD j 0 = 0 := by
        simp [List.getD, List.getElem?_eq_none (show cs.toList.length ≤ j from by simp; omega)]
      rw [this]
      cases k <;> decide

theorem Tryd.cells32 : Tryd.prog.cellsOf 32 = 64 := by kernel_rfl
theorem Tryd.cells25 : Tryd.prog.cellsOf 25 = 32 := by kernel_rfl
theorem Tryd.laidOut : laidOutB Tryd.prog = true := by kernel_rfl

theorem getD_nat (zs : List Int) (j : Nat) : (zs.map Int.toNat).getD j 0 = (zs.getD j 0).toNat := by
  simp only [List.getD, List.getElem?_map]
  cases zs[j]? <;> rfl

/-- An argument of type []byte, as it is handed in. -/
theorem open_rd {H : Type} {enc : TypeId × Value → H} {W : World} {base : Nat} {v : Value} {d : DataW H} {p : List MemPlace} (hv : Value.okWide Tryd.prog W .any base 35 v)
    (h : DataW.Trod enc Tryd.prog W 0 (fun _ => true) true 35 v d p) (hlt : ∀ x ∈ p, x.block < W.heap.size) : ∃ a cap zs, v = .slice a (zs : List Nat).length cap ∧ Rd W (.slice a zs.length cap) a cap zs := by
  obtain ⟨a0, len, cap, rfl⟩ := okWide_slice Tryd.underlying35 hv
  obtain ⟨fuel, hf⟩ := h
  rcases open_ints Tryd.underlying35 Tryd.underlying5 Tryd.cells5 hf with ⟨hcs, hx⟩ | ⟨a, len', cap', zs, hcs, _, hl, hm, hz, hx, hcell, hwz⟩
  · simp [Value.cells] at hcs
    obtain ⟨rfl, rfl, rfl⟩ := hcs
    exact ⟨none, 0, [], rfl, rfl, Nat.le_refl _, by unfold maxLen; omega, fun h => absurd h (by simp), fun j => by simp, fun _ => rfl⟩
  · simp [Value.cells] at hcs
    obtain ⟨rfl, rfl, rfl⟩ := hcs
    simp only [Prod.mk.injEq] at hx
    obtain ⟨_, rfl⟩ := hx
    simp only [if_true] at hz
    have hlen : ((zs.take len).map Int.toNat).length = len := by simp; omega
    have hby : ∀ j, 0 ≤ (zs.take len).getD j 0 ∧ (zs.take len).getD j 0 ≤ 255 := by
      intro j
      by_cases hj : j < (zs.take len).length
      · have hm : (zs.take len).getD j 0 ∈ zs := by
          simp only [List.getD, List.getElem?_eq_getElem hj, Option.getD_some]
          exact List.mem_of_mem_take (List.getElem_mem hj)
        exact wf_u8 (hwz _ hm)
      · simp [List.getD, List.getElem?_eq_none (show (zs.take len).length ≤ j from by omega)]
    refine ⟨some a, cap, (zs.take len).map Int.toNat, by rw [hlen], rfl, by omega, hm, fun h0 => ?_, fun j => ?_, fun h => by cases h⟩
    · rw [hlen] at h0 ⊢
      obtain ⟨b, off, spot⟩ := a
      have hspot : spot = none := by simpa [Addr.add] using World.cell?_spot (hcell 0 (by omega))
      subst hspot
      have hbW : b < W.heap.size := hlt (.cell b off) (MemPlace.mem_row.2 ⟨0, by omega, by simp⟩)
      refine ⟨b, off, rfl, hbW, fun j hj => ?_⟩
      rw [getD_nat, Int.toNat_of_nonneg (hby j).1, ← add_plain]
      have e : (zs.take len).getD j 0 = zs.getD j 0 := by simp [List.getD, List.getElem?_take_of_lt hj]
      rw [e]
      exact hcell j (by omega)
    · rw [getD_nat]
      have := hby j
      omega

/-- Bytes as a string, in whatever later world. -/
theorem Rd.text {w : World} {v : Value} {a : Option Addr} {cap : Nat} {zs : List Nat} (h : Rd w v a cap zs) (W : World) (hb : Below w.heap.size w W) :
    (convert 35 9 v).run Tryd.prog W = .ok (.string (strOfNums (ints zs))) W := by
  have h' := h.later hb
  rw [h'.val]
  by_cases h0 : 0 < zs.length
  · obtain ⟨b, off, rfl, _, hc⟩ := h'.cells h0
    exact run_convert_bytes_arg (P := Tryd.prog) W 35 5 Tryd.underlying35 Tryd.underlying5 b off zs.length cap (ints zs) (ints_length zs) (fun j hj => by rw [ints_getD]; exact hc j hj) 9 Tryd.underlying9
  · have hz : zs = [] := List.length_eq_zero_iff.1 (by omega)
    subst hz
    rw [run_convert_bytes_string W 35 9 5 a _ cap Tryd.underlying35 Tryd.underlying5 Tryd.underlying9]
    cases a with
    | none => rfl
    | some ad =>
      rw [show ([] : List Nat).length = 0 from rfl]
      rw [run_bytesToString W ad 0 cap [] (by simpa using run_loadCells_list (P := Tryd.prog) W ad [] (by intro j v hj; simp at hj))]
      rfl

/-- A whole array in a block of its own, loaded. -/
theorem load_whole {w : World} {b : Nat} {t tt : TypeId} {k : IntKind} {l : List Nat} {d : TypeDesc} (hb : w.heap[b]? = some (.cells (arr k l) tt (0, 0))) (hu : Tryd.prog.underlying t = some d) (hd : d.isRow = true) (hi : (Tryd.prog.info? t).map (·.size) = some l.length) :
    (Instr.loadAt t (.pointer (some ⟨b, 0, none⟩))).run Tryd.prog w = .ok (.agg (arr k l)) w := by
  refine run_loadAt_mid w b 0 t (lst k l) d (fun j v hv => ?_) hu hd (by rw [lst_length]; exact hi)
  rw [Nat.zero_add, Joins.cell_of_block hb j, ← arr_lst, List.getElem?_toArray]
  exact hv

set_option maxRecDepth 100000 in
theorem start_word (w : World) (hl : Laid w) : Calls Tryd.prog 17 #[] w fun e w' => e = .returned (.agg (arr .u32 Sha.start.list)) ∧ Below w.heap.size w w' := by
  have hb := bel_alloc w (.cells (arr .u32 z8) 31)
  have hres := heap_new w (.cells (arr .u32 z8) 31)
  have hl1 := hl.later hb
  have hr : (w.alloc (.cells (arr .u32 z8) 31)).rangeAt 1 0 (lst .u32 Sha.start.list) := by
    intro j v hv
    have hj : j < 8 := by have := (List.getElem?_eq_some_iff.1 hv).1; rw [lst_length] at this; exact this
    rw [Nat.zero_add, hl1.s j hj, ← hv]
    simp [lst, List.getD, List.getElem?_eq_getElem (show j < Sha.start.list.length from hj)]
  have hsz : (Tryd.prog.info? 31).map (·.size) = some (lst .u32 Sha.start.list).length := Tryd.size31
  go_enter Tryd.func17, Tryd.ntmps17
  go_wp2_with (first
    | (refine wpList_alloc_at rfl 31 rfl (some 0) rfl (arr .u32 z8) Tryd.zero31 w.heap.size rfl ?_)
    | (refine wpList_load_mid rfl 31 _ rfl 1 0 rfl (lst .u32 Sha.start.list) _ hr Tryd.underlying31 rfl hsz ?_)
    | (refine wpList_store_rowTo rfl 31 _ _ rfl rfl w.heap.size (arr .u32 Sha.start.list) rfl rfl 31 _ hres Tryd.size31 rfl (arr_one _ _) ?_))
  refine bodyPost_ret (results_cell_row (ty := 31) rfl _ _ _ _ _ _ _ rfl (setRow_heap _ _ _ _ _ _ hres) Tryd.underlying31 rfl Tryd.size31) rfl ?_
  exact ⟨rfl, below_setRow hb (Nat.le_refl _) _⟩

theorem guard31 : Tryd.prog.eqGuardType Tryd.prog.depth 31 = false := by kernel_rfl
theorem guard25 : Tryd.prog.eqGuardType Tryd.prog.depth 25 = false := by kernel_rfl
theorem guard24 : Tryd.prog.eqGuardType Tryd.prog.depth 24 = false := by kernel_rfl

/-- '==' of two arrays, as an operation. -/
theorem run_eql_op {P : Program} {oi : Oper} {ts : Array Value} {df : List Deferred} {t t2 : TypeId} {x y : Operand} (ho : oi.op = .binOp .eql t x y t2) {xs ys : Array Value} {b : Bool} (hx : Act.eval ⟨ts, df⟩ x = .agg xs) (hy : Act.eval ⟨ts, df⟩ y = .agg ys) (hg : P.eqGuardType P.depth t = false) {w : World}
    (h : (Op.equalIn 10000 t (.agg xs) (.agg ys)).run P w = .ok b w) : (execOp (Act.eval ⟨ts, df⟩) oi).run P w = .ok (.value (.bool b)) w := by
  unfold execOp
  simp only [ho, hx, hy, Sem.run_bind, run_eqGuard_agg w .eql t x y xs ys hg, run_eql_struct w t xs ys, h, Result.andThen_ok]
  rfl
end Go.Proofs.YtkehhlbbnlnbcaaDoor
