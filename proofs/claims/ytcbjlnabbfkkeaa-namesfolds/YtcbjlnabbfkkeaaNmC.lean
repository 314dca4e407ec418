/-
  Whether a namespace was made, a new one, and what is held of a path: the contracts of made, New and at.
-/
import Derived.Test.YtcbjlnabbfkkeaaNmB
import Derived.WalkSpells
namespace Go.Proofs.Ytcbjlnabbfkkeaa
open Go.ChangeShapes Go.WideShapes Go.ChangeAt Go.RowKit Go.Deep Go.Lib

/-- A namespace that nobody made: nil, or a zero one. -/
inductive Nob (W : World) : Value → Prop where
  | nil : Nob W (.pointer none)
  | zero (n : Nat) (h : W.heap[n]? = some (.cells #[.map none] 69)) : Nob W (.pointer (some ⟨n, 0, none⟩))
theorem Nob.later {W W' : World} {v : Value} (h : Nob W v) (hb : Below W.heap.size W W') : Nob W' v := by
  cases h with
  | nil => exact .nil
  | zero n h => exact .zero n ((hb.block _ (Array.getElem?_eq_some_iff.1 h).1).trans h)

theorem bq67 (m : Option Nat) (W : World) : (binOp .neq 67 (.map m) (.map none)).run Try.prog W = .ok (.bool m.isSome) W := by
  rw [run_neq_map_nil W _ _ _ m Try.underlying67]
  cases m <;> rfl
set_option maxRecDepth 100000 in
theorem made_yes (W : World) (n g : Nat) (M : List Fl) (B : Nat) (h : Nm B W n g M) : Calls Try.prog 28 #[.pointer (some ⟨n, 0, none⟩)] W fun e w' => e = .returned (.bool true) ∧ w' = W := by
  have hc := h.cell
  have Q := bq67
  clear h
  go_enter Try.func28, Try.ntmps28
  go_wp2
  go_ret
  exact ⟨rfl, rfl⟩
set_option maxRecDepth 100000 in
theorem made_no (W : World) (v : Value) (h : Nob W v) : Calls Try.prog 28 #[v] W fun e w' => e = .returned (.bool false) ∧ w' = W := by
  cases h with
  | nil =>
    go_enter Try.func28, Try.ntmps28
    go_wp2
    go_ret
    exact ⟨rfl, rfl⟩
  | zero n h =>
    have hc : W.cell? ⟨n, 0, none⟩ = some (.map none) := (Joins.cell_of_block h 0).trans rfl
    have Q := bq67
    clear h
    go_enter Try.func28, Try.ntmps28
    go_wp2
    go_ret
    exact ⟨rfl, rfl⟩

theorem Nm.new (B : Nat) (w : World) : Nm B ((w.alloc (.map #[] 0)).alloc (.cells #[.map (some w.heap.size)] 69)) (w.heap.size + 1) w.heap.size [] := by
  have s1 : (w.alloc (.map #[] 0)).heap.size = w.heap.size + 1 := by simp
  have HO := heap_alc (w.alloc (.map #[] 0)) (.cells #[.map (some w.heap.size)] 69)
  rw [s1] at HO
  refine ⟨.map [], HO, ?_, fun _ => rfl, (fun s f h => by simp [fnd] at h), rfl, by simp, (fun f hf => by cases hf), (fun f hf => by cases hf), List.Pairwise.nil⟩
  exact ((World.ownsMap_made w _ _ _).mono (by omega)).alloc _
set_option maxRecDepth 100000 in
theorem new_word (B : Nat) (w : World) : Calls Try.prog 10 #[] w fun e w' => e = .returned (.pointer (some ⟨w.heap.size + 1, 0, none⟩)) ∧ Nm B w' (w.heap.size + 1) w.heap.size [] ∧ Below w.heap.size w w' := by
  have hmm := @run_makeMap Try.prog
  have HN := hid (Nm.new B w)
  have HB := hid (Bn (bel_alc w (.map #[] 0)) (bel_alc (w.alloc (.map #[] 0)) (.cells #[.map (some w.heap.size)] 69)))
  go_enter Try.func10, Try.ntmps10
  go_wp2
  go_ret
  exact ⟨by simp, HN.out, HB.out⟩
/-- An allocation, its world as a letter. -/
theorem wpList_alloc_W {P : Program} {ops : Array Oper} {rest : List Oper} {o : Oper} {a : Act} {w : World} {Q : Exit → Act → World → Prop} (hgd : o.guard = none) (ty : TypeId) (ho : o.op = .alloc ty) (d : Option Tmp) (hd : o.dst = d) (cs : Array Value)
    (hz : ∀ w, (zeroValue ty).run P w = .ok (.agg cs) w) (N : Nat) (hN : N = w.heap.size)
    (h : ∀ W', Hid (W'.heap[N]? = some (.cells cs ty)) → Hid (Below N w W') → Hid (W'.heap.size = N + 1) → wpList P ops Q rest (a.put d (.pointer (some ⟨N, 0, none⟩))) W') : wpList P ops Q (o :: rest) a w := by
  subst hN
  exact wpList_alloc_row hgd ty ho d hd cs hz (h _ (heap_alc w _) (bel_alc w _) (by show _ = _; simp))
/-- A store of a whole block, its world as a letter. -/
theorem wpList_store_W {P : Program} {ops : Array Oper} {rest : List Oper} {o : Oper} {a : Act} {w : World} {Q : Exit → Act → World → Prop} (hgd : o.guard = none) (ty : TypeId) (x y : Operand) (ho : o.op = .store ty x y) (hd : o.dst = none)
    (g : Nat) (cells : Array Value) (hx : a.eval x = .pointer (some ⟨g, 0, none⟩)) (hy : a.eval y = .agg cells) (t : TypeId) (old : Array Value) (hg : w.heap[g]? = some (.cells old t (0, 0))) (hi : (P.info? ty).map (·.size) = some cells.size)
    (hold : old.size = cells.size) (h1 : cells.all (·.oneCell') = true)
    (h : ∀ W', Hid (W'.heap[g]? = some (.cells cells t)) → Hid (w.grownBy W' (some g)) → Hid (W'.heap.size = w.heap.size) → wpList P ops Q rest a W') : wpList P ops Q (o :: rest) a w := by
  refine wpList_store_rowTo hgd ty x y ho hd g cells hx hy t old hg hi hold h1 (h _ ?_ ?_ ?_)
  · exact setRow_heap _ _ old _ t (0, 0) hg
  · exact ⟨rfl, rfl, rfl, by rw [setRow_size]; exact Nat.le_refl _, fun k _ hk => other_setRow w g cells k (fun e => hk (by rw [e]))⟩
  · exact setRow_size ..
theorem blk_range {w : World} {g : Nat} {cs : List Value} {t : TypeId} (h : w.heap[g]? = some (.cells cs.toArray t)) : w.rangeAt g 0 cs := fun j v hv => by
  rw [Nat.zero_add, Joins.cell_of_block h j, List.getElem?_toArray]
  exact hv
theorem blk_lt {w : World} {g : Nat} {o : Obj} (h : w.heap[g]? = some o) : g < w.heap.size := (Array.getElem?_eq_some_iff.1 h).1
theorem blk_later {w w' : World} {g : Nat} {o : Obj} (h : w.heap[g]? = some o) (hb : Below w.heap.size w w') : w'.heap[g]? = some o := (hb.block _ (blk_lt h)).trans h
theorem bel_grown {w w' : World} {B g : Nat} (h : w.grownBy w' (some g)) (hB : B ≤ g) (hw : B ≤ w.heap.size) : Below B w w' :=
  ⟨h.os, h.tape, h.output, h.size, fun i hi => h.block i (Nat.lt_of_lt_of_le hi hw) (fun e => by injection e with e; omega)⟩
theorem grown_bel {w w' : World} {r : Option Nat} (h : Below w.heap.size w w') : w.grownBy w' r := ⟨h.os, h.tape, h.output, h.size, fun i hi _ => h.block i hi⟩
theorem Try.size77 : (Try.prog.info? 77).map (·.size) = some 5 := by kernel_rfl
theorem Fl.one (f : Fl) : f.cs.toArray.all (·.oneCell') = true := by simp [Fl.cs, Value.oneCell']
theorem fl_load {w : World} {b : Nat} {f : Fl} (h : w.heap[b]? = some (.cells f.cs.toArray 77)) : (loadVar 77 ⟨b, 0, none⟩).run Try.prog w = .ok f.val w :=
  run_loadVar_row (P := Try.prog) w b 77 77 f.cs.toArray (0, 0) _ h Try.underlying77 rfl Try.size77
def atE (M : List Fl) (s : ByteArray) : Int := if (fnd M s).isSome then 0 else 150

set_option maxHeartbeats 1600000 in
set_option maxRecDepth 100000 in
theorem at_no (W : World) (v : Value) (s : ByteArray) (h : Nob W v) : Calls Try.prog 44 #[v, .string s] W fun e w' => e = .returned (.tuple #[flZ.val, .int .i64 4]) ∧ Below W.heap.size W w' := by
  have HN := hid (fun V (hb : Below W.heap.size W V) => made_no V v (h.later hb))
  have hz : ∀ w, (zeroValue 77).run Try.prog w = .ok (.agg flZ.cs.toArray) w := Try.zero77
  go_enter Try.func44, Try.ntmps44
  go_wp2_with (first | refine wpList_alloc_W rfl 77 rfl (some 4) rfl _ hz W.heap.size rfl ?_ | fail)
  intro W1 HG1 HB1 HS1
  go_wp2_with fail
  refine (HN.out _ HB1.out).mono ?_
  rintro _ w0 ⟨rfl, hw⟩
  obtain rfl := hw.symm
  clear hw HN
  go_wp2_with (first | refine wpList_store_W rfl 77 _ _ rfl rfl W.heap.size flZ.cs.toArray rfl rfl 77 _ HG1.out Try.size77 rfl (Fl.one _) ?_ | fail)
  intro W2 HG2 HB2 HS2
  go_wp2
  exact bodyPost_ret (results_row_tmp rfl _ _ W.heap.size _ rfl (fl_load HG2.out)) rfl ⟨rfl, HB1.out.trans (bel_grown HB2.out (Nat.le_refl _) HB1.out.size)⟩
set_option maxHeartbeats 3200000 in
set_option maxRecDepth 100000 in
theorem at_word (W : World) (n g : Nat) (M : List Fl) (B : Nat) (h : Nm B W n g M) (s : ByteArray) (hs : s.size ≤ maxLen) :
    Calls Try.prog 44 #[.pointer (some ⟨n, 0, none⟩), .string s] W fun e w' => e = .returned (.tuple #[((fnd M s).getD flZ).val, .int .i64 (atE M s)]) ∧ Below W.heap.size W w' := by
  have HH := hid h
  have hz : ∀ w, (zeroValue 77).run Try.prog w = .ok (.agg flZ.cs.toArray) w := Try.zero77
  have HA : Hid (atE M s = if (fnd M s).isSome then 0 else 150) := rfl
  have HF : Hid ((fnd M s).isSome = false → (fnd M s).getD flZ = flZ) := fun e => by
    cases hq : fnd M s with
    | none => rfl
    | some f => rw [hq] at e; cases e
  have HL := hid (fun V (hb : Below W.heap.size W V) => (h.later hb).look hs)
  clear h hs
  generalize (fnd M s).isSome = BS at *
  generalize (fnd M s).getD flZ = f at *
  generalize atE M s = E at *
  go_enter Try.func44, Try.ntmps44
  go_wp2_with (first | refine wpList_alloc_W rfl 77 rfl (some 4) rfl _ hz W.heap.size rfl ?_ | fail)
  intro W1 HG1 HB1 HS1
  go_wp2_with fail
  refine (made_yes W1 n g M B (HH.out.later HB1.out)).mono ?_
  rintro _ w0 ⟨rfl, hw⟩
  obtain rfl := hw.symm
  clear hw
  have hc := (HH.out.later HB1.out).cell
  have hl := HL.out _ HB1.out
  go_wp2_with (first | refine wpList_alloc_W rfl 77 rfl (some 6) rfl _ hz W1.heap.size rfl ?_ | fail)
  intro W2 HG2 HB2 HS2
  clear hc hl
  go_wp2_with (first | refine wpList_store_W rfl 77 _ _ rfl rfl W1.heap.size f.cs.toArray rfl rfl 77 _ HG2.out Try.size77 rfl (Fl.one _) ?_ | fail)
  intro W3 HG3 HB3 HS3
  have HX : Hid (Below W1.heap.size W1 W3) := HB2.out.trans (bel_grown HB3.out (Nat.le_refl _) HB2.out.size)
  have HG1' : Hid (W3.heap[W.heap.size]? = some (.cells flZ.cs.toArray 77)) := blk_later HG1.out HX.out
  have HR : Hid (W3.rangeAt W1.heap.size 0 f.cs) := blk_range HG3.out
  cases BS with
  | false =>
    have e := HF.out rfl
    subst e
    go_wp2_with (first | refine wpList_store_W rfl 77 _ _ rfl rfl W.heap.size flZ.cs.toArray rfl rfl 77 _ HG1'.out Try.size77 rfl (Fl.one _) ?_ | fail)
    intro W4 HG4 HB4 HS4
    go_wp2
    refine bodyPost_ret (results_row_tmp rfl _ _ W.heap.size _ rfl (fl_load HG4.out)) rfl ⟨?_, (Bn HB1.out HX.out).trans (bel_grown HB4.out (Nat.le_refl _) (Nat.le_trans HB1.out.size HX.out.size))⟩
    rw [HA.out]; rfl
  | true =>
    go_wp2_with (first | refine wpList_load_g rfl 77 _ rfl W1.heap.size 0 rfl f.cs _ HR.out Try.underlying77 rfl Try.size77 ?_ | refine wpList_store_W rfl 77 _ _ rfl rfl W.heap.size f.cs.toArray rfl rfl 77 _ HG1'.out Try.size77 rfl (Fl.one _) ?_ | fail)
    intro W4 HG4 HB4 HS4
    go_wp2
    refine bodyPost_ret (results_row_tmp rfl _ _ W.heap.size _ rfl (fl_load HG4.out)) rfl ⟨?_, (Bn HB1.out HX.out).trans (bel_grown HB4.out (Nat.le_refl _) (Nat.le_trans HB1.out.size HX.out.size))⟩
    rw [HA.out]; rfl
end Go.Proofs.Ytcbjlnabbfkkeaa
