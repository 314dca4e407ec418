/-
  ShaNobody: a Hash that is nil, or that nobody made, refuses all with ErrNil; where the program's tables are as its text lays them.
-/
import Derived.Test.YtkehhlbbnlnbcabDoorArgs
import Derived.Laws.ResultCell
namespace Go.Proofs.YtkehhlbbnlnbcabDoor.shaNobody
open Go.ChangeShapes Go.WideShapes Go.ChangeAt Go.RowKit Sha

/-- A Hash that nobody made: nil, or its mark is false. -/
def NoH (w : World) (p : Value) : Prop := p = .pointer none ∨ ∃ g, p = .pointer (some ⟨g, 0, none⟩) ∧ g < w.heap.size ∧ w.cell? ⟨g, 0, none⟩ = some (.bool false)

theorem NoH.later {w w' : World} {p : Value} (h : NoH w p) (hb : Below w.heap.size w w') : NoH w' p := by
  rcases h with h | ⟨g, h1, h2, h3⟩
  · exact Or.inl h
  · exact Or.inr ⟨g, h1, Nat.lt_of_lt_of_le h2 hb.size, (hb.cell (p := ⟨g, 0, none⟩) h2).trans h3⟩

theorem sound_no (p : Value) (w : World) (h : NoH w p) : Calls Tryd.prog 8 #[p] w fun e w' => e = .returned (.bool false) ∧ w' = w := by
  rcases h with rfl | ⟨g, rfl, _, c0⟩
  · go_enter Tryd.func8, Tryd.ntmps8
    go_wp2
    go_ret
    exact ⟨rfl, rfl⟩
  · go_enter Tryd.func8, Tryd.ntmps8
    go_wp2
    go_ret
    exact ⟨rfl, rfl⟩

theorem results_row_tmp {P : Program} {fn : Func} {p u : Tmp} {ty : TypeId} (h : fn.results = #[.cell p ty, .tmp u]) (tmps : Array Value) (w : World) (g : Nat) (v : Value) (hp : tmps.getD p undef = .pointer (some ⟨g, 0, none⟩)) (hl : (loadVar ty ⟨g, 0, none⟩).run P w = .ok v w) :
    (results fn tmps).run P w = .ok (.tuple #[v, tmps.getD u undef]) w := by
  rw [results_cell_tmp h, hp]
  simp [asAddr, hl]

/-- A load behind a guard that says yes. -/
theorem wpList_load_wanted {P : Program} {ops : Array Oper} {rest : List Oper} {o : Oper} {a : Act} {w : World} {Q : Exit → Act → World → Prop} (hw : Region.wanted o (yielded ops a.tmps) = true) (ty : TypeId) (x : Operand) (ho : o.op = .load ty x) (p v : Value) (hx : a.eval x = p)
    (h : (Instr.loadAt ty p).run P w = .ok v w) (hK : wpList P ops Q rest (a.put o.dst v) w) : wpList P ops Q (o :: rest) a w :=
  wpList_step fun K hK' => by
    simp only [hw, if_true]
    exact wp_load_run ty x ho p v hx h (hK' _ _ hK)

set_option maxHeartbeats 800000 in
set_option maxRecDepth 100000 in
theorem sum_no (p : Value) (w : World) (h : NoH w p) : Calls Tryd.prog 4 #[p] w fun e w' => e = .returned (.tuple #[.agg (arr .u8 z32), .int .i64 4]) ∧ Below w.heap.size w w' := by
  have b0 := bel_alloc w (.cells (arr .u8 z32) 32)
  have e0 := heap_new w (.cells (arr .u8 z32) 32)
  have HS := hid (sound_no p _ (h.later b0))
  have hld := run_loadVar_mid (P := Tryd.prog) ((w.alloc (.cells (arr .u8 z32) 32)).setRow w.heap.size (arr .u8 z32)) w.heap.size 0 32 (lst .u8 z32) _ (fun j v hv => by rw [Nat.zero_add, Joins.cell_of_block (setRow_heap _ _ _ _ _ _ e0) j, ← arr_lst, List.getElem?_toArray]; exact hv) Tryd.underlying32 rfl Tryd.size32
  have hz := Tryd.zero32
  have HB : Hid (Below w.heap.size w ((w.alloc (.cells (arr .u8 z32) 32)).setRow w.heap.size (arr .u8 z32))) := below_setRow b0 (Nat.le_refl _) _
  clear h b0
  rw [arr_lst] at hld
  generalize hA : arr .u8 z32 = AZ at *
  have hsz : AZ.size = 32 := by rw [← hA]; rfl
  have h1 : AZ.all (·.oneCell') = true := by rw [← hA]; exact arr_one _ _
  clear hA
  go_enter Tryd.func4, Tryd.ntmps4
  go_wp2_with (refine wpList_alloc_at rfl 32 rfl (some 2) rfl AZ hz w.heap.size rfl ?_)
  go_at_call 8
  refine HS.out.mono ?_
  rintro _ w1 ⟨rfl, hw⟩
  obtain rfl := hw.symm
  clear hw
  go_wp2_with (refine wpList_store_rowTo rfl 32 _ _ rfl rfl w.heap.size AZ rfl rfl 32 _ e0 (by rw [hsz]; exact Tryd.size32) rfl h1 ?_)
  refine bodyPost_ret (results_row_tmp rfl _ _ w.heap.size _ rfl hld) rfl ?_
  exact ⟨rfl, HB.out⟩

theorem copy_no (p : Value) (w : World) (h : NoH w p) : Calls Tryd.prog 5 #[p] w fun e w' => e = .returned (.tuple #[.pointer none, .int .i64 4]) ∧ w' = w := by
  have HS := hid (sound_no p w h)
  clear h
  go_enter Tryd.func5, Tryd.ntmps5
  go_wp2_with (go_at_call 8; refine HS.out.mono ?_; rintro e w' ⟨rfl, rfl⟩)
  go_ret2
  exact ⟨rfl, rfl⟩

theorem write_no (p v : Value) (w : World) (h : NoH w p) : Calls Tryd.prog 6 #[p, v] w fun e w' => e = .returned (.int .i64 4) ∧ w' = w := by
  have HS := hid (sound_no p w h)
  clear h
  go_enter Tryd.func6, Tryd.ntmps6
  go_wp2_with (go_at_call 8; refine HS.out.mono ?_; rintro e w' ⟨rfl, rfl⟩)
  go_ret
  exact ⟨rfl, rfl⟩
end Go.Proofs.YtkehhlbbnlnbcabDoor.shaNobody
