/-
  The contracts of a Mac that is nil, or that nobody made.
-/
import Derived.Test.YtkipepodgmfbnabDoorAwake
namespace Go.Proofs.YtkipepodgmfbnabDoor.macNobody
open Go.ChangeShapes Go.WideShapes Go.ChangeAt Go.RowKit Sha

/-- The cells of a Mac that nobody made. -/
def ZM : Array Value := (lst .u8 z64 ++ (Value.bool false :: (lst .u32 z8 ++ (lst .u8 z64 ++ [Value.int .u64 0])))).toArray
theorem Tryd.zero39 : ∀ w, (zeroValue 39).run Tryd.prog w = .ok (.agg ZM) w := (zero_of_info (t := 39) (n := 138) (by kernel_rfl)).1

/-- A Hash that nobody made, wherever it lies. -/
def NoH (w : World) (g : Nat) : Prop := g < w.heap.size ∧ w.cell? ⟨g, 64, none⟩ = some (.bool false)
theorem NoH.later {w w' : World} {g : Nat} (h : NoH w g) (hb : Below w.heap.size w w') : NoH w' g :=
  ⟨Nat.lt_of_lt_of_le h.1 hb.size, (hb.cell (p := ⟨g, 64, none⟩) h.1).trans h.2⟩

theorem sound_no (g : Nat) (w : World) (h : NoH w g) : Calls Tryd.prog 24 #[.pointer (some ⟨g, 64, none⟩)] w fun e w' => e = .returned (.bool false) ∧ w' = w := by
  obtain ⟨_, c0⟩ := h
  go_enter Tryd.func24, Tryd.ntmps24
  go_wp2
  go_ret
  exact ⟨rfl, rfl⟩

/-- A load behind a guard that says yes. -/
theorem wpList_load_wanted {P : Program} {ops : Array Oper} {rest : List Oper} {o : Oper} {a : Act} {w : World} {Q : Exit → Act → World → Prop} (hw : Region.wanted o (yielded ops a.tmps) = true) (ty : TypeId) (x : Operand) (ho : o.op = .load ty x) (p v : Value) (hx : a.eval x = p)
    (h : (Instr.loadAt ty p).run P w = .ok v w) (hK : wpList P ops Q rest (a.put o.dst v) w) : wpList P ops Q (o :: rest) a w :=
  wpList_step fun K hK' => by
    simp only [hw, if_true]
    exact wp_load_run ty x ho p v hx h (hK' _ _ hK)

theorem hwrite_no (g : Nat) (v : Value) (w : World) (h : NoH w g) : Calls Tryd.prog 18 #[.pointer (some ⟨g, 64, none⟩), v] w fun e w' => e = .returned (.int .i64 4) ∧ w' = w := by
  have HS := hid (sound_no g w h)
  clear h
  go_enter Tryd.func18, Tryd.ntmps18
  go_wp2_with (go_at_call 24; refine HS.out.mono ?_; rintro e w' ⟨rfl, rfl⟩)
  go_ret
  exact ⟨rfl, rfl⟩

set_option maxHeartbeats 800000 in
set_option maxRecDepth 100000 in
theorem hsum_no (g : Nat) (w : World) (h : NoH w g) : Calls Tryd.prog 16 #[.pointer (some ⟨g, 64, none⟩)] w fun e w' => e = .returned (.tuple #[.agg (arr .u8 z32), .int .i64 4]) ∧ Below w.heap.size w w' := by
  have b0 := bel_alloc w (.cells (arr .u8 z32) 42)
  have e0 := heap_new w (.cells (arr .u8 z32) 42)
  have HS := hid (sound_no g _ (h.later b0))
  have hld := run_loadVar_mid (P := Tryd.prog) ((w.alloc (.cells (arr .u8 z32) 42)).setRow w.heap.size (arr .u8 z32)) w.heap.size 0 42 (lst .u8 z32) _ (fun j v hv => by rw [Nat.zero_add, Joins.cell_of_block (setRow_heap _ _ _ _ _ _ e0) j, ← arr_lst, List.getElem?_toArray]; exact hv) Tryd.underlying42 rfl Tryd.size42'
  have hz := Tryd.zero42
  have HB : Hid (Below w.heap.size w ((w.alloc (.cells (arr .u8 z32) 42)).setRow w.heap.size (arr .u8 z32))) := below_setRow b0 (Nat.le_refl _) _
  clear h b0
  rw [arr_lst] at hld
  generalize hA : arr .u8 z32 = AZ at *
  have hsz : AZ.size = 32 := by rw [← hA]; rfl
  have h1 : AZ.all (·.oneCell') = true := by rw [← hA]; exact arr_one _ _
  clear hA
  go_enter Tryd.func16, Tryd.ntmps16
  go_wp2_with (refine wpList_alloc_at rfl 42 rfl (some 2) rfl AZ hz w.heap.size rfl ?_)
  go_at_call 24
  refine HS.out.mono ?_
  rintro _ w1 ⟨rfl, hw⟩
  obtain rfl := hw.symm
  clear hw
  go_wp2_with (refine wpList_store_rowTo rfl 42 _ _ rfl rfl w.heap.size AZ rfl rfl 42 _ e0 (by rw [hsz]; exact Tryd.size42') rfl h1 ?_)
  refine bodyPost_ret (results_row_tmp rfl _ _ w.heap.size _ rfl hld) rfl ?_
  exact ⟨rfl, HB.out⟩

/-- A Mac that is nil, or that nobody made. -/
def NoM (w : World) (p : Value) : Prop := p = .pointer none ∨ ∃ g, p = .pointer (some ⟨g, 0, none⟩) ∧ NoH w g
theorem NoM.later {w w' : World} {p : Value} (h : NoM w p) (hb : Below w.heap.size w w') : NoM w' p := by
  rcases h with h | ⟨g, h1, h2⟩
  · exact Or.inl h
  · exact Or.inr ⟨g, h1, h2.later hb⟩

theorem write_no (p v : Value) (w : World) (h : NoM w p) : Calls Tryd.prog 10 #[p, v] w fun e w' => e = .returned (.int .i64 4) ∧ w' = w := by
  rcases h with rfl | ⟨g, rfl, hn⟩
  · go_enter Tryd.func10, Tryd.ntmps10
    go_wp2
    go_ret
    exact ⟨rfl, rfl⟩
  · have HS := hid (hwrite_no g v w hn)
    clear hn
    go_enter Tryd.func10, Tryd.ntmps10
    go_wp2_with (go_at_call 18; refine HS.out.mono ?_; rintro e w' ⟨rfl, rfl⟩)
    go_ret
    exact ⟨rfl, rfl⟩

set_option maxHeartbeats 800000 in
set_option maxRecDepth 100000 in
theorem sum_no (p : Value) (w : World) (h : NoM w p) : Calls Tryd.prog 9 #[p] w fun e w' => e = .returned (.tuple #[.agg (arr .u8 z32), .int .i64 4]) ∧ Below w.heap.size w w' := by
  have b0 := bel_alloc w (.cells (arr .u8 z32) 42)
  have e0 := heap_new w (.cells (arr .u8 z32) 42)
  have s0 : (w.alloc (.cells (arr .u8 z32) 42)).heap.size = w.heap.size + 1 := by simp
  have hz := Tryd.zero42
  rcases h with rfl | ⟨g, rfl, hn⟩
  · have hld := run_loadVar_mid (P := Tryd.prog) ((w.alloc (.cells (arr .u8 z32) 42)).setRow w.heap.size (arr .u8 z32)) w.heap.size 0 42 (lst .u8 z32) _ (fun j v hv => by rw [Nat.zero_add, Joins.cell_of_block (setRow_heap _ _ _ _ _ _ e0) j, ← arr_lst, List.getElem?_toArray]; exact hv) Tryd.underlying42 rfl Tryd.size42'
    have HB : Hid (Below w.heap.size w ((w.alloc (.cells (arr .u8 z32) 42)).setRow w.heap.size (arr .u8 z32))) := below_setRow b0 (Nat.le_refl _) _
    clear b0
    rw [arr_lst] at hld
    generalize hA : arr .u8 z32 = AZ at *
    have hsz : AZ.size = 32 := by rw [← hA]; rfl
    have h1 : AZ.all (·.oneCell') = true := by rw [← hA]; exact arr_one _ _
    clear hA
    go_enter Tryd.func9, Tryd.ntmps9
    go_wp2_with (first
      | (refine wpList_alloc_at rfl 42 rfl (some 2) rfl AZ hz w.heap.size rfl ?_)
      | (refine wpList_store_rowTo rfl 42 _ _ rfl rfl w.heap.size AZ rfl rfl 42 _ e0 (by rw [hsz]; exact Tryd.size42') rfl h1 ?_))
    refine bodyPost_ret (results_row_tmp rfl _ _ w.heap.size _ rfl hld) rfl ?_
    exact ⟨rfl, HB.out⟩
  · have HS := hid (hsum_no g _ (hn.later b0))
    have HB0 := hid b0
    clear hn b0
    have hsz : (arr .u8 z32).size = 32 := rfl
    have h1 : (arr .u8 z32).all (·.oneCell') = true := arr_one _ _
    go_enter Tryd.func9, Tryd.ntmps9
    go_wp2_with (refine wpList_alloc_at rfl 42 rfl (some 2) rfl (arr .u8 z32) hz w.heap.size rfl ?_)
    go_at_call 16
    refine HS.out.mono ?_
    rintro _ w1 ⟨rfl, hb1⟩
    obtain ⟨q2, f2, z2⟩ := put_new w1 z32 42 w1.heap.size rfl
    have hn1 := heap_new w1 (.cells (arr .u8 z32) 42)
    have hz1 := hb1.size
    have e2 : ((w1.alloc (.cells (arr .u8 z32) 42)).setRow w1.heap.size (arr .u8 z32)).heap[w.heap.size]? = some (.cells (arr .u8 z32) 42 (0, 0)) := by rw [q2.block _ (by omega), hb1.block _ (by omega)]; exact e0
    have hB2 := Bn HB0.out (Bn hb1 q2)
    generalize hV : (w1.alloc (.cells (arr .u8 z32) 42)).setRow w1.heap.size (arr .u8 z32) = V2 at *
    have HVV := hid hV
    have hld := run_loadVar_mid (P := Tryd.prog) (V2.setRow w.heap.size (arr .u8 z32)) w.heap.size 0 42 (lst .u8 z32) _ (fun j v hv => by rw [Nat.zero_add, Joins.cell_of_block (setRow_heap _ _ _ _ _ _ e2) j, ← arr_lst, List.getElem?_toArray]; exact hv) Tryd.underlying42 rfl Tryd.size42'
    have HB : Hid (Below w.heap.size w (V2.setRow w.heap.size (arr .u8 z32))) := below_setRow hB2 (Nat.le_refl _) _
    rw [arr_lst] at hld
    clear q2 f2 hb1 hB2 HS e0 HB0
    subst hV
    generalize hAZ : arr .u8 z32 = AZ at *
    have HAZ := hid hAZ
    clear hAZ
    go_wp2_with (first
      | (refine wpList_alloc_at rfl 42 rfl (some 4) rfl AZ hz w1.heap.size rfl ?_)
      | (refine wpList_store_rowTo rfl 42 _ _ rfl rfl w1.heap.size AZ rfl rfl 42 _ hn1 (by rw [hsz]; exact Tryd.size42') rfl h1 ?_)
      | (refine wpList_store_rowTo rfl 42 _ _ rfl rfl w.heap.size AZ rfl rfl 42 _ e2 (by rw [hsz]; exact Tryd.size42') rfl h1 ?_))
    refine bodyPost_ret (results_row_tmp rfl _ _ w.heap.size _ rfl hld) rfl ?_
    exact ⟨by rw [HAZ.out]; rfl, HB.out⟩
end Go.Proofs.YtkipepodgmfbnabDoor.macNobody
