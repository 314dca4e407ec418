/-
  The contracts of mac.New, and of a Mac's Write and Sum.
-/
import Derived.Test.YtkipepodgmfbnaaDoorMMeth
import Derived.Test.YtkipepodgmfbnaaDoorMacSumW
import Derived.Great.FillDense
namespace Go.Proofs.YtkipepodgmfbnaaDoor
open Go.RowKit Sha

/-- The cells of a Mac that nobody made. -/
def ZM : Array Value := (lst .u8 z64 ++ (Value.bool false :: (lst .u32 z8 ++ (lst .u8 z64 ++ [Value.int .u64 0])))).toArray
theorem Tryd.zero69 : ∀ w, (zeroValue 69).run Tryd.prog w = .ok (.agg ZM) w := (zero_of_info (t := 69) (n := 138) (by kernel_rfl)).1
theorem Tryd.size69 : (Tryd.prog.info? 69).map (·.size) = some 138 := by kernel_rfl

theorem fold_two (z : Array Value) (a b : List Value) (hz : z.size = a.length + b.length) :
    ((b.zipIdx 0).foldl (fun cs (x : Value × Nat) => cs.setIfInBounds (a.length + x.2) x.1) ((a.zipIdx 0).foldl (fun cs (x : Value × Nat) => cs.setIfInBounds (0 + x.2) x.1) z)) = (a ++ b).toArray := by
  obtain ⟨h1, h2⟩ := Great.foldl_set 0 a 0 z
  obtain ⟨h3, h4⟩ := Great.foldl_set a.length b 0 ((a.zipIdx 0).foldl (fun cs (x : Value × Nat) => cs.setIfInBounds (0 + x.2) x.1) z)
  apply Array.ext_getElem?
  intro k
  rw [h4, h1, h2, show (a ++ b).toArray[k]? = (a ++ b)[k]? from by simp]
  by_cases hk : k < a.length
  · rw [if_neg (by omega), if_pos (by omega), List.getElem?_append_left hk]
    simp
  · by_cases hk2 : k < a.length + b.length
    · rw [if_pos (by omega), List.getElem?_append_right (by omega)]
      simp
    · rw [if_neg (by omega), if_neg (by omega), List.getElem?_eq_none (show (a ++ b).length ≤ k by simp; omega), Array.getElem?_eq_none (by omega)]

theorem build_mac (x : List Nat) (HL : List Value) (hx : x.length = 64) (hl : HL.length = 74) (w : World) : (Instr.build 69 #[(0, .agg (arr .u8 x)), (1, .agg HL.toArray)]).run Tryd.prog w = .ok (.agg (lst .u8 x ++ HL).toArray) w := by
  have hf := fold_two ZM (lst .u8 x) HL (by rw [lst_length, hx, hl]; rfl)
  have hzz : ZM.size = 138 := rfl
  have s49 : ∀ w, (sizeOf 49).run Tryd.prog w = .ok 64 w := fun w => by kernel_rfl
  have s65 : ∀ w, (sizeOf 65).run Tryd.prog w = .ok 74 w := fun w => by kernel_rfl
  rw [lst_length, hx] at hf
  have e1 : (arr .u8 x).size = 64 := by rw [arr_size, hx]
  unfold Instr.build
  simp only [Sem.run_bind, Tryd.zero69, run_underlying Tryd.underlying69, Result.andThen_ok, Value.cells]
  have hm : ∀ (w : World), (Array.mapM (m := Sem) (fun (f : Field) => do
              let s ← sizeOf f.type
              pure (f.offset, s))
            #[{ name := "outer", type := 49, offset := 0, embedded := false, tag := "", pkgPath := "saltern/mac",
                byteOffset := 0 },
              { name := "inner", type := 65, offset := 64, embedded := false, tag := "", pkgPath := "saltern/mac",
                byteOffset := 64 }]).run Tryd.prog w = .ok #[(0, 64), (64, 74)] w := fun w => by kernel_rfl
  rw [hm]
  have k1 : ∀ (L : List Value) (o : Nat) (z : Array Value), Array.foldl (fun (cs : Array Value) (x : Value × Nat) => cs.setIfInBounds (o + x.snd) x.fst) z L.toArray.zipIdx = List.foldl (fun (cs : Array Value) (x : Value × Nat) => cs.setIfInBounds (o + x.snd) x.fst) z L.zipIdx := fun L o z => by simp
  have h1 := (Great.foldl_set 0 (lst .u8 x) 0 ZM).1
  have e2 : (lst .u8 x).toArray.size = 64 := by rw [List.size_toArray, lst_length, hx]
  have e3 : HL.toArray.size = 74 := by rw [List.size_toArray, hl]
  simp only [Result.andThen_ok, Instr.fill, Value.cells, ← arr_lst, k1, h1, hzz, e2, e3, show (#[(0, 64), (64, 74)] : Array (Nat × Nat))[0]? = some (0, 64) from rfl, show (#[(0, 64), (64, 74)] : Array (Nat × Nat))[1]? = some (64, 74) from rfl, hf]
  rfl

/-- A struct built out of parts that are known. -/
theorem wpList_build_to {P : Program} {ops : Array Oper} {rest : List Oper} {o : Oper} {a : Act} {w : World} {Q : Exit → Act → World → Prop} (hg : o.guard = none) (t : TypeId) (x0 x1 : Operand) (ho : o.op = .build t #[(0, x0), (1, x1)])
    (v0 v1 v : Value) (h0 : a.eval x0 = v0) (h1 : a.eval x1 = v1) (hr : (Instr.build t #[(0, v0), (1, v1)]).run P w = .ok v w) (h : wpList P ops Q rest (a.put o.dst v) w) : wpList P ops Q (o :: rest) a w :=
  wpList_plain hg fun _ hK => by
    unfold Oper.wp execOp
    simp only [ho, List.map_toArray, List.map_cons, List.map_nil, h0, h1, Sem.run_bind, hr, Result.andThen_ok]
    exact hK _ _ h

set_option maxHeartbeats 1600000 in
set_option maxRecDepth 100000 in
theorem macNew_word (a : Option Addr) (cap : Nat) (key : List Nat) (w : World) (hlaid : Laid w) (hr : Rd w (.slice a key.length cap) a cap key) (hk : key.length ≤ 100000) :
    Calls Tryd.prog 20 #[.slice a key.length cap] w fun e w' => ∃ g, w.heap.size ≤ g ∧ e = .returned (.pointer (some ⟨g, 0, none⟩)) ∧ (∃ op, Hm (lst .u8 (xorL 92 (blockL key))) w' g (xorL 54 (blockL key)) op) ∧ Below w.heap.size w w' := by
  have HL0 := hid hlaid
  have HBO := hid (blockOf_word a cap key w hlaid hr hk)
  have HX36 := hid (fun W : World => xored_word (blockL key) 54 W (blockL_length key) (blockL_lt key hr.hi) (by decide))
  have HX5C := hid (fun W : World => xored_word (blockL key) 92 W (blockL_length key) (blockL_lt key hr.hi) (by decide))
  have HXB1 := hid (xorL_lt 54 (blockL key) (by decide) (blockL_lt key hr.hi))
  have HXL1 : Hid ((xorL 54 (blockL key)).length = 64) := (xorL_length _ _).trans (blockL_length key)
  have HXL2 : Hid ((xorL 92 (blockL key)).length = 64) := (xorL_length _ _).trans (blockL_length key)
  have hbs : (arr .u8 (blockL key)).size = 64 := by rw [arr_size, blockL_length]
  have hba : (Tryd.prog.info? 49).map (·.size) = some (arr .u8 (blockL key)).size := by rw [hbs]; exact Tryd.size49
  have hxs : (arr .u8 (xorL 54 (blockL key))).size = 64 := by rw [arr_size, HXL1.out]
  clear hr hlaid
  generalize xorL 54 (blockL key) = x1 at *
  generalize xorL 92 (blockL key) = x2 at *
  generalize blockL key = bk at *
  go_enter Tryd.func20, Tryd.ntmps20
  go_wp2_with fail
  go_at_call 25
  refine HBO.out.mono ?_
  rintro _ w2 ⟨rfl, hb2⟩
  have hz2 := hb2.size
  have n2 := heap_new w2 (.cells (arr .u8 z64) 49)
  obtain ⟨q3, f3, z3⟩ := put_block w2 bk w2.heap.size rfl
  go_wp2_with (first
    | (refine wpList_alloc_at rfl 49 rfl (some 3) rfl (arr .u8 z64) Tryd.zero49 w2.heap.size rfl ?_)
    | (refine wpList_store_rowTo rfl 49 _ _ rfl rfl w2.heap.size (arr .u8 bk) rfl rfl 49 _ n2 hba (by rw [hbs]; rfl) (arr_one _ _) ?_)
    | (refine wpList_load_row rfl 49 _ rfl w2.heap.size rfl 49 (arr .u8 bk) (0, 0) _ f3 Tryd.underlying49 rfl hba ?_))
  generalize (w2.alloc (.cells (arr .u8 z64) 49)).setRow w2.heap.size (arr .u8 bk) = w3 at *
  go_at_call 26
  refine (HX36.out w3).mono ?_
  rintro _ w4 ⟨rfl, hb4⟩
  have hz4 := hb4.size
  have n4 := heap_new w4 (.cells (arr .u8 z64) 49)
  obtain ⟨q5, f5, z5⟩ := put_block w4 x1 w4.heap.size rfl
  have hxa : (Tryd.prog.info? 49).map (·.size) = some (arr .u8 x1).size := by rw [hxs]; exact Tryd.size49
  have e5 : ((w4.alloc (.cells (arr .u8 z64) 49)).setRow w4.heap.size (arr .u8 x1)).heap[w2.heap.size]? = some (.cells (arr .u8 bk) 49 (0, 0)) := by rw [q5.block _ (by omega), hb4.block _ (by omega)]; exact f3
  go_wp2_with (first
    | (refine wpList_alloc_at rfl 49 rfl (some 4) rfl (arr .u8 z64) Tryd.zero49 w4.heap.size rfl ?_)
    | (refine wpList_store_rowTo rfl 49 _ _ rfl rfl w4.heap.size (arr .u8 x1) rfl rfl 49 _ n4 hxa (by rw [hxs]; rfl) (arr_one _ _) ?_)
    | (refine wpList_load_row rfl 49 _ rfl w2.heap.size rfl 49 (arr .u8 bk) (0, 0) _ e5 Tryd.underlying49 rfl hba ?_))
  have hB5 : Below w.heap.size w ((w4.alloc (.cells (arr .u8 z64) 49)).setRow w4.heap.size (arr .u8 x1)) := Bn (Bn hb2 q3) (Bn hb4 q5)
  have HR5 := hid (Rd.block 64 HXL1.out f5 (by decide) HXB1.out)
  generalize (w4.alloc (.cells (arr .u8 z64) 49)).setRow w4.heap.size (arr .u8 x1) = w5 at *
  go_at_call 26
  refine (HX5C.out w5).mono ?_
  rintro _ w6 ⟨rfl, hb6⟩
  have HB6 := hid (Bn hB5 hb6)
  have HR6 := hid (HR5.out.later hb6)
  have hz6 := hb6.size
  clear q3 f3 q5 f5 hb2 hb4 hb6 hB5 e5 n2 n4
  go_wp2_with fail
  go_at_call 37
  refine (new_word w6 (HL0.out.later HB6.out)).mono ?_
  rintro _ w7 ⟨rfl, hs7, hb7⟩
  have hblk := hs7.blk
  have hlen := hL_length (blocks (([] : List Nat).length / 64) [] Sha.start) z64 ([] : List Nat).length rfl
  have hs7' := hs7
  generalize hHL : hL (blocks (([] : List Nat).length / 64) [] Sha.start) z64 ([] : List Nat).length = HL at *
  have hasz : (Tryd.prog.info? 65).map (·.size) = some HL.toArray.size := by rw [List.size_toArray, hlen]; exact Tryd.size65
  have hbm := build_mac x2 HL HXL2.out hlen w7
  have b8 := bel_alloc w7 (.cells (lst .u8 x2 ++ HL).toArray 69)
  have e8 := heap_new w7 (.cells (lst .u8 x2 ++ HL).toArray 69)
  have HM8 : Hid (Hm (lst .u8 x2) (w7.alloc (.cells (lst .u8 x2 ++ HL).toArray 69)) w7.heap.size [] z64) := ⟨by rw [mL, hHL]; exact e8, hs7.len, hs7.lo, hs7.tk, hs7.hi⟩
  have HB8 := hid (Bn (Bn HB6.out hb7) b8)
  have HR8 := hid (HR6.out.later (Bn hb7 b8))
  have hz7 := (Bn HB6.out hb7).size
  have hz67 := hb7.size
  clear hs7 hs7' b8 e8 hb7 hHL
  go_wp2_with (first
    | (refine wpList_load_row rfl 65 _ rfl w6.heap.size rfl 65 HL.toArray (0, 0) _ hblk Tryd.underlying65 rfl hasz ?_)
    | (refine wpList_build_to rfl 69 (.tmp 11) (.tmp 14) rfl (.agg (arr .u8 x2)) (.agg HL.toArray) (.agg (lst .u8 x2 ++ HL).toArray) rfl rfl hbm ?_))
  generalize w7.alloc (.cells (lst .u8 x2 ++ HL).toArray 69) = w8 at *
  have hS8 := HB8.out
  have hD8 := (Below.refl w8.heap.size w8).drew
  refine wp_region_held_drew (S := fun w' => Below w.heap.size w w') (by as_aux_lemma => kernel_rfl) hS8.drew (fun hS => ?_)
  generalize w8.drew = wD at *
  have HW8 := hid (writeM_word (lst .u8 x2) (by rw [lst_length, HXL2.out]) w7.heap.size (some ⟨w4.heap.size, 0, none⟩) 64 x1 [] z64 wD (HL0.out.later hS) (by have := HL0.out.two; omega) ⟨by rw [HXL1.out]; exact HR8.out.later hD8, fun _ ad h => by injection h with h; rw [← h]; show w4.heap.size ≠ _; omega⟩ (HM8.out.later hD8) (by rw [HXL1.out]; decide))
  rw [HXL1.out, List.nil_append] at HW8
  refine Ord.take (i := 0) (d := 17) (v := ?v0) rfl rfl (by as_aux_lemma => kernel_rfl) (by as_aux_lemma => kernel_rfl) (by as_aux_lemma => kernel_rfl) (fun _ _ _ h => h) (by rfl) ?h0 (by assumption) ?_
  case h0 => intro w hSw; go_simp; try with_reducible rfl
  simp only [List.setIfInBounds_toArray, List.set_cons_zero, List.set_cons_succ]
  refine Ord.take (i := 1) (d := 18) (v := ?v1) rfl rfl (by as_aux_lemma => kernel_rfl) (by as_aux_lemma => kernel_rfl) (by as_aux_lemma => kernel_rfl) (fun _ _ _ h => h) (by rfl) ?h1 (by assumption) ?_
  case h1 => intro w hSw; go_simp; try with_reducible rfl
  simp only [List.setIfInBounds_toArray, List.set_cons_zero, List.set_cons_succ]
  refine Ord.take (i := 2) (d := 19) (v := .pointer (some ⟨w7.heap.size, 64, none⟩)) rfl rfl (by as_aux_lemma => kernel_rfl) (by as_aux_lemma => kernel_rfl) (by as_aux_lemma => kernel_rfl) (fun _ _ _ h => h) (by rfl) ?h2 (by assumption) ?_
  case h2 => intro w hSw; go_simp; try with_reducible rfl
  simp only [List.setIfInBounds_toArray, List.set_cons_zero, List.set_cons_succ]
  refine Ord.take (i := 3) (d := 20) (v := .slice (some ⟨w4.heap.size, 0, none⟩) 64 64) rfl rfl (by as_aux_lemma => kernel_rfl) (by as_aux_lemma => kernel_rfl) (by as_aux_lemma => kernel_rfl) (fun _ _ _ h => h) (by rfl) ?h3 (by assumption) ?_
  case h3 => intro w hSw; go_simp; try with_reducible rfl
  simp only [List.setIfInBounds_toArray, List.set_cons_zero, List.set_cons_succ]
  refine wpAnyH_ready (rs := [4]) (by as_aux_lemma => kernel_rfl) (by simp) (AllReadyH.cons rfl (fun K hK => ?_) AllReadyH.nil)
  go_simp
  refine HW8.out.mono ?_
  rintro _ w9 ⟨rfl, ⟨op9, hm9⟩, hg9⟩
  have hS9 : Below w.heap.size w w9 := hS.trans (grown_bel hg9 hz7 hS.size)
  refine hK.out _ _ hS9 (fun _ => ?_)
  clear hK K
  refine wpAnyH_done (by as_aux_lemma => kernel_rfl) ?_ _
  have HM9 := hid hm9
  have HS9 := hid hS9
  clear hS hS8 hS9 hm9 hg9 hD8 HW8
  go_wp2
  go_ret
  exact ⟨_, hz7, rfl, ⟨_, HM9.out⟩, HS9.out⟩

set_option maxHeartbeats 800000 in
theorem macWrite_word (pre : List Value) (hp : pre.length = 64) (g : Nat) (a : Option Addr) (cap : Nat) (zs msg op : List Nat) (w : World) (hlaid : Laid w) (h2 : 2 ≤ g) (hr : Rx g w (.slice a zs.length cap) a cap zs) (hh : Hm pre w g msg op) (hbd : msg.length + zs.length ≤ 1000000000) :
    Calls Tryd.prog 23 #[.pointer (some ⟨g, 0, none⟩), .slice a zs.length cap] w fun e w' => e = .returned (.int .i64 0) ∧ (∃ op', Hm pre w' g (msg ++ zs) op') ∧ w.grownBy w' (some g) := by
  have HW := hid (writeM_word pre hp g a cap zs msg op w hlaid h2 hr hh hbd)
  clear hr hh hlaid hp
  go_enter Tryd.func23, Tryd.ntmps23
  go_wp2_with fail
  go_at_call 38
  refine HW.out.mono ?_
  rintro _ w2 ⟨rfl, hop, hg⟩
  go_wp2
  go_ret
  exact ⟨rfl, hop, hg⟩
end Go.Proofs.YtkipepodgmfbnaaDoor
