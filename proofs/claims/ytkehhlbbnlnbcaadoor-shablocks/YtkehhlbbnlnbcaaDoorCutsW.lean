/-
  Pieces of a row, a list of one row, and the document's Of.
-/
import Derived.Test.YtkehhlbbnlnbcaaDoorLists
namespace Go.Proofs.YtkehhlbbnlnbcaaDoor
open Go.ChangeShapes Go.WideShapes Go.ChangeAt Go.RowKit Sha

/-- b[p:p+n], as a value and as bytes. -/
theorem mid_part {w : World} {a : Option Addr} {cap : Nat} {zs : List Nat} (h : Rd w (.slice a zs.length cap) a cap zs) (p n : Nat) (hn : p + n ≤ zs.length) :
    ∃ a' cap', sliced a p (p + n) cap 1 = .slice a' n cap' ∧ Rd w (.slice a' n cap') a' cap' ((zs.drop p).take n) := by
  have hl : ((zs.drop p).take n).length = n := by rw [List.length_take, List.length_drop]; omega
  have hroom := h.room
  have hmost := h.most
  refine ⟨_, cap - p, by rw [sliced, Nat.add_sub_cancel_left], by rw [hl], by omega, by omega, fun h0 => ?_, ?_, fun hn => ?_⟩
  · rw [hl] at h0 ⊢
    obtain ⟨b, off, rfl, hbw, hc⟩ := h.cells (by omega)
    refine ⟨b, off + p, ?_, hbw, fun j hj => ?_⟩
    · rw [if_neg (by omega)]
      simp [WideShapes.add_plain]
    · rw [show ((zs.drop p).take n).getD j 0 = zs.getD (p + j) 0 from by rw [← getD_dropN]; simp [List.getD, List.getElem?_take_of_lt hj], Nat.add_assoc]
      exact hc (p + j) (by omega)
  · rw [all_lt]
    intro z hz
    exact (all_lt zs).1 h.hi z (List.mem_of_mem_drop (List.mem_of_mem_take hz))
  · cases a with
    | none => have := h.nil rfl; omega
    | some ad => split at hn <;> cases hn

theorem slice_mid (a : Option Addr) (len cap p n : Nat) (h : p + n ≤ cap) (W : World) : (Instr.slice 35 (.slice a len cap) (some (.int .i64 (p : Int))) (some (.int .i64 ((p : Int) + (n : Int)))) none).run Tryd.prog W = .ok (sliced a p (p + n) cap 1) W := by
  have := run_slice_lh (P := Tryd.prog) W 35 a len cap Tryd.underlying35 .i64 .i64 (p : Int) ((p : Int) + (n : Int)) (by omega) (by omega) (by omega)
  rw [this, Int.toNat_natCast, show ((p : Int) + (n : Int)).toNat = p + n from by omega]
  rfl
theorem slice_rest (a : Option Addr) (len cap p : Nat) (h : p ≤ len) (W : World) : (Instr.slice 35 (.slice a len cap) (some (.int .i64 (p : Int))) none none).run Tryd.prog W = .ok (sliced a p len cap 1) W := by
  have := run_slice_l (P := Tryd.prog) W 35 a len cap Tryd.underlying35 .i64 (p : Int) (by omega) (by omega)
  rw [this, Int.toNat_natCast]
  rfl

/-- One row as a new list of rows. -/
theorem Ps.one {w : World} {v : Value} {a : Option Addr} {c : Nat} {z : List Nat} (h : Rd w v a c z) (g : Nat) (hg : g = w.heap.size) :
    Ps (w.alloc (.cells #[v] 35)) (some ⟨g, 0, none⟩) 1 [z] := by
  subst hg
  have hb := bel_alloc w (.cells #[v] 35)
  refine ⟨Nat.le_refl _, by unfold maxLen; omega, fun _ => ⟨w.heap.size, 0, rfl, by simp, fun j hj => ?_⟩⟩
  have hc := World.cell?_alloc_mark w #[v] 35 (0, 0)
  match j, hj with
  | 0, _ => exact ⟨v, a, c, hc 0, h.later hb⟩

theorem sum_one (a : Option Addr) (cap : Nat) (z : List Nat) (w : World) (hl : Laid w) (hr : Rd w (.slice a z.length cap) a cap z) (hbd : z.length ≤ 1000) (g : Nat) (hg : g = w.heap.size) :
    Calls Tryd.prog 10 #[.slice (some ⟨g, 0, none⟩) 1 1] (w.alloc (.cells #[.slice a z.length cap] 35)) fun e w' => e = .returned (.agg (arr .u8 (digest z))) ∧ Below w.heap.size w w' := by
  have hb := bel_alloc w (.cells #[.slice a z.length cap] 35)
  have h := sum_word (some ⟨g, 0, none⟩) 1 [z] (w.alloc (.cells #[.slice a z.length cap] 35)) (hl.later hb) (Ps.one hr g hg) (by simp; omega)
  rw [show [z].flatten = z from by simp] at h
  exact h.mono (fun e w' h => ⟨h.1, Bn hb h.2⟩)

set_option maxHeartbeats 800000 in
set_option maxRecDepth 100000 in
theorem of_ref (a : Option Addr) (cap : Nat) (z : List Nat) (w : World) (hr : Rd w (.slice a z.length cap) a cap z) (hbd : z.length ≤ 1000) :
    Calls Tryd.prog 27 #[.slice a z.length cap] w fun e w' => e = .returned (.agg (arr .u8 (digest z))) ∧ Below w.heap.size w w' := by
  have b0 := bel_alloc w (.cells (arr .u8 z32) 24)
  have e0 := heap_new w (.cells (arr .u8 z32) 24)
  have s0 : (w.alloc (.cells (arr .u8 z32) 24)).heap.size = w.heap.size + 1 := by simp
  have hr0 := hr.later b0
  have b1 := bel_alloc (w.alloc (.cells (arr .u8 z32) 24)) (.cells #[.slice a z.length cap] 35)
  have hp := Ps.one hr0 (w.heap.size + 1) s0.symm
  have e1 : ((w.alloc (.cells (arr .u8 z32) 24)).alloc (.cells #[.slice a z.length cap] 35)).heap[w.heap.size]? = some (.cells (arr .u8 z32) 24 (0, 0)) := by rw [b1.block _ (by omega)]; exact e0
  have s1 : ((w.alloc (.cells (arr .u8 z32) 24)).alloc (.cells #[.slice a z.length cap] 35)).heap.size = w.heap.size + 1 + 1 := by simp
  have hS := sum_ref (some ⟨w.heap.size + 1, 0, none⟩) 1 [z] _ hp (by simp; omega)
  rw [show [z].flatten = z from by simp] at hS
  have HS := hid hS
  have HB := hid (Bn b0 b1)
  clear hS hp hr0 hr b0 b1 e0
  go_enter Tryd.func27, Tryd.ntmps27
  go_wp2_with (refine wpList_alloc_at rfl 24 rfl (some 2) rfl (arr .u8 z32) Tryd.zero24 w.heap.size rfl ?_)
  go_at_call 11
  refine HS.out.mono ?_
  rintro _ w2 ⟨rfl, hb2⟩
  have hres : w2.heap[w.heap.size]? = some (.cells (arr .u8 z32) 24 (0, 0)) := by rw [hb2.block _ (by omega)]; exact e1
  have hbel := Bn HB.out hb2
  have hsz : (arr .u8 (digest z)).size = 32 := arr_size _ _
  clear hb2 HS e1
  go_wp2_with (refine wpList_store_rowTo rfl 24 _ _ rfl rfl w.heap.size (arr .u8 (digest z)) rfl rfl 24 _ hres (by rw [hsz]; exact Tryd.size24) (by rw [hsz]; rfl) (arr_one _ _) ?_)
  refine bodyPost_ret (results_cell_row (ty := 24) rfl _ _ _ _ _ _ _ rfl (setRow_heap _ _ _ _ _ _ hres) Tryd.underlying24 rfl (by rw [hsz]; exact Tryd.size24)) rfl ?_
  exact ⟨rfl, below_setRow hbel (Nat.le_refl _) _⟩
end Go.Proofs.YtkehhlbbnlnbcaaDoor
