/-
  The contracts of mac's blockOf, xored and closed. The MAC, as a function on lists of bytes. Pieces of a row, a list of one row, and the document's Of. The contracts of a Hash's sound, Write, Sum and Copy, of one that New or Copy made.
-/
import Derived.Test.YtgnjicpmfpgdeaaDoorShJb
import Derived.Laws.ResultCell
import Derived.Test.YtgnjicpmfpgdeaaDoorShShaFast
namespace Go.Proofs.YtgnjicpmfpgdeaaDoor.Sh
open Go.RowKit Sha

theorem results_row_tmp {P : Program} {fn : Func} {p u : Tmp} {ty : TypeId} (h : fn.results = #[.cell p ty, .tmp u]) (tmps : Array Value) (w : World) (g : Nat) (v : Value) (hp : tmps.getD p undef = .pointer (some ⟨g, 0, none⟩)) (hl : (loadVar ty ⟨g, 0, none⟩).run P w = .ok v w) :
    (results fn tmps).run P w = .ok (.tuple #[v, tmps.getD u undef]) w := by
  rw [results_cell_tmp h, hp]
  simp [asAddr, hl]

theorem Tryd.size39' : (Tryd.prog.info? 39).map (·.size) = some 32 := Tryd.size39
theorem Hs.made {w : World} {g : Nat} {msg op : List Nat} (h : Hs w g msg op) : w.cell? ⟨g, 0, none⟩ = some (.bool true) := by
  rw [Joins.cell_of_block h.blk 0, List.getElem?_toArray]; exact hL_made _ _ _
theorem Hs.count {w : World} {g : Nat} {msg op : List Nat} (h : Hs w g msg op) : w.cell? ⟨g, 73, none⟩ = some (.int .u64 (msg.length : Int)) := by
  rw [Joins.cell_of_block h.blk 73, List.getElem?_toArray]; exact hL_n _ _ _ h.len

end Go.Proofs.YtgnjicpmfpgdeaaDoor.Sh
namespace Go.Proofs.YtgnjicpmfpgdeaaDoor.Sh
open Go.ChangeShapes Go.WideShapes Go.ChangeAt Go.RowKit Sha

/-- b[p:p+n], as a value and as bytes. -/
theorem mid_part {w : World} {a : Option Addr} {cap : Nat} {zs : List Nat} (h : Rd w (.slice a zs.length cap) a cap zs) (p n : Nat) (hn : p + n ≤ zs.length) :
    ∃ a' cap', sliced a p (p + n) cap 1 = .slice a' n cap' ∧ Rd w (.slice a' n cap') a' cap' ((zs.drop p).take n) := by
  have hl : ((zs.drop p).take n).length = n := by rw [List.length_take, List.length_drop]; omega
  have hroom := h.room
  have hmost := h.most
  refine ⟨_, cap - p, by rw [sliced, Nat.add_sub_cancel_left], by rw [hl], by omega, by omega, fun h0 => ?_, ?_, fun hn => ?_⟩
  · rw [hl] at h0 ⊢
    obtain ⟨b, off, rfl, hbw, hc⟩ := h.cells (by omega)
    refine ⟨b, off + p, ?_, hbw, fun j hj => ?_⟩
    · rw [if_neg (by omega)]
      simp [WideShapes.add_plain]
    · rw [show ((zs.drop p).take n).getD j 0 = zs.getD (p + j) 0 from by rw [← getD_dropN]; simp [List.getD, List.getElem?_take_of_lt hj], Nat.add_assoc]
      exact hc (p + j) (by omega)
  · rw [all_lt]
    intro z hz
    exact (all_lt zs).1 h.hi z (List.mem_of_mem_drop (List.mem_of_mem_take hz))
  · cases a with
    | none => have := h.nil rfl; omega
    | some ad => split at hn <;> cases hn

set_option maxRecDepth 100000 in
theorem slice_mid (a : Option Addr) (len cap p n : Nat) (h : p + n ≤ cap) (W : World) : (Instr.slice 22 (.slice a len cap) (some (.int .i64 (p : Int))) (some (.int .i64 ((p : Int) + (n : Int)))) none).run Tryd.prog W = .ok (sliced a p (p + n) cap 1) W := by
  have := run_slice_lh (P := Tryd.prog) W 22 a len cap Tryd.underlying22 .i64 .i64 (p : Int) ((p : Int) + (n : Int)) (by omega) (by omega) (by omega)
  rw [this, Int.toNat_natCast, show ((p : Int) + (n : Int)).toNat = p + n from by omega]
  rfl
set_option maxRecDepth 100000 in
theorem slice_rest (a : Option Addr) (len cap p : Nat) (h : p ≤ len) (W : World) : (Instr.slice 22 (.slice a len cap) (some (.int .i64 (p : Int))) none none).run Tryd.prog W = .ok (sliced a p len cap 1) W := by
  have := run_slice_l (P := Tryd.prog) W 22 a len cap Tryd.underlying22 .i64 (p : Int) (by omega) (by omega)
  rw [this, Int.toNat_natCast]
  rfl

/-- One row as a new list of rows. -/
theorem Ps.one {w : World} {v : Value} {a : Option Addr} {c : Nat} {z : List Nat} (h : Rd w v a c z) (g : Nat) (hg : g = w.heap.size) :
    Ps (w.alloc (.cells #[v] 22)) (some ⟨g, 0, none⟩) 1 [z] := by
  subst hg
  have hb := bel_alloc w (.cells #[v] 22)
  refine ⟨Nat.le_refl _, by unfold maxLen; omega, fun _ => ⟨w.heap.size, 0, rfl, by simp, fun j hj => ?_⟩⟩
  have hc := World.cell?_alloc_mark w #[v] 22 (0, 0)
  match j, hj with
  | 0, _ => exact ⟨v, a, c, hc 0, h.later hb⟩

theorem sum_one (a : Option Addr) (cap : Nat) (z : List Nat) (w : World) (hl : Laid w) (hr : Rd w (.slice a z.length cap) a cap z) (hbd : z.length ≤ 100000) (g : Nat) (hg : g = w.heap.size) :
    Calls Tryd.prog 60 #[.slice (some ⟨g, 0, none⟩) 1 1] (w.alloc (.cells #[.slice a z.length cap] 22)) fun e w' => e = .returned (.agg (arr .u8 (digest z))) ∧ Below w.heap.size w w' := by
  have hb := bel_alloc w (.cells #[.slice a z.length cap] 22)
  have h := sum_word (some ⟨g, 0, none⟩) 1 [z] (w.alloc (.cells #[.slice a z.length cap] 22)) (hl.later hb) (Ps.one hr g hg) (by simp; omega)
  rw [show [z].flatten = z from by simp] at h
  exact h.mono (fun e w' h => ⟨h.1, Bn hb h.2⟩)

set_option maxHeartbeats 800000 in
set_option maxRecDepth 100000 in
theorem of_ref (a : Option Addr) (cap : Nat) (z : List Nat) (w : World) (hr : Rd w (.slice a z.length cap) a cap z) (hbd : z.length ≤ 100000) :
    Calls Tryd.prog 83 #[.slice a z.length cap] w fun e w' => e = .returned (.agg (arr .u8 (digest z))) ∧ Below w.heap.size w w' := by
  have b0 := bel_alloc w (.cells (arr .u8 z32) 38)
  have e0 := heap_new w (.cells (arr .u8 z32) 38)
  have s0 : (w.alloc (.cells (arr .u8 z32) 38)).heap.size = w.heap.size + 1 := by simp
  have hr0 := hr.later b0
  have b1 := bel_alloc (w.alloc (.cells (arr .u8 z32) 38)) (.cells #[.slice a z.length cap] 22)
  have hp := Ps.one hr0 (w.heap.size + 1) s0.symm
  have e1 : ((w.alloc (.cells (arr .u8 z32) 38)).alloc (.cells #[.slice a z.length cap] 22)).heap[w.heap.size]? = some (.cells (arr .u8 z32) 38 (0, 0)) := by rw [b1.block _ (by omega)]; exact e0
  have s1 : ((w.alloc (.cells (arr .u8 z32) 38)).alloc (.cells #[.slice a z.length cap] 22)).heap.size = w.heap.size + 1 + 1 := by simp
  have hS := sum_ref (some ⟨w.heap.size + 1, 0, none⟩) 1 [z] _ hp (by simp; omega)
  rw [show [z].flatten = z from by simp] at hS
  have HS := hid hS
  have HB := hid (Bn b0 b1)
  clear hS hp hr0 hr b0 b1 e0
  go_enter Tryd.func83, Tryd.ntmps83
  go_wp2_with (refine wpList_alloc_at rfl 38 rfl (some 2) rfl (arr .u8 z32) Tryd.zero38 w.heap.size rfl ?_)
  go_at_call 71
  refine HS.out.mono ?_
  rintro _ w2 ⟨rfl, hb2⟩
  have hres : w2.heap[w.heap.size]? = some (.cells (arr .u8 z32) 38 (0, 0)) := by rw [hb2.block _ (by omega)]; exact e1
  have hbel := Bn HB.out hb2
  have hsz : (arr .u8 (digest z)).size = 32 := arr_size _ _
  clear hb2 HS e1
  go_wp2_with (refine wpList_store_rowTo rfl 38 _ _ rfl rfl w.heap.size (arr .u8 (digest z)) rfl rfl 38 _ hres (by rw [hsz]; exact Tryd.size38) (by rw [hsz]; rfl) (arr_one _ _) ?_)
  refine bodyPost_ret (results_cell_row (ty := 38) rfl _ _ _ _ _ _ _ rfl (setRow_heap _ _ _ _ _ _ hres) Tryd.underlying38 rfl (by rw [hsz]; exact Tryd.size38)) rfl ?_
  exact ⟨rfl, below_setRow hbel (Nat.le_refl _) _⟩
end Go.Proofs.YtgnjicpmfpgdeaaDoor.Sh
namespace Go.Proofs.YtgnjicpmfpgdeaaDoor.Sh.Sha

/-- A key's block. -/
def keyOf (key : List Nat) : List Nat := if 64 < key.length then digest key else key
def blockL (key : List Nat) : List Nat := keyOf key ++ List.replicate (64 - (keyOf key).length) 0
def xorL (x : Nat) (l : List Nat) : List Nat := l.map fun z => z ^^^ x
/-- The MAC. -/
def hmac (key msg : List Nat) : List Nat := digest (xorL 92 (blockL key) ++ digest (xorL 54 (blockL key) ++ msg))

theorem jefe_in : digest (xorL 54 (blockL [74, 101, 102, 101]) ++ [119, 104, 97, 116, 32, 100, 111, 32, 121, 97, 32, 119, 97, 110, 116, 32, 102, 111, 114, 32, 110, 111, 116, 104, 105, 110, 103, 63]) = [162, 228, 133, 134, 61, 39, 249, 216, 100, 172, 141, 128, 36, 50, 161, 237, 71, 125, 140, 76, 111, 52, 157, 22, 212, 231, 233, 23, 198, 41, 202, 215] := by
  rw [digest_quick]
  decide +kernel
theorem jefe : hmac [74, 101, 102, 101] [119, 104, 97, 116, 32, 100, 111, 32, 121, 97, 32, 119, 97, 110, 116, 32, 102, 111, 114, 32, 110, 111, 116, 104, 105, 110, 103, 63] = [91, 220, 193, 70, 191, 96, 117, 78, 106, 4, 36, 38, 8, 149, 117, 199, 90, 0, 63, 8, 157, 39, 57, 131, 157, 236, 88, 185, 100, 236, 56, 67] := by
  rw [hmac, jefe_in, digest_quick]
  decide +kernel

theorem digest_len (l : List Nat) : (digest l).length = 32 := rfl
theorem keyOf_length (key : List Nat) : (keyOf key).length ≤ 64 := by
  unfold keyOf
  split
  · rw [digest_len]; omega
  · omega
theorem blockL_length (key : List Nat) : (blockL key).length = 64 := by
  have := keyOf_length key
  rw [blockL, List.length_append, List.length_replicate]
  omega
theorem xorL_length (x : Nat) (l : List Nat) : (xorL x l).length = l.length := by simp [xorL]
theorem hmac_length (key msg : List Nat) : (hmac key msg).length = 32 := rfl
theorem block_short (key : List Nat) (h : key.length < 64) : blockL (key ++ [0]) = blockL key := by
  have e1 : keyOf key = key := by rw [keyOf, if_neg (by omega)]
  have e2 : keyOf (key ++ [0]) = key ++ [0] := by rw [keyOf, if_neg (by rw [List.length_append, List.length_singleton]; omega)]
  rw [blockL, blockL, e1, e2, List.length_append, List.length_singleton, List.append_assoc, show 64 - key.length = (64 - (key.length + 1)) + 1 from by omega, List.replicate_succ]
  rfl
theorem block_long (key : List Nat) (h : 64 < key.length) : blockL (digest key) = blockL key := by
  have e1 : keyOf key = digest key := by rw [keyOf, if_pos h]
  have e2 : keyOf (digest key) = digest key := by rw [keyOf, if_neg (by rw [digest_len]; omega)]
  rw [blockL, blockL, e1, e2]
end Go.Proofs.YtgnjicpmfpgdeaaDoor.Sh.Sha
namespace Go.Proofs.YtgnjicpmfpgdeaaDoor.Sh
open Go.RowKit Sha

theorem Tryd.zero83 : ∀ w, (zeroValue 83).run Tryd.prog w = .ok (.agg (arr .u8 z64)) w := (zero_of_info (t := 83) (n := 64) (by kernel_rfl)).1
theorem Tryd.size83 : (Tryd.prog.info? 83).map (·.size) = some 64 := by kernel_rfl

/-- What the walk of xored keeps. -/
structure MemX (w wr : World) (l : List Nat) : Prop where
  blk : wr.heap[w.heap.size]? = some (.cells (arr .u8 l) 83 (0, 0))
  res : wr.heap[w.heap.size + 1]? = some (.cells (arr .u8 z64) 83 (0, 0))
  bel : Below w.heap.size w wr
theorem MemX.put {w wr : World} {l : List Nat} (h : MemX w wr l) (i v : Nat) : MemX w (wr.setCell ⟨w.heap.size, i, none⟩ (.int .u8 (v : Int))) (l.set i v) := by
  refine ⟨?_, ?_, h.bel.setCell (by simp) _⟩
  · rw [Joins.block_setCell h.blk, arr_set]
  · rw [heap_put_other h.blk (by omega)]; exact h.res
theorem MemX.start (w : World) (l : List Nat) : MemX w ((w.alloc (.cells (arr .u8 l) 83)).alloc (.cells (arr .u8 z64) 83)) l := by
  have b1 := bel_alloc w (.cells (arr .u8 l) 83)
  have s1 : (w.alloc (.cells (arr .u8 l) 83)).heap.size = w.heap.size + 1 := by simp
  have b2 := bel_alloc (w.alloc (.cells (arr .u8 l) 83)) (.cells (arr .u8 z64) 83)
  have e2 := heap_new (w.alloc (.cells (arr .u8 l) 83)) (.cells (arr .u8 z64) 83)
  rw [s1] at e2
  exact ⟨by rw [b2.block _ (by omega)]; exact heap_new _ _, e2, Bn b1 b2⟩

/-- A block of which so many bytes are xored. -/
def xorUp (x : Nat) (l : List Nat) (j : Nat) : List Nat := xorL x (l.take j) ++ l.drop j
theorem xorUp_zero (x : Nat) (l : List Nat) : xorUp x l 0 = l := by simp [xorUp, xorL]
theorem xorUp_full (x : Nat) (l : List Nat) (j : Nat) (h : l.length ≤ j) : xorUp x l j = xorL x l := by
  rw [xorUp, List.take_of_length_le h, List.drop_eq_nil_of_le h, List.append_nil]
theorem xorUp_length (x : Nat) (l : List Nat) (j : Nat) (h : j ≤ l.length) : (xorUp x l j).length = l.length := by
  rw [xorUp, List.length_append, xorL_length, List.length_take, List.length_drop]; omega
theorem xorUp_get (x : Nat) (l : List Nat) (j : Nat) (h : j < l.length) : (xorUp x l j).getD j 0 = l.getD j 0 := by
  have e : (xorL x (l.take j)).length = j := by rw [xorL_length, List.length_take]; omega
  rw [xorUp, List.getD, List.getElem?_append_right (by omega), e, Nat.sub_self, List.getElem?_drop, Nat.add_zero, ← List.getD]
theorem xorUp_set (x : Nat) (l : List Nat) (j : Nat) (h : j < l.length) : (xorUp x l j).set j (l.getD j 0 ^^^ x) = xorUp x l (j + 1) := by
  have e : (xorL x (l.take j)).length = j := by rw [xorL_length, List.length_take]; omega
  have d : l.getD j 0 = l[j] := by rw [List.getD, List.getElem?_eq_getElem h, Option.getD_some]
  rw [xorUp, List.set_append_right _ _ (by omega), e, Nat.sub_self, List.drop_eq_getElem_cons h, List.set_cons_zero, xorUp, List.take_succ_eq_append_getElem h, xorL, xorL, List.map_append, List.append_assoc, d]
  rfl
theorem xorL_lt (x : Nat) (l : List Nat) (hx : x < 256) (h : ∀ j, l.getD j 0 < 256) : ∀ j, (xorL x l).getD j 0 < 256 := by
  rw [all_lt] at *
  intro z hz
  rw [xorL, List.mem_map] at hz
  obtain ⟨y, hy, rfl⟩ := hz
  exact Nat.xor_lt_two_pow (n := 8) (h y hy) hx

set_option maxHeartbeats 800000 in
set_option maxRecDepth 100000 in
theorem xored_word (l : List Nat) (x : Nat) (w : World) (hl : l.length = 64) (hb : ∀ j, l.getD j 0 < 256) (hx : x < 256) :
    Calls Tryd.prog 57 #[.agg (arr .u8 l), .int .u8 (x : Int)] w fun e w' => e = .returned (.agg (arr .u8 (xorL x l))) ∧ Below w.heap.size w w' := by
  have hM0 := MemX.start w l
  rw [show MemX w ((w.alloc (.cells (arr .u8 l) 83)).alloc (.cells (arr .u8 z64) 83)) l = MemX w ((w.alloc (.cells (arr .u8 l) 83)).alloc (.cells (arr .u8 z64) 83)) (xorUp x l 0) from by rw [xorUp_zero]] at hM0
  have HM0 := hid hM0
  have HL := hid hl
  have HB := hid hb
  clear hM0 hl hb
  go_enter Tryd.func57, Tryd.ntmps57
  go_wp2_with (refine wpList_alloc_at rfl 83 rfl (some 4) rfl (arr .u8 z64) Tryd.zero83 (w.heap.size + 1) (by simp) ?_)
  generalize (w.alloc (.cells (arr .u8 l) 83)).alloc (.cells (arr .u8 z64) 83) = w2 at *
  go_loopw [6] (fun i wr => ∃ k : Nat, k ≤ 64 ∧ i = .int .i64 k ∧ MemX w wr (xorUp x l k)) (fun i _ => 64 - (intOf i).toNat)
  case atStart => exact ⟨0, by omega, rfl, HM0.out⟩
  case round =>
    obtain ⟨k, hk, rfl, hM⟩ := hrel
    by_cases hlt : k < 64
    · have hk64 : (k : Int) < 64 := by omega
      have hkl : k < l.length := by rw [HL.out]; exact hlt
      have cd := (Joins.cell_of_block hM.blk k).trans (arr_get .u8 _ k (by rw [xorUp_length _ _ _ (by omega)]; exact hkl))
      have fz := Joins.unfrozen_of_block hM.blk k
      rw [xorUp_get _ _ _ hkl] at cd
      have HP := hid (hM.put k (l.getD k 0 ^^^ x))
      rw [xorUp_set _ _ _ hkl] at HP
      have hbk := HB.out k
      have hxb := u8_xor_nat (l.getD k 0) x hbk hx
      clear hM
      generalize l.getD k 0 = y at *
      go_wp2
      exact ⟨⟨k + 1, by omega, by go_num, HP.out⟩, by simp [intOf]; omega⟩
    · obtain rfl : k = 64 := by omega
      rw [xorUp_full _ _ _ (by rw [HL.out]; exact Nat.le_refl _)] at hM
      have hblk := hM.blk
      have hres := hM.res
      have hbel := hM.bel
      have hsz : (arr .u8 (xorL x l)).size = 64 := by rw [arr_size, xorL_length, HL.out]
      have hasz : (Tryd.prog.info? 83).map (·.size) = some (arr .u8 (xorL x l)).size := by rw [hsz]; exact Tryd.size83
      have h1 : (arr .u8 z64).size = (arr .u8 (xorL x l)).size := by rw [hsz]; rfl
      have ho := arr_one .u8 (xorL x l)
      clear hM
      generalize hAR : arr .u8 (xorL x l) = AR at *
      have HAR := hid hAR
      clear hAR
      go_wp2_with (first
        | (refine wpList_load_row rfl 83 _ rfl w.heap.size rfl 83 AR (0, 0) _ hblk Tryd.underlying83 rfl hasz ?_)
        | (refine wpList_store_rowTo rfl 83 _ _ rfl rfl (w.heap.size + 1) AR rfl rfl 83 _ hres hasz h1 ho ?_))
      refine bodyPost_ret (results_cell_row (ty := 83) rfl _ _ _ _ _ _ _ rfl (setRow_heap _ _ _ _ _ _ hres) Tryd.underlying83 rfl hasz) rfl ?_
      exact ⟨by rw [HAR.out], below_setRow hbel (by omega) _⟩

set_option maxRecDepth 100000 in
/-- Bytes copied to the front of 64 bytes 0. -/
theorem copy_key {w : World} {g tt : Nat} {a : Option Addr} {cap : Nat} {zs : List Nat} (hb : w.heap[g]? = some (.cells (arr .u8 z64) tt (0, 0))) (hr : Rd w (.slice a zs.length cap) a cap zs) (hl : zs.length ≤ 64) :
    ∃ w', (Builtin.copy_ #[22, 22] 3 #[.slice (some ⟨g, 0, none⟩) 64 64, .slice a zs.length cap]).run Tryd.prog w = .ok (.int .i64 (zs.length : Int)) w' ∧ w'.heap[g]? = some (.cells (arr .u8 (zs ++ List.replicate (64 - zs.length) 0)) tt (0, 0)) ∧ w.grownBy w' (some g) := by
  have hs5 : (Tryd.prog.info? 5).map (·.size) = some 1 := by kernel_rfl
  cases a with
  | none =>
    have h0 := hr.nil rfl
    have h1 := hr.room
    have hz : zs = [] := List.length_eq_zero_iff.1 (by omega)
    subst hz h0
    refine ⟨w, ?_, hb, grown_below (Below.refl _ _) _⟩
    cases hq : Tryd.prog.info? 5 with
    | none => simp [hq] at hs5
    | some i =>
      have hi : i.size = 1 := by simpa [hq] using hs5
      simp [Builtin.copy_, run_underlying Tryd.underlying22, Builtin.lenOf, Builtin.firstCells, sizeOf, typeInfo, hq]
      rfl
  | some ad =>
    have hsrc : ∀ (j : Nat) (v : Value), (lst .u8 zs)[j]? = some v → w.cell? (Addr.add ad j) = some v := by
      intro j v hv
      have hj : j < zs.length := by have := (List.getElem?_eq_some_iff.1 hv).1; rw [lst_length] at this; exact this
      obtain ⟨b, off, hab, _, hc⟩ := hr.cells (by omega)
      injection hab with hab
      subst hab
      rw [Go.WideShapes.add_plain, hc j hj, ← hv]
      simp [lst, List.getD, List.getElem?_eq_getElem hj]
    have h := run_copy_row (P := Tryd.prog) w 22 22 3 5 g 0 64 64 ad zs.length cap _ tt (lst .u8 zs) Tryd.underlying22 hs5 hb (by rw [lst_length]; exact (Nat.min_eq_left hl).symm) hsrc (by rw [lst_length, arr_size]; show 0 + zs.length ≤ 64; omega) (lst_one _ _)
    have e : ((arr .u8 z64).toList.take 0 ++ lst .u8 zs ++ (arr .u8 z64).toList.drop (0 + (lst .u8 zs).length)).toArray = arr .u8 (zs ++ List.replicate (64 - zs.length) 0) := by
      rw [List.take_zero, List.nil_append, lst_length, Nat.zero_add, show z64 = List.replicate 64 0 from rfl, ← arr_lst, ← arr_lst, lst, lst, lst]
      simp only [List.map_append, List.map_replicate, List.drop_replicate]
    rw [e, lst_length] at h
    exact ⟨_, h, setRow_heap _ _ _ _ _ _ hb, grown_setRow _ _ _⟩

theorem put_new (w : World) (l : List Nat) (tt g : Nat) (hg : g = w.heap.size) :
    Below w.heap.size w ((w.alloc (.cells (arr .u8 z32) tt)).setRow g (arr .u8 l)) ∧ ((w.alloc (.cells (arr .u8 z32) tt)).setRow g (arr .u8 l)).heap[g]? = some (.cells (arr .u8 l) tt (0, 0)) ∧ ((w.alloc (.cells (arr .u8 z32) tt)).setRow g (arr .u8 l)).heap.size = w.heap.size + 1 := by
  subst hg
  have b := bel_alloc w (.cells (arr .u8 z32) tt)
  have e := heap_new w (.cells (arr .u8 z32) tt)
  have h1 := setRow_heap _ w.heap.size _ (arr .u8 l) _ _ e
  refine ⟨below_setRow b (Nat.le_refl _) _, h1, ?_⟩
  simp

/-- An array of bytes in a block of its own, as a slice. -/
theorem Rd.block {w : World} {g tt : Nat} {l : List Nat} (n : Nat) (hn : l.length = n) (hb : w.heap[g]? = some (.cells (arr .u8 l) tt (0, 0))) (hm : n ≤ maxLen) (hz : ∀ j, l.getD j 0 < 256) :
    Rd w (.slice (some ⟨g, 0, none⟩) n n) (some ⟨g, 0, none⟩) n l := by
  subst hn
  refine ⟨rfl, Nat.le_refl _, hm, fun _ => ⟨g, 0, rfl, (Array.getElem?_eq_some_iff.1 hb).1, fun j hj => ?_⟩, hz, fun h => by cases h⟩
  rw [Nat.zero_add]
  exact (Joins.cell_of_block hb j).trans (arr_get .u8 l j hj)

theorem grown_bel {w w' : World} {g B : Nat} (h : w.grownBy w' (some g)) (hB : B ≤ g) (hs : B ≤ w.heap.size) : Below B w w' :=
  ⟨h.os, h.tape, h.output, h.size, fun k hk => h.block k (by omega) (by intro h; injection h with h; omega)⟩

set_option maxHeartbeats 1600000 in
set_option maxRecDepth 100000 in
theorem blockOf_word (a : Option Addr) (cap : Nat) (zs : List Nat) (w : World) (hlaid : Laid w) (hr : Rd w (.slice a zs.length cap) a cap zs) (hbd : zs.length ≤ 100000) :
    Calls Tryd.prog 56 #[.slice a zs.length cap] w fun e w' => e = .returned (.agg (arr .u8 (blockL zs))) ∧ Below w.heap.size w w' := by
  have b1 := bel_alloc w (.cells (arr .u8 z64) 83)
  have e1 := heap_new w (.cells (arr .u8 z64) 83)
  have s1 : (w.alloc (.cells (arr .u8 z64) 83)).heap.size = w.heap.size + 1 := by simp
  have b2 := bel_alloc (w.alloc (.cells (arr .u8 z64) 83)) (.cells (arr .u8 z64) 83)
  have e2 := heap_new (w.alloc (.cells (arr .u8 z64) 83)) (.cells (arr .u8 z64) 83)
  have s2 : ((w.alloc (.cells (arr .u8 z64) 83)).alloc (.cells (arr .u8 z64) 83)).heap.size = w.heap.size + 1 + 1 := by simp
  rw [s1] at e2
  have e1' : ((w.alloc (.cells (arr .u8 z64) 83)).alloc (.cells (arr .u8 z64) 83)).heap[w.heap.size]? = some (.cells (arr .u8 z64) 83 (0, 0)) := by rw [b2.block _ (by omega)]; exact e1
  have hB2 := Bn b1 b2
  have HR2 := hid (hr.later hB2)
  have HL2 := hid (hlaid.later hB2)
  have hlen : (arr .u8 (blockL zs)).size = 64 := by rw [arr_size, blockL_length]
  have hasz : (Tryd.prog.info? 83).map (·.size) = some (arr .u8 (blockL zs)).size := by rw [hlen]; exact Tryd.size83
  have hss : (arr .u8 z64).size = (arr .u8 (blockL zs)).size := by rw [hlen]; rfl
  have ho := arr_one .u8 (blockL zs)
  clear hr hlaid b1 e1 b2
  generalize hAR : arr .u8 (blockL zs) = AR at *
  have HAR := hid hAR
  clear hAR
  by_cases h64 : 64 < zs.length
  · have h64' : (64 : Int) < (zs.length : Int) := by omega
    have HBL : Hid (blockL zs = digest zs ++ List.replicate (64 - (digest zs).length) 0) := by
      have hk : Sha.keyOf zs = digest zs := if_pos h64
      show _ = _
      rw [blockL, hk]
    go_enter Tryd.func56, Tryd.ntmps56
    go_wp2_with (first
      | (refine wpList_alloc_at rfl 83 rfl (some 2) rfl (arr .u8 z64) Tryd.zero83 w.heap.size rfl ?_)
      | (refine wpList_alloc_at rfl 83 rfl (some 3) rfl (arr .u8 z64) Tryd.zero83 (w.heap.size + 1) (by simp) ?_))
    generalize (w.alloc (.cells (arr .u8 z64) 83)).alloc (.cells (arr .u8 z64) 83) = w2 at *
    go_at_call 60
    refine (sum_one a cap zs w2 HL2.out HR2.out hbd (w.heap.size + 1 + 1) s2.symm).mono ?_
    rintro _ w3 ⟨rfl, hb3⟩
    have hz3 := hb3.size
    obtain ⟨q3, f3, z3⟩ := put_new w3 (digest zs) 39 w3.heap.size rfl
    have e3 : ((w3.alloc (.cells (arr .u8 z32) 39)).setRow w3.heap.size (arr .u8 (digest zs))).heap[w.heap.size + 1]? = some (.cells (arr .u8 z64) 83 (0, 0)) := by rw [q3.block _ (by omega), hb3.block _ (by omega)]; exact e2
    have e4 : ((w3.alloc (.cells (arr .u8 z32) 39)).setRow w3.heap.size (arr .u8 (digest zs))).heap[w.heap.size]? = some (.cells (arr .u8 z64) 83 (0, 0)) := by rw [q3.block _ (by omega), hb3.block _ (by omega)]; exact e1'
    obtain ⟨w4, hcp, hblk, hgr⟩ := copy_key e3 (Rd.block _ rfl f3 (by rw [digest_len]; decide) (digest_lt zs)) (by rw [digest_len]; decide)
    rw [digest_len] at hcp
    rw [← HBL.out, HAR.out] at hblk
    have hB4 : Below w.heap.size w w4 := (Bn hB2 (Bn hb3 q3)).trans (grown_bel hgr (by omega) (by omega))
    have hres : w4.heap[w.heap.size]? = some (.cells (arr .u8 z64) 83 (0, 0)) := by rw [hgr.block _ (by omega) (by intro h; injection h with h; omega)]; exact e4
    have hsd : (arr .u8 (digest zs)).size = 32 := by rw [arr_size, digest_len]
    have hn3 := heap_new w3 (.cells (arr .u8 z32) 39)
    clear e2 e1' hgr e3 e4 f3 q3 hb3 hB2 HR2 HL2 HBL
    generalize digest zs = dg at *
    go_wp2_with (first
      | (refine wpList_alloc_at rfl 39 rfl (some 4) rfl (arr .u8 z32) Tryd.zero39 w3.heap.size rfl ?_)
      | (refine wpList_store_rowTo rfl 39 _ _ rfl rfl w3.heap.size (arr .u8 dg) rfl rfl 39 _ hn3 (by rw [hsd]; exact Tryd.size39') (by rw [hsd]; rfl) (arr_one _ _) ?_)
      | (refine wpList_load_row rfl 83 _ rfl (w.heap.size + 1) rfl 83 AR (0, 0) _ hblk Tryd.underlying83 rfl hasz ?_)
      | (refine wpList_store_rowTo rfl 83 _ _ rfl rfl w.heap.size AR rfl rfl 83 _ hres hasz hss ho ?_))
    refine bodyPost_ret (results_cell_row (ty := 83) rfl _ _ _ _ _ _ _ rfl (setRow_heap _ _ _ _ _ _ hres) Tryd.underlying83 rfl hasz) rfl ?_
    exact ⟨rfl, below_setRow hB4 (by omega) _⟩
  · have h64' : ¬ (64 : Int) < (zs.length : Int) := by omega
    have HBL : Hid (blockL zs = zs ++ List.replicate (64 - zs.length) 0) := by
      have hk : Sha.keyOf zs = zs := if_neg h64
      show _ = _
      rw [blockL, hk]
    obtain ⟨w3, hcp, hblk, hgr⟩ := copy_key e2 HR2.out (by omega)
    have hB3 : Below w.heap.size w w3 := hB2.trans (grown_bel hgr (by omega) (by omega))
    have hres : w3.heap[w.heap.size]? = some (.cells (arr .u8 z64) 83 (0, 0)) := by rw [hgr.block _ (by omega) (by intro h; injection h with h; omega)]; exact e1'
    rw [← HBL.out, HAR.out] at hblk
    clear e2 e1' hgr
    go_enter Tryd.func56, Tryd.ntmps56
    go_wp2_with (first
      | (refine wpList_alloc_at rfl 83 rfl (some 2) rfl (arr .u8 z64) Tryd.zero83 w.heap.size rfl ?_)
      | (refine wpList_alloc_at rfl 83 rfl (some 3) rfl (arr .u8 z64) Tryd.zero83 (w.heap.size + 1) (by simp) ?_)
      | (refine wpList_load_row rfl 83 _ rfl (w.heap.size + 1) rfl 83 AR (0, 0) _ hblk Tryd.underlying83 rfl hasz ?_)
      | (refine wpList_store_rowTo rfl 83 _ _ rfl rfl w.heap.size AR rfl rfl 83 _ hres hasz hss ho ?_))
    refine bodyPost_ret (results_cell_row (ty := 83) rfl _ _ _ _ _ _ _ rfl (setRow_heap _ _ _ _ _ _ hres) Tryd.underlying83 rfl hasz) rfl ?_
    exact ⟨rfl, below_setRow hB3 (by omega) _⟩
end Go.Proofs.YtgnjicpmfpgdeaaDoor.Sh
