/-
  A record cut to what a law looks at.
-/
import Derived.Test.YtpbaacplgohniaaDoorRcI
namespace Go.Proofs.YtpbaacplgohniaaDoor
open Go.ChangeShapes Go.WideShapes Go.ChangeAt Go.RowKit Go.Deep Go.Lib

def cutP (s : ByteArray) : ByteArray := if 300 < s.size then s.extract 0 300 else s
def cutR (r : Rec) : Rec := { r with ps := r.ps.take 60, path := cutP r.path }
theorem Bx.setPs {w : World} {g : Nat} {r : Rec} (h : Bx w g r) (l : List Pc) : Bx (w.setCell ⟨g, 37, none⟩ (.slice r.a l.length r.cap)) g { r with ps := l } := by
  refine ⟨?_, h.len⟩
  rw [Joins.block_setCell h.blk, show r.cs = ([Value.int .i64 r.seq, .int .i64 r.epoch] ++ r.prev.map (Value.int .u8) ++ [.int .i64 r.kind, .int .i64 r.site, .string r.path]) ++ [.slice r.a r.ps.length r.cap] from by simp [Rec.cs]]
  have e : ([Value.int .i64 r.seq, .int .i64 r.epoch] ++ r.prev.map (Value.int .u8) ++ [Value.int .i64 r.kind, Value.int .i64 r.site, Value.string r.path]).length = 37 := by simp [h.len]
  rw [List.setIfInBounds_toArray, List.set_append_right _ _ (by omega), e]
  simp [Rec.cs]
theorem Bx.setPath {w : World} {g : Nat} {r : Rec} (h : Bx w g r) (s : ByteArray) : Bx (w.setCell ⟨g, 36, none⟩ (.string s)) g { r with path := s } := by
  refine ⟨?_, h.len⟩
  rw [Joins.block_setCell h.blk, show r.cs = ([Value.int .i64 r.seq, .int .i64 r.epoch] ++ r.prev.map (Value.int .u8) ++ [.int .i64 r.kind, .int .i64 r.site]) ++ [.string r.path, .slice r.a r.ps.length r.cap] from by simp [Rec.cs]]
  have e : ([Value.int .i64 r.seq, .int .i64 r.epoch] ++ r.prev.map (Value.int .u8) ++ [Value.int .i64 r.kind, Value.int .i64 r.site]).length = 36 := by simp [h.len]
  rw [List.setIfInBounds_toArray, List.set_append_right _ _ (by omega), e]
  simp [Rec.cs]
/-- cut's boxes. -/
structure Ct (w W : World) (r : Rec) : Prop where
  box : Bx W w.heap.size r
  out : W.heap[w.heap.size + 1]? = some (.cells recZ.cs.toArray 27)
  bel : Below w.heap.size w W
theorem Ct.put {w W W' : World} {r r' : Rec} (h : Ct w W r) (hx : Bx W' w.heap.size r') (hb : Below w.heap.size W W') (ho : W'.heap[w.heap.size + 1]? = W.heap[w.heap.size + 1]?) : Ct w W' r' := ⟨hx, ho.trans h.out, h.bel.trans hb⟩
theorem Ct.start (w : World) (r : Rec) (h : r.prev.length = 32) : Ct w ((w.alloc (.cells r.cs.toArray 27)).alloc (.cells recZ.cs.toArray 27)) r := by
  have s1 : (w.alloc (.cells r.cs.toArray 27)).heap.size = w.heap.size + 1 := by simp
  have HO := heap_alc (w.alloc (.cells r.cs.toArray 27)) (.cells recZ.cs.toArray 27)
  rw [s1] at HO
  exact ⟨(Bx.mk' w r h).later (bel_alc _ _), HO, Bn (bel_alc _ _) (bel_alc _ _)⟩
theorem Ct.ps {w W : World} {r : Rec} (h : Ct w W r) (l : List Pc) : Ct w (W.setCell ⟨w.heap.size, 37, none⟩ (.slice r.a l.length r.cap)) { r with ps := l } :=
  h.put (h.box.setPs l) ((Below.refl _ W).setCell (p := ⟨w.heap.size, 37, none⟩) (Nat.le_refl _) _) (Deep.blk_setCell_other _ _ _ _ (by show w.heap.size + 1 ≠ w.heap.size; omega))
theorem Ct.path {w W : World} {r : Rec} (h : Ct w W r) (s : ByteArray) : Ct w (W.setCell ⟨w.heap.size, 36, none⟩ (.string s)) { r with path := s } :=
  h.put (h.box.setPath s) ((Below.refl _ W).setCell (p := ⟨w.heap.size, 36, none⟩) (Nat.le_refl _) _) (Deep.blk_setCell_other _ _ _ _ (by show w.heap.size + 1 ≠ w.heap.size; omega))
theorem cut_len (s : ByteArray) : (cutP s).size ≤ 300 := by
  unfold cutP
  split
  · simp [ByteArray.size_extract]; omega
  · omega
theorem cut_rv {w : World} {r : Rec} (h : Rv w r) : Rv w (cutR r) := ⟨h.len, h.u8, h.seq, h.epoch, h.kind, h.site, by have := cut_len r.path; show (cutP r.path).size ≤ _; unfold maxLen; omega, h.row.take 60⟩
set_option maxHeartbeats 3200000 in
set_option maxRecDepth 100000 in
theorem cut_word (r : Rec) (w : World) (h : Rv w r) : Calls Tryd.prog 9 #[.agg r.cs.toArray] w fun e w' => e = .returned (.agg (cutR r).cs.toArray) ∧ Below w.heap.size w w' := by
  have C0 := Ct.start w r h.len
  obtain ⟨W0, hW0⟩ : ∃ W0, W0 = (w.alloc (.cells r.cs.toArray 27)).alloc (.cells recZ.cs.toArray 27) := ⟨_, rfl⟩
  rw [← hW0] at C0
  have HW0 := hid hW0
  clear hW0
  have HS1 : Hid (w.heap.size + 1 = (w.alloc (.cells r.cs.toArray 27)).heap.size) := by show _ = _; simp
  have hro := h.row.room
  have hmo := h.row.most
  have hpa := h.path
  unfold maxLen at hmo hpa
  have c37 := C0.box.c37
  have u37 := Joins.unfrozen_of_block C0.box.blk 37
  have HC0 := hid C0
  have HL := hid h.len
  clear h C0
  by_cases h60 : 60 < r.ps.length
  · have hl : (r.ps.take 60).length = 60 := by simp; omega
    have C1 := HC0.out.ps (r.ps.take 60)
    rw [hl] at C1
    have c36 : _ = some (Value.string r.path) := C1.box.c36
    have u36 := Joins.unfrozen_of_block C1.box.blk 36
    by_cases h300 : 300 < r.path.size
    · have HQ : Hid (cutR r = { r with ps := r.ps.take 60, path := r.path.extract 0 300 }) := by show _ = _; unfold cutR cutP; rw [if_pos h300]
      obtain ⟨R, hR⟩ : ∃ R, R = cutR r := ⟨_, rfl⟩
      have CC := C1.path (r.path.extract 0 300)
      rw [← HQ.out, ← hR] at CC
      have HX := hid CC.box.range
      have HO := hid CC.out
      have HB := hid CC.bel
      have HK := hid CC.box.len
      have HLL := hid (Rec.cs_len CC.box.len)
      rw [← hR]
      clear CC hR HC0 HQ
      go_enter Tryd.func9, Tryd.ntmps9
      go_wp2_with (first | refine wpList_alloc_to rfl 27 rfl (some 2) rfl _ Tryd.zero27 (w.heap.size + 1) HS1.out W0 HW0.out ?_ | refine wpList_load_g rfl 27 _ rfl w.heap.size 0 rfl R.cs _ HX.out Tryd.underlying27 rfl (by rw [HLL.out]; exact Tryd.size27) ?_ | refine wpList_store_rowTo rfl 27 _ _ rfl rfl (w.heap.size + 1) R.cs.toArray rfl rfl 27 _ HO.out (size_recs HK.out) (by rw [Rec.cs_size HK.out]; rfl) (all_oneCell_toArray (Rec.cs_one _)) ?_ | fail)
      refine bodyPost_ret (results_cell_row (ty := 27) rfl _ _ _ _ _ _ _ rfl (setRow_heap _ _ _ _ _ _ HO.out) Tryd.underlying27 rfl (size_recs HK.out)) rfl ?_
      exact ⟨rfl, below_setRow HB.out (by omega) _⟩
    · have HQ : Hid (cutR r = { r with ps := r.ps.take 60 }) := by show _ = _; unfold cutR cutP; rw [if_neg h300]
      obtain ⟨R, hR⟩ : ∃ R, R = cutR r := ⟨_, rfl⟩
      have CC := C1
      rw [← HQ.out, ← hR] at CC
      have HX := hid CC.box.range
      have HO := hid CC.out
      have HB := hid CC.bel
      have HK := hid CC.box.len
      have HLL := hid (Rec.cs_len CC.box.len)
      rw [← hR]
      clear CC hR HC0 HQ
      go_enter Tryd.func9, Tryd.ntmps9
      go_wp2_with (first | refine wpList_alloc_to rfl 27 rfl (some 2) rfl _ Tryd.zero27 (w.heap.size + 1) HS1.out W0 HW0.out ?_ | refine wpList_load_g rfl 27 _ rfl w.heap.size 0 rfl R.cs _ HX.out Tryd.underlying27 rfl (by rw [HLL.out]; exact Tryd.size27) ?_ | refine wpList_store_rowTo rfl 27 _ _ rfl rfl (w.heap.size + 1) R.cs.toArray rfl rfl 27 _ HO.out (size_recs HK.out) (by rw [Rec.cs_size HK.out]; rfl) (all_oneCell_toArray (Rec.cs_one _)) ?_ | fail)
      refine bodyPost_ret (results_cell_row (ty := 27) rfl _ _ _ _ _ _ _ rfl (setRow_heap _ _ _ _ _ _ HO.out) Tryd.underlying27 rfl (size_recs HK.out)) rfl ?_
      exact ⟨rfl, below_setRow HB.out (by omega) _⟩
  · have hl : r.ps.take 60 = r.ps := List.take_of_length_le (by omega)
    have c36 := HC0.out.box.c36
    have u36 := Joins.unfrozen_of_block HC0.out.box.blk 36
    by_cases h300 : 300 < r.path.size
    · have HQ : Hid (cutR r = { r with path := r.path.extract 0 300 }) := by show _ = _; unfold cutR cutP; rw [if_pos h300, hl]
      obtain ⟨R, hR⟩ : ∃ R, R = cutR r := ⟨_, rfl⟩
      have CC := HC0.out.path (r.path.extract 0 300)
      rw [← HQ.out, ← hR] at CC
      have HX := hid CC.box.range
      have HO := hid CC.out
      have HB := hid CC.bel
      have HK := hid CC.box.len
      have HLL := hid (Rec.cs_len CC.box.len)
      rw [← hR]
      clear CC hR HC0 HQ
      go_enter Tryd.func9, Tryd.ntmps9
      go_wp2_with (first | refine wpList_alloc_to rfl 27 rfl (some 2) rfl _ Tryd.zero27 (w.heap.size + 1) HS1.out W0 HW0.out ?_ | refine wpList_load_g rfl 27 _ rfl w.heap.size 0 rfl R.cs _ HX.out Tryd.underlying27 rfl (by rw [HLL.out]; exact Tryd.size27) ?_ | refine wpList_store_rowTo rfl 27 _ _ rfl rfl (w.heap.size + 1) R.cs.toArray rfl rfl 27 _ HO.out (size_recs HK.out) (by rw [Rec.cs_size HK.out]; rfl) (all_oneCell_toArray (Rec.cs_one _)) ?_ | fail)
      refine bodyPost_ret (results_cell_row (ty := 27) rfl _ _ _ _ _ _ _ rfl (setRow_heap _ _ _ _ _ _ HO.out) Tryd.underlying27 rfl (size_recs HK.out)) rfl ?_
      exact ⟨rfl, below_setRow HB.out (by omega) _⟩
    · have HQ : Hid (cutR r = r) := by show _ = _; unfold cutR cutP; rw [if_neg h300, hl]
      obtain ⟨R, hR⟩ : ∃ R, R = cutR r := ⟨_, rfl⟩
      have CC := HC0.out
      rw [← HQ.out, ← hR] at CC
      have HX := hid CC.box.range
      have HO := hid CC.out
      have HB := hid CC.bel
      have HK := hid CC.box.len
      have HLL := hid (Rec.cs_len CC.box.len)
      rw [← hR]
      clear CC hR HC0 HQ
      go_enter Tryd.func9, Tryd.ntmps9
      go_wp2_with (first | refine wpList_alloc_to rfl 27 rfl (some 2) rfl _ Tryd.zero27 (w.heap.size + 1) HS1.out W0 HW0.out ?_ | refine wpList_load_g rfl 27 _ rfl w.heap.size 0 rfl R.cs _ HX.out Tryd.underlying27 rfl (by rw [HLL.out]; exact Tryd.size27) ?_ | refine wpList_store_rowTo rfl 27 _ _ rfl rfl (w.heap.size + 1) R.cs.toArray rfl rfl 27 _ HO.out (size_recs HK.out) (by rw [Rec.cs_size HK.out]; rfl) (all_oneCell_toArray (Rec.cs_one _)) ?_ | fail)
      refine bodyPost_ret (results_cell_row (ty := 27) rfl _ _ _ _ _ _ _ rfl (setRow_heap _ _ _ _ _ _ HO.out) Tryd.underlying27 rfl (size_recs HK.out)) rfl ?_
      exact ⟨rfl, below_setRow HB.out (by omega) _⟩
end Go.Proofs.YtpbaacplgohniaaDoor
