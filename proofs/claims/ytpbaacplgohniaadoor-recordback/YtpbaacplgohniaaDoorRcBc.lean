/-
  A digest that is taken: parse's Rest.Digest.
-/
import Derived.Test.YtpbaacplgohniaaDoorRcBb
namespace Go.Proofs.YtpbaacplgohniaaDoor
open Go.ChangeShapes Go.WideShapes Go.ChangeAt Go.RowKit Go.Deep

theorem zero23B : ∀ w, (zeroValue 23).run Tryd.prog w = .ok (.agg (u8A z32)) w := fun w => by kernel_rfl
theorem size_digB {d : List Int} (h : d.length = 32) : (Tryd.prog.info? 23).map (·.size) = some (u8A d).size := by rw [u8A_size, h]; exact Tryd.size23
theorem load_digB {W : World} {g : Nat} {d : List Int} (h : W.heap[g]? = some (.cells (u8A d) 23)) (hl : d.length = 32) : (loadVar 23 ⟨g, 0, none⟩).run Tryd.prog W = .ok (.agg (u8A d)) W :=
  run_loadVar_row (P := Tryd.prog) W g 23 23 (u8A d) (0, 0) _ h Tryd.underlying23 rfl (size_digB hl)
theorem Rd.but {w0 w w' : World} {g : Nat} {a a' : Option Addr} {cap c' : Nat} {zs rs : List Int} (h : Rd w0 w g a cap zs) (hb : But1 g w w') (hg : w'.heap[g]? = some (.cells #[.slice a' rs.length c'] 87)) (hr : Ri w0 .u8 a' c' rs) : Rd w0 w' g a' c' rs :=
  ⟨hg, hr, h.bel.trans (hb.below h.ge h.bel.size), h.ge⟩
theorem But1.row {g g' : Nat} {w w' : World} (h : But1 g w w') (hg : w.heap.size ≤ g') (cs : Array Value) : But1 g w (w'.setRow g' cs) :=
  ⟨below_setRow h.bel (Nat.zero_le _) _, fun i hi hn => (other_setRow _ _ _ _ (by omega)).trans (h.same i hi hn)⟩
theorem Rd.rowset {w0 w : World} {g g' : Nat} {a : Option Addr} {cap : Nat} {zs : List Int} (h : Rd w0 w g a cap zs) (hg : w0.heap.size ≤ g') (hne : g ≠ g') (cs : Array Value) : Rd w0 (w.setRow g' cs) g a cap zs :=
  ⟨(other_setRow _ _ _ _ hne).trans h.blk, h.row, below_setRow h.bel hg _, h.ge⟩
set_option maxHeartbeats 3200000 in
set_option maxRecDepth 100000 in
theorem digest_some (w0 w : World) (g : Nat) (a : Option Addr) (cap : Nat) (zs : List Int) (h : Rd w0 w g a cap zs) (hn : 32 ≤ zs.length) :
    Calls Tryd.prog 63 #[.pointer (some ⟨g, 0, none⟩)] w fun e w' => e = .returned (.agg (u8A (zs.take 32))) ∧ ∃ a' c', Rd w0 w' g a' c' (zs.drop 32) ∧ But1 g w w' := by
  have b1 := bel_alc w (.cells (u8A z32) 23)
  have b2 := bel_alc (w.alloc (.cells (u8A z32) 23)) (.cells (u8A z32) 23)
  have s1 : (w.alloc (.cells (u8A z32) 23)).heap.size = w.heap.size + 1 := by simp
  have x0 := heap_old (w.alloc (.cells (u8A z32) 23)) (.cells (u8A z32) 23) (heap_alc w (.cells (u8A z32) 23))
  have x1 := heap_alc (w.alloc (.cells (u8A z32) 23)) (.cells (u8A z32) 23)
  rw [s1] at x1
  have bb := Bn b1 b2
  obtain ⟨W0, hW0⟩ : ∃ W0, W0 = (w.alloc (.cells (u8A z32) 23)).alloc (.cells (u8A z32) 23) := ⟨_, rfl⟩
  rw [← hW0] at x0 x1 bb
  have HW0 := hid hW0
  have HS1 : Hid (w.heap.size + 1 = (w.alloc (.cells (u8A z32) 23)).heap.size) := s1.symm
  have HX0 := hid x0
  have HX1 := hid x1
  have HBB := hid bb
  have HD0 := hid (h.later bb)
  have hgl := h.lt
  have hge := h.ge
  have hwl := h.bel.size
  have h32 : (zs.take 32).length = 32 := by simp; omega
  have HN := hid hn
  have H32 := hid h32
  have HGL := hid hgl
  have HGE := hid hge
  have HWL := hid hwl
  clear b1 b2 s1 x0 x1 bb hW0 h hn h32 hgl hge hwl
  go_enter Tryd.func63, Tryd.ntmps63
  go_wp2_with (first | refine wpList_alloc_at rfl 23 rfl (some 2) rfl _ zero23B w.heap.size rfl ?_ | refine wpList_alloc_to rfl 23 rfl (some 3) rfl _ zero23B (w.heap.size + 1) HS1.out W0 HW0.out ?_ | fail)
  refine wp_region_held_drew (S := fun _ => True) (by kernel_rfl) trivial (fun hS0 => ?_)
  have hdr : Below W0.heap.size W0 W0.drew := (Below.refl _ _).drew
  have HD1 := hid (HD0.out.later hdr)
  have HY0 := hid ((hdr.block _ (Array.getElem?_eq_some_iff.1 HX0.out).1).trans HX0.out)
  have HY1 := hid ((hdr.block _ (Array.getElem?_eq_some_iff.1 HX1.out).1).trans HX1.out)
  have HBC := hid (Bn HBB.out hdr)
  clear hdr HD0 HX0 HX1 HBB HW0 HS1
  generalize W0.drew = v0 at *
  simp only [List.size_toArray, List.length_cons, List.length_nil, Nat.reduceAdd]
  refine Ord.take (i := 0) (d := 4) (v := .slice (some ⟨w.heap.size + 1, 0, none⟩) 32 32) rfl rfl (by as_aux_lemma => kernel_rfl) (by as_aux_lemma => kernel_rfl) (by as_aux_lemma => kernel_rfl) (fun _ _ _ h => h) (by rfl) ?hA0 (by assumption) ?_
  case hA0 => intro V hSw; go_simp; try with_reducible rfl
  try simp only [List.setIfInBounds_toArray, List.set_cons_zero, List.set_cons_succ]
  refine Ord.take (i := 1) (d := 5) (v := .pointer (some ⟨g, 0, none⟩)) rfl rfl (by as_aux_lemma => kernel_rfl) (by as_aux_lemma => kernel_rfl) (by as_aux_lemma => kernel_rfl) (fun _ _ _ h => h) (by rfl) ?hA1 (by assumption) ?_
  case hA1 => intro V hSw; go_simp; try with_reducible rfl
  try simp only [List.setIfInBounds_toArray, List.set_cons_zero, List.set_cons_succ]
  refine wpAnyH_ready (rs := [2]) (by as_aux_lemma => kernel_rfl) (by simp) (AllReadyH.cons rfl (fun K hK => ?_) AllReadyH.nil)
  go_simp
  refine (take_some w0 v0 g a cap zs 32 HD1.out HN.out).mono ?_
  rintro _ v1 ⟨a1, rfl, hi, a', c', hd, hb⟩
  rw [H32.out]
  have HI := hid hi
  have HD := hid hd
  have HB := hid hb
  clear hi hd hb
  refine hK.out _ _ trivial (fun _ => ?_)
  clear hK K
  try simp only [List.setIfInBounds_toArray, List.set_cons_zero, List.set_cons_succ]
  obtain ⟨b, off, ha1, hlt, hc⟩ := HI.out.cells (by rw [H32.out]; decide)
  subst ha1
  have HZ1 : Hid (v1.heap[w.heap.size + 1]? = some (.cells (u8A z32) 23)) := (HB.out.same _ (Array.getElem?_eq_some_iff.1 HY1.out).1 (by have := HGL.out; omega)).trans HY1.out
  have HZ0 : Hid (v1.heap[w.heap.size]? = some (.cells (u8A z32) 23)) := (HB.out.same _ (Array.getElem?_eq_some_iff.1 HY0.out).1 (by have := HGL.out; omega)).trans HY0.out
  have HCP := hid (copy_dig v1 (w.heap.size + 1) ⟨b, off, none⟩ 32 (zs.take 32) HZ1.out H32.out (fun j hj => by rw [Addr.add_mid]; exact (HD.out.bel.cell (p := ⟨b, off + j, none⟩) hlt).trans (hc j (by rw [H32.out]; exact hj))))
  clear hc hlt
  refine wpAnyH_ready (rs := [3]) (by as_aux_lemma => kernel_rfl) (by simp) (AllReadyH.cons rfl (fun K hK => ?_) AllReadyH.nil)
  rw [if_pos (by rfl)]
  refine wp_copy_run (.tmp 4) (.tmp 6) rfl _ _ _ rfl rfl HCP.out ?_
  refine hK.out _ _ trivial (fun _ => ?_)
  clear hK K
  refine wpAnyH_done (by as_aux_lemma => kernel_rfl) ?_ _
  have HBD : Hid (But1 g w (v1.setRow (w.heap.size + 1) (u8A (zs.take 32)))) := ((But1.of_below HBC.out).trans HB.out).row (by omega) _
  have HDD : Hid (Rd w0 (v1.setRow (w.heap.size + 1) (u8A (zs.take 32))) g a' c' (zs.drop 32)) := HD.out.rowset (by have := HWL.out; omega) (by have := HGL.out; omega) _
  have HE1 : Hid ((v1.setRow (w.heap.size + 1) (u8A (zs.take 32))).heap[w.heap.size + 1]? = some (.cells (u8A (zs.take 32)) 23)) := setRow_heap _ _ _ _ _ _ HZ1.out
  have HE0 : Hid ((v1.setRow (w.heap.size + 1) (u8A (zs.take 32))).heap[w.heap.size]? = some (.cells (u8A z32) 23)) := (other_setRow _ _ _ _ (by omega)).trans HZ0.out
  have HZS : Hid ((u8A z32).size = (u8A (zs.take 32)).size) := by show _ = _; rw [u8A_size, u8A_size, H32.out]; rfl
  clear HCP HZ1 HZ0 HD HB HI HY0 HY1 HBC HD1
  generalize v1.setRow (w.heap.size + 1) (u8A (zs.take 32)) = v2 at *
  generalize hDE : zs.take 32 = D at *
  have HDE := hid hDE
  clear hDE
  have HLD : Hid (v2.rangeAt (w.heap.size + 1) 0 (D.map (Value.int .u8))) := fun j v hv => by
    rw [Nat.zero_add, Joins.cell_of_block HE1.out j]
    unfold u8A
    rw [List.getElem?_toArray]
    exact hv
  go_wp2_with (first | refine wpList_load_g rfl 23 _ rfl (w.heap.size + 1) 0 rfl (D.map (Value.int .u8)) _ HLD.out Tryd.underlying23 rfl (by rw [List.length_map, H32.out]; exact Tryd.size23) ?_ | refine wpList_store_rowTo rfl 23 _ _ rfl rfl w.heap.size (u8A D) rfl rfl 23 _ HE0.out (size_digB H32.out) HZS.out (u8A_one _) ?_ | fail)
  refine bodyPost_ret (results_cell_row (ty := 23) rfl _ _ _ _ _ _ _ rfl (setRow_heap _ _ _ _ _ _ HE0.out) Tryd.underlying23 rfl (size_digB H32.out)) rfl ?_
  exact ⟨by rw [HDE.out], _, _, HDD.out.rowset HWL.out (by have := HGL.out; omega) _, HBD.out.row (Nat.le_refl _) _⟩
set_option maxHeartbeats 3200000 in
set_option maxRecDepth 100000 in
theorem digest_none (w0 w : World) (g : Nat) (a : Option Addr) (cap : Nat) (zs : List Int) (h : Rd w0 w g a cap zs) (hn : ¬ 32 ≤ zs.length) :
    Calls Tryd.prog 63 #[.pointer (some ⟨g, 0, none⟩)] w fun e w' => e = .panicked faultC ∧ But1 g w w' := by
  have b1 := bel_alc w (.cells (u8A z32) 23)
  have b2 := bel_alc (w.alloc (.cells (u8A z32) 23)) (.cells (u8A z32) 23)
  have bb := Bn b1 b2
  have s1 : (w.alloc (.cells (u8A z32) 23)).heap.size = w.heap.size + 1 := by simp
  obtain ⟨W0, hW0⟩ : ∃ W0, W0 = (w.alloc (.cells (u8A z32) 23)).alloc (.cells (u8A z32) 23) := ⟨_, rfl⟩
  rw [← hW0] at bb
  have HW0 := hid hW0
  have HS1 : Hid (w.heap.size + 1 = (w.alloc (.cells (u8A z32) 23)).heap.size) := s1.symm
  have HBB := hid bb
  have HD0 := hid (h.later bb)
  have HN := hid hn
  clear b1 b2 s1 bb hW0 h hn
  go_enter Tryd.func63, Tryd.ntmps63
  go_wp2_with (first | refine wpList_alloc_at rfl 23 rfl (some 2) rfl _ zero23B w.heap.size rfl ?_ | refine wpList_alloc_to rfl 23 rfl (some 3) rfl _ zero23B (w.heap.size + 1) HS1.out W0 HW0.out ?_ | fail)
  refine wp_region_held_drew (S := fun _ => True) (by kernel_rfl) trivial (fun hS0 => ?_)
  have hdr : Below W0.heap.size W0 W0.drew := (Below.refl _ _).drew
  have HD1 := hid (HD0.out.later hdr)
  have HBC := hid (Bn HBB.out hdr)
  clear hdr HD0 HBB HW0 HS1
  generalize W0.drew = v0 at *
  simp only [List.size_toArray, List.length_cons, List.length_nil, Nat.reduceAdd]
  refine Ord.take (i := 0) (d := 4) (v := .slice (some ⟨w.heap.size + 1, 0, none⟩) 32 32) rfl rfl (by as_aux_lemma => kernel_rfl) (by as_aux_lemma => kernel_rfl) (by as_aux_lemma => kernel_rfl) (fun _ _ _ h => h) (by rfl) ?hA0 (by assumption) ?_
  case hA0 => intro V hSw; go_simp; try with_reducible rfl
  try simp only [List.setIfInBounds_toArray, List.set_cons_zero, List.set_cons_succ]
  refine Ord.take (i := 1) (d := 5) (v := .pointer (some ⟨g, 0, none⟩)) rfl rfl (by as_aux_lemma => kernel_rfl) (by as_aux_lemma => kernel_rfl) (by as_aux_lemma => kernel_rfl) (fun _ _ _ h => h) (by rfl) ?hA1 (by assumption) ?_
  case hA1 => intro V hSw; go_simp; try with_reducible rfl
  try simp only [List.setIfInBounds_toArray, List.set_cons_zero, List.set_cons_succ]
  refine wpAnyH_ready (rs := [2]) (by as_aux_lemma => kernel_rfl) (by simp) (AllReadyH.cons rfl (fun K hK => ?_) AllReadyH.nil)
  go_simp
  refine (take_none w0 v0 g a cap zs 32 HD1.out HN.out).mono ?_
  rintro _ v1 ⟨rfl, hw⟩
  obtain rfl := hw.symm
  exact ⟨rfl, rfl, .of_below HBC.out⟩
end Go.Proofs.YtpbaacplgohniaaDoor
