/-
  The chain up to a record: record's Chain and the document's.
-/
import Derived.Test.YtpbaacplgohniaaDoorRcO
import Derived.Test.YtpbaacplgohniaaDoorRcU
import Derived.Test.YtpbaacplgohniaaDoorBdo
namespace Go.Proofs.YtpbaacplgohniaaDoor
open Go.ChangeShapes Go.WideShapes Go.ChangeAt Go.RowKit Go.Deep

theorem Tryd.zero23 : ∀ w, (zeroValue 23).run Tryd.prog w = .ok (.agg (u8A z32)) w := fun w => by kernel_rfl
theorem Tryd.built23 : Tryd.prog.built 23 [] = some (u8A z32) := by kernel_rfl
/-- What Chain tells. -/
def chnD (r : Rec) : List Int := if mayB r = true then digL (wrB r) else z32
theorem chnD_len (r : Rec) : (chnD r).length = 32 := by
  unfold chnD
  split
  · exact digL_len _
  · rfl
theorem size_dig {d : List Int} (h : d.length = 32) : (Tryd.prog.info? 23).map (·.size) = some (u8A d).size := by rw [u8A_size, h]; exact Tryd.size23
theorem load_dig {W : World} {g : Nat} {d : List Int} (h : W.heap[g]? = some (.cells (u8A d) 23)) (hl : d.length = 32) : (loadVar 23 ⟨g, 0, none⟩).run Tryd.prog W = .ok (.agg (u8A d)) W :=
  run_loadVar_row (P := Tryd.prog) W g 23 23 (u8A d) (0, 0) _ h Tryd.underlying23 rfl (size_dig hl)
structure Cn (w W : World) (r : Rec) : Prop where
  box : Bx W w.heap.size r
  out : W.heap[w.heap.size + 1]? = some (.cells (u8A z32) 23)
  bel : Below w.heap.size w W
theorem Cn.later {w W W' : World} {r : Rec} (h : Cn w W r) (hb : Below W.heap.size W W') : Cn w W' r :=
  ⟨h.box.later hb, (hb.block _ (Array.getElem?_eq_some_iff.1 h.out).1).trans h.out, Bn h.bel hb⟩
theorem Cn.start (w : World) (r : Rec) (h : r.prev.length = 32) : Cn w ((w.alloc (.cells r.cs.toArray 27)).alloc (.cells (u8A z32) 23)) r := by
  have s1 : (w.alloc (.cells r.cs.toArray 27)).heap.size = w.heap.size + 1 := by simp
  have HO := heap_alc (w.alloc (.cells r.cs.toArray 27)) (.cells (u8A z32) 23)
  rw [s1] at HO
  exact ⟨(Bx.mk' w r h).later (bel_alc _ _), HO, Bn (bel_alc _ _) (bel_alc _ _)⟩
theorem wr_pos (r : Rec) : 0 < (wrB r).length := by
  unfold wrB wrH
  split
  · simp
  · split <;> simp
theorem z32_size : (u8A z32).size = 32 := rfl
set_option maxHeartbeats 3200000 in
set_option maxRecDepth 100000 in
theorem chain_word (r : Rec) (w : World) (h : Rv w r) (hL : Sh.Laid w) (hn : r.ps.length ≤ 1000) :
    Calls Tryd.prog 12 #[.agg r.cs.toArray] w fun e w' => e = .returned (.tuple #[.agg (u8A (chnD r)), .int .i64 (e130 (mayB r))]) ∧ Below w.heap.size w w' := by
  have C0 := Cn.start w r h.len
  obtain ⟨W0, hW0⟩ : ∃ W0, W0 = (w.alloc (.cells r.cs.toArray 27)).alloc (.cells (u8A z32) 23) := ⟨_, rfl⟩
  rw [← hW0] at C0
  have HW0 := hid hW0
  clear hW0
  have HS1 : Hid (w.heap.size + 1 = (w.alloc (.cells r.cs.toArray 27)).heap.size) := by show _ = _; simp
  have HC0 := hid C0
  have HX0 := hid C0.box.range
  have HLL := hid (Rec.cs_len h.len)
  have HBY := hid (bytes_word r W0 (h.later C0.bel))
  have HM8 : Hid (mayB r = true → ∀ j, (Lit.int .u8 ((wrB r).getD j 0)).wf = true) := fun q => get_u8 (wr_mem h q)
  have HWL : Hid (mayB r = true → (wrB r).length ≤ 100000) := fun q => wr_len h q hn
  have HWP := hid (wr_pos r)
  have HCD : Hid (chnD r = if mayB r = true then digL (wrB r) else z32) := rfl
  have HDL := hid (digL_len (wrB r))
  have HLA := hid hL
  have HPS := hid (fun bx ox cx V (q1 : Sh.Laid V) q2 (q0 : (wrB r).length ≤ 100000) => fun g q3 => psum_word bx ox cx (wrB r) V q1 q2 q0 g q3)
  clear C0 h hL
  generalize chnD r = CD at *
  generalize mayB r = MB at *
  generalize digL (wrB r) = D at *
  generalize wrB r = BB at *
  go_enter Tryd.func12, Tryd.ntmps12
  go_wp2_with (first | refine wpList_alloc_to rfl 23 rfl (some 2) rfl _ Tryd.zero23 (w.heap.size + 1) HS1.out W0 HW0.out ?_ | refine wpList_load_g rfl 27 _ rfl w.heap.size 0 rfl r.cs _ HX0.out Tryd.underlying27 rfl (by rw [HLL.out]; exact Tryd.size27) ?_ | fail)
  refine HBY.out.mono ?_
  rintro _ W1 ⟨v, rfl, hb1, hp⟩
  have HC1 := hid (HC0.out.later hb1)
  have HO1 := hid HC1.out.out
  have HB1 := hid HC1.out.bel
  clear hb1 HC0 HX0 HBY
  rcases hp with ⟨rfl, rfl⟩ | ⟨rfl, ho⟩
  · have HCE : Hid (CD = z32) := HCD.out.trans (if_neg (by simp))
    go_wp2_with (first | refine wpList_buildTo rfl 23 _ rfl (some 13) rfl (u8A z32) Tryd.built23 ?_ | refine wpList_store_rowTo rfl 23 _ _ rfl rfl (w.heap.size + 1) (u8A z32) rfl rfl 23 _ HO1.out (size_dig rfl) rfl (u8A_one _) ?_ | fail)
    refine bodyPost_ret (results_row_tmp rfl _ _ (w.heap.size + 1) _ rfl (load_dig (setRow_heap _ _ _ _ _ _ HO1.out) rfl)) rfl ?_
    exact ⟨by rw [HCE.out]; rfl, below_setRow HB1.out (by omega) _⟩
  · have HCE : Hid (CD = D) := HCD.out.trans (if_pos rfl)
    obtain ⟨ax, cx, rfl, hrx⟩ := Ri.own ho (HM8.out rfl)
    obtain ⟨bx, ox, rfl, _, _⟩ := hrx.cells HWP.out
    have HRX := hid hrx
    have HSZ : Hid ((u8A z32).size = (u8A D).size) := by show _ = _; rw [u8A_size, u8A_size, HDL.out]; rfl
    have HSM := hid (HPS.out bx ox cx W1 (HLA.out.later HB1.out) HRX.out (HWL.out rfl) W1.heap.size rfl)
    clear ho hrx HPS HM8 HC1
    go_wp2_with fail
    refine HSM.out.mono ?_
    rintro _ W2 ⟨rfl, hb2⟩
    have HO2 := hid ((hb2.block _ (Array.getElem?_eq_some_iff.1 HO1.out).1).trans HO1.out)
    have HB2 := hid (Bn HB1.out hb2)
    clear hb2 HSM
    go_wp2_with (first | refine wpList_store_rowTo rfl 23 _ _ rfl rfl (w.heap.size + 1) (u8A D) rfl rfl 23 _ HO2.out (size_dig HDL.out) HSZ.out (u8A_one _) ?_ | fail)
    refine bodyPost_ret (results_row_tmp rfl _ _ (w.heap.size + 1) _ rfl (load_dig (setRow_heap _ _ _ _ _ _ HO2.out) HDL.out)) rfl ?_
    exact ⟨by rw [HCE.out]; rfl, below_setRow HB2.out (by omega) _⟩
set_option maxHeartbeats 3200000 in
set_option maxRecDepth 100000 in
theorem dchain_word (r : Rec) (w : World) (h : Rv w r) (hn : r.ps.length ≤ 1000) :
    Calls Tryd.prog 13 #[.agg r.cs.toArray] w fun e w' => e = .returned (.tuple #[.agg (u8A (chnD r)), .int .i64 (e130 (mayB r))]) ∧ Below w.heap.size w w' := by
  have C0 := Cn.start w r h.len
  obtain ⟨W0, hW0⟩ : ∃ W0, W0 = (w.alloc (.cells r.cs.toArray 27)).alloc (.cells (u8A z32) 23) := ⟨_, rfl⟩
  rw [← hW0] at C0
  have HW0 := hid hW0
  clear hW0
  have HS1 : Hid (w.heap.size + 1 = (w.alloc (.cells r.cs.toArray 27)).heap.size) := by show _ = _; simp
  have HC0 := hid C0
  have HX0 := hid C0.box.range
  have HLL := hid (Rec.cs_len h.len)
  have HBY := hid (dbytes_word r W0 (h.later C0.bel))
  have HM8 : Hid (mayB r = true → ∀ j, (Lit.int .u8 ((wrB r).getD j 0)).wf = true) := fun q => get_u8 (wr_mem h q)
  have HWL : Hid (mayB r = true → (wrB r).length ≤ 100000) := fun q => wr_len h q hn
  have HWP := hid (wr_pos r)
  have HCD : Hid (chnD r = if mayB r = true then digL (wrB r) else z32) := rfl
  have HDL := hid (digL_len (wrB r))

  have HPS := hid (fun bx ox cx V q2 (q0 : (wrB r).length ≤ 100000) => of_doc bx ox cx (wrB r) V q2 q0)
  clear C0 h
  generalize chnD r = CD at *
  generalize mayB r = MB at *
  generalize digL (wrB r) = D at *
  generalize wrB r = BB at *
  go_enter Tryd.func13, Tryd.ntmps13
  go_wp2_with (first | refine wpList_alloc_to rfl 23 rfl (some 2) rfl _ Tryd.zero23 (w.heap.size + 1) HS1.out W0 HW0.out ?_ | refine wpList_load_g rfl 27 _ rfl w.heap.size 0 rfl r.cs _ HX0.out Tryd.underlying27 rfl (by rw [HLL.out]; exact Tryd.size27) ?_ | fail)
  refine HBY.out.mono ?_
  rintro _ W1 ⟨v, rfl, hb1, hp⟩
  have HC1 := hid (HC0.out.later hb1)
  have HO1 := hid HC1.out.out
  have HB1 := hid HC1.out.bel
  clear hb1 HC0 HX0 HBY
  rcases hp with ⟨rfl, rfl⟩ | ⟨rfl, ho⟩
  · have HCE : Hid (CD = z32) := HCD.out.trans (if_neg (by simp))
    go_wp2_with (first | refine wpList_buildTo rfl 23 _ rfl (some 13) rfl (u8A z32) Tryd.built23 ?_ | refine wpList_store_rowTo rfl 23 _ _ rfl rfl (w.heap.size + 1) (u8A z32) rfl rfl 23 _ HO1.out (size_dig rfl) rfl (u8A_one _) ?_ | fail)
    refine bodyPost_ret (results_row_tmp rfl _ _ (w.heap.size + 1) _ rfl (load_dig (setRow_heap _ _ _ _ _ _ HO1.out) rfl)) rfl ?_
    exact ⟨by rw [HCE.out]; rfl, below_setRow HB1.out (by omega) _⟩
  · have HCE : Hid (CD = D) := HCD.out.trans (if_pos rfl)
    obtain ⟨ax, cx, rfl, hrx⟩ := Ri.own ho (HM8.out rfl)
    obtain ⟨bx, ox, rfl, _, _⟩ := hrx.cells HWP.out
    have HRX := hid hrx
    have HSZ : Hid ((u8A z32).size = (u8A D).size) := by show _ = _; rw [u8A_size, u8A_size, HDL.out]; rfl
    have HSM := hid (HPS.out bx ox cx W1 HRX.out (HWL.out rfl))
    clear ho hrx HPS HM8 HC1
    go_wp2_with fail
    refine HSM.out.mono ?_
    rintro _ W2 ⟨rfl, hb2⟩
    have HO2 := hid ((hb2.block _ (Array.getElem?_eq_some_iff.1 HO1.out).1).trans HO1.out)
    have HB2 := hid (Bn HB1.out hb2)
    clear hb2 HSM
    go_wp2_with (first | refine wpList_store_rowTo rfl 23 _ _ rfl rfl (w.heap.size + 1) (u8A D) rfl rfl 23 _ HO2.out (size_dig HDL.out) HSZ.out (u8A_one _) ?_ | fail)
    refine bodyPost_ret (results_row_tmp rfl _ _ (w.heap.size + 1) _ rfl (load_dig (setRow_heap _ _ _ _ _ _ HO2.out) HDL.out)) rfl ?_
    exact ⟨by rw [HCE.out]; rfl, below_setRow HB2.out (by omega) _⟩
end Go.Proofs.YtpbaacplgohniaaDoor
