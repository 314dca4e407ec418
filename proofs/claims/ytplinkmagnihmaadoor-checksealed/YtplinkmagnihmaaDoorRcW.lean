/-
  The chain up to a record: record's Chain and the document's. Declarations that later texts of another seat want, out of several.
-/
import Derived.Test.YtplinkmagnihmaaDoorBsh
import Derived.Test.YtplinkmagnihmaaDoorShRefSumW
import Derived.Test.YtplinkmagnihmaaDoorRcO
import Derived.Test.YtplinkmagnihmaaDoorRcU
namespace Go.Proofs.YtplinkmagnihmaaDoor
open Go.RowKit

theorem Tryd.zero24p : ∀ w, (zeroValue 24).run Tryd.prog w = .ok (.agg (u8A z32)) w := fun w => by kernel_rfl
theorem Tryd.size24p : (Tryd.prog.info? 24).map (·.size) = some 32 := by kernel_rfl
set_option maxHeartbeats 3200000 in
set_option maxRecDepth 100000 in
theorem of_doc (b off cap : Nat) (zs : List Int) (w : World) (hr : Ri w .u8 (some ⟨b, off, none⟩) cap zs) (hn : zs.length ≤ 100000) :
    Calls Tryd.prog 37 #[.slice (some ⟨b, off, none⟩) zs.length cap] w fun e w' => e = .returned (.agg (u8A (digL zs))) ∧ Below w.heap.size w w' := by
  have b0 := bel_alc w (.cells (u8A z32) 24)
  have e0 := heap_alc w (.cells (u8A z32) 24)
  have s0 : (w.alloc (.cells (u8A z32) 24)).heap.size = w.heap.size + 1 := by simp
  have b1 := bel_alc (w.alloc (.cells (u8A z32) 24)) (.cells #[.slice (some ⟨b, off, none⟩) zs.length cap] 22)
  have e1 := heap_alc (w.alloc (.cells (u8A z32) 24)) (.cells #[.slice (some ⟨b, off, none⟩) zs.length cap] 22)
  rw [s0] at e1
  have hps : Sh.Ps ((w.alloc (.cells (u8A z32) 24)).alloc (.cells #[.slice (some ⟨b, off, none⟩) zs.length cap] 22)) (some ⟨w.heap.size + 1, 0, none⟩) 1 [nats zs] := by
    refine ⟨Nat.le_refl _, by unfold maxLen; omega, fun _ => ⟨w.heap.size + 1, 0, rfl, by simp, fun j hj => ?_⟩⟩
    have : j = 0 := by simp at hj; omega
    subst this
    exact ⟨.slice (some ⟨b, off, none⟩) zs.length cap, some ⟨b, off, none⟩, cap, by rw [Nat.zero_add]; exact Joins.cell_of_block e1 0, (hr.rdS.later b0).later b1⟩
  have HSM := hid (Sh.sum_ref (some ⟨w.heap.size + 1, 0, none⟩) 1 [nats zs] _ hps (by simp [nats_len]; omega))
  rw [show [nats zs].flatten = nats zs from by simp, arr_dig] at HSM
  change Hid (Calls Tryd.prog 54 #[.slice (some ⟨w.heap.size + 1, 0, none⟩) 1 1] _ fun e w' => e = .returned (.agg (u8A (digL zs))) ∧ _) at HSM
  have HB1 := hid (Bn b0 b1)
  have HE0 := hid ((b1.block _ (by rw [s0]; omega)).trans e0)
  have HG : Hid (w.heap.size < ((w.alloc (.cells (u8A z32) 24)).alloc (.cells #[.slice (some ⟨b, off, none⟩) zs.length cap] 22)).heap.size) := by show _ < _; simp; omega
  have hdl := digL_len zs
  have HZ : Hid ((u8A z32).size = 32) := rfl
  generalize digL zs = d at *
  generalize zs.length = L at *
  have HDL := hid hdl
  clear b0 e0 b1 e1 hps hr hdl
  go_enter Tryd.func37, Tryd.ntmps37
  go_wp2_with (refine wpList_alloc_at rfl 24 rfl (some 2) rfl (u8A z32) Tryd.zero24p w.heap.size rfl ?_)
  refine HSM.out.mono ?_
  rintro _ W2 ⟨rfl, hb2⟩
  have HE2 := hid ((hb2.block _ HG.out).trans HE0.out)
  have HB2 := hid (Bn HB1.out hb2)
  clear hb2 HSM HE0 HB1 HG
  go_wp2_with (refine wpList_store_rowTo rfl 24 _ _ rfl rfl w.heap.size (u8A d) rfl rfl 24 _ HE2.out (by rw [u8A_size, HDL.out]; exact Tryd.size24p) (by rw [HZ.out, u8A_size, HDL.out]) (u8A_one _) ?_)
  refine bodyPost_ret (results_cell_row (ty := 24) rfl _ _ _ _ _ _ _ rfl (setRow_heap _ _ _ _ _ _ HE2.out) Tryd.underlying24 rfl (by rw [u8A_size, HDL.out]; exact Tryd.size24p)) rfl ?_
  exact ⟨rfl, below_setRow HB2.out (Nat.le_refl _) _⟩
end Go.Proofs.YtplinkmagnihmaaDoor
namespace Go.Proofs.YtplinkmagnihmaaDoor
open Go.ChangeShapes Go.WideShapes Go.ChangeAt Go.RowKit Go.Deep

theorem Tryd.zero25 : ∀ w, (zeroValue 25).run Tryd.prog w = .ok (.agg (u8A z32)) w := fun w => by kernel_rfl
theorem Tryd.built23 : Tryd.prog.built 25 [] = some (u8A z32) := by kernel_rfl
/-- What Chain tells. -/
def chnD (r : Rec) : List Int := if mayB r = true then digL (wrB r) else z32
theorem chnD_len (r : Rec) : (chnD r).length = 32 := by
  unfold chnD
  split
  · exact digL_len _
  · rfl
theorem size_dig {d : List Int} (h : d.length = 32) : (Tryd.prog.info? 25).map (·.size) = some (u8A d).size := by rw [u8A_size, h]; exact Tryd.size25
theorem load_dig {W : World} {g : Nat} {d : List Int} (h : W.heap[g]? = some (.cells (u8A d) 25)) (hl : d.length = 32) : (loadVar 25 ⟨g, 0, none⟩).run Tryd.prog W = .ok (.agg (u8A d)) W :=
  run_loadVar_row (P := Tryd.prog) W g 25 25 (u8A d) (0, 0) _ h Tryd.underlying25 rfl (size_dig hl)
structure Cn (w W : World) (r : Rec) : Prop where
  box : Bx W w.heap.size r
  out : W.heap[w.heap.size + 1]? = some (.cells (u8A z32) 25)
  bel : Below w.heap.size w W
theorem Cn.later {w W W' : World} {r : Rec} (h : Cn w W r) (hb : Below W.heap.size W W') : Cn w W' r :=
  ⟨h.box.later hb, (hb.block _ (Array.getElem?_eq_some_iff.1 h.out).1).trans h.out, Bn h.bel hb⟩
theorem Cn.start (w : World) (r : Rec) (h : r.prev.length = 32) : Cn w ((w.alloc (.cells r.cs.toArray 58)).alloc (.cells (u8A z32) 25)) r := by
  have s1 : (w.alloc (.cells r.cs.toArray 58)).heap.size = w.heap.size + 1 := by simp
  have HO := heap_alc (w.alloc (.cells r.cs.toArray 58)) (.cells (u8A z32) 25)
  rw [s1] at HO
  exact ⟨(Bx.mk' w r h).later (bel_alc _ _), HO, Bn (bel_alc _ _) (bel_alc _ _)⟩
theorem wr_pos (r : Rec) : 0 < (wrB r).length := by
  unfold wrB wrH
  split
  · simp
  · split <;> simp
theorem z32_size : (u8A z32).size = 32 := rfl
set_option maxHeartbeats 3200000 in
set_option maxRecDepth 100000 in
theorem dchain_word (r : Rec) (w : World) (h : Rv w r) (hn : r.ps.length ≤ 1000) :
    Calls Tryd.prog 43 #[.agg r.cs.toArray] w fun e w' => e = .returned (.tuple #[.agg (u8A (chnD r)), .int .i64 (e130 (mayB r))]) ∧ Below w.heap.size w w' := by
  have C0 := Cn.start w r h.len
  obtain ⟨W0, hW0⟩ : ∃ W0, W0 = (w.alloc (.cells r.cs.toArray 58)).alloc (.cells (u8A z32) 25) := ⟨_, rfl⟩
  rw [← hW0] at C0
  have HW0 := hid hW0
  clear hW0
  have HS1 : Hid (w.heap.size + 1 = (w.alloc (.cells r.cs.toArray 58)).heap.size) := by show _ = _; simp
  have HC0 := hid C0
  have HX0 := hid C0.box.range
  have HLL := hid (Rec.cs_len h.len)
  have HBY := hid (dbytes_word r W0 (h.later C0.bel))
  have HM8 : Hid (mayB r = true → ∀ j, (Lit.int .u8 ((wrB r).getD j 0)).wf = true) := fun q => get_u8 (wr_mem h q)
  have HWL : Hid (mayB r = true → (wrB r).length ≤ 100000) := fun q => wr_len h q hn
  have HWP := hid (wr_pos r)
  have HCD : Hid (chnD r = if mayB r = true then digL (wrB r) else z32) := rfl
  have HDL := hid (digL_len (wrB r))

  have HPS := hid (fun bx ox cx V q2 (q0 : (wrB r).length ≤ 100000) => of_doc bx ox cx (wrB r) V q2 q0)
  clear C0 h
  generalize chnD r = CD at *
  generalize mayB r = MB at *
  generalize digL (wrB r) = D at *
  generalize wrB r = BB at *
  go_enter Tryd.func43, Tryd.ntmps43
  go_wp2_with (first | refine wpList_alloc_to rfl 25 rfl (some 2) rfl _ Tryd.zero25 (w.heap.size + 1) HS1.out W0 HW0.out ?_ | refine wpList_load_g rfl 58 _ rfl w.heap.size 0 rfl r.cs _ HX0.out Tryd.underlying58 rfl (by rw [HLL.out]; exact Tryd.size58) ?_ | fail)
  refine HBY.out.mono ?_
  rintro _ W1 ⟨v, rfl, hb1, hp⟩
  have HC1 := hid (HC0.out.later hb1)
  have HO1 := hid HC1.out.out
  have HB1 := hid HC1.out.bel
  clear hb1 HC0 HX0 HBY
  rcases hp with ⟨rfl, rfl⟩ | ⟨rfl, ho⟩
  · have HCE : Hid (CD = z32) := HCD.out.trans (if_neg (by simp))
    go_wp2_with (first | refine wpList_buildTo rfl 25 _ rfl (some 13) rfl (u8A z32) Tryd.built23 ?_ | refine wpList_store_rowTo rfl 25 _ _ rfl rfl (w.heap.size + 1) (u8A z32) rfl rfl 25 _ HO1.out (size_dig rfl) rfl (u8A_one _) ?_ | fail)
    refine bodyPost_ret (results_row_tmp rfl _ _ (w.heap.size + 1) _ rfl (load_dig (setRow_heap _ _ _ _ _ _ HO1.out) rfl)) rfl ?_
    exact ⟨by rw [HCE.out]; rfl, below_setRow HB1.out (by omega) _⟩
  · have HCE : Hid (CD = D) := HCD.out.trans (if_pos rfl)
    obtain ⟨ax, cx, rfl, hrx⟩ := Ri.own ho (HM8.out rfl)
    obtain ⟨bx, ox, rfl, _, _⟩ := hrx.cells HWP.out
    have HRX := hid hrx
    have HSZ : Hid ((u8A z32).size = (u8A D).size) := by show _ = _; rw [u8A_size, u8A_size, HDL.out]; rfl
    have HSM := hid (HPS.out bx ox cx W1 HRX.out (HWL.out rfl))
    clear ho hrx HPS HM8 HC1
    go_wp2_with fail
    refine HSM.out.mono ?_
    rintro _ W2 ⟨rfl, hb2⟩
    have HO2 := hid ((hb2.block _ (Array.getElem?_eq_some_iff.1 HO1.out).1).trans HO1.out)
    have HB2 := hid (Bn HB1.out hb2)
    clear hb2 HSM
    go_wp2_with (first | refine wpList_store_rowTo rfl 25 _ _ rfl rfl (w.heap.size + 1) (u8A D) rfl rfl 25 _ HO2.out (size_dig HDL.out) HSZ.out (u8A_one _) ?_ | fail)
    refine bodyPost_ret (results_row_tmp rfl _ _ (w.heap.size + 1) _ rfl (load_dig (setRow_heap _ _ _ _ _ _ HO2.out) HDL.out)) rfl ?_
    exact ⟨by rw [HCE.out]; rfl, below_setRow HB2.out (by omega) _⟩
end Go.Proofs.YtplinkmagnihmaaDoor
