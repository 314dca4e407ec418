/-
  A first record, and one that does not follow: record's Next where it refuses, and the law's alive.
-/
import Derived.Test.YtpbaacplgohniaaDoorRcH
namespace Go.Proofs.YtpbaacplgohniaaDoor
open Go.ChangeShapes Go.WideShapes Go.ChangeAt Go.RowKit Go.Deep Go.Lib

theorem Tryd.zero55 : ∀ w, (zeroValue 55).run Tryd.prog w = .ok (.agg (hdL 0 0 z32).toArray) w := fun w => by kernel_rfl
theorem Tryd.built55 : Tryd.prog.built 55 [] = some (hdL 0 0 z32).toArray := by kernel_rfl
theorem size_hd {n k : Int} {d : List Int} (h : d.length = 32) : (Tryd.prog.info? 55).map (·.size) = some (hdL n k d).toArray.size := by rw [List.size_toArray, hdL_len n k d h]; exact Tryd.size55
theorem load_hd {W : World} {g : Nat} {n k : Int} {d : List Int} (h : W.heap[g]? = some (.cells (hdL n k d).toArray 55)) (hl : d.length = 32) : (loadVar 55 ⟨g, 0, none⟩).run Tryd.prog W = .ok (.agg (hdL n k d).toArray) W :=
  run_loadVar_row (P := Tryd.prog) W g 55 55 (hdL n k d).toArray (0, 0) _ h Tryd.underlying55 rfl (size_hd hl)
/-- Next's boxes: the head's, the record's, and what it answers. -/
structure Nx (w W : World) (hs he : Int) (hc : List Int) (r : Rec) : Prop where
  hd : Bh W w.heap.size hs he hc
  box : Bx W (w.heap.size + 1) r
  out : W.heap[w.heap.size + 2]? = some (.cells (hdL 0 0 z32).toArray 55)
  bel : Below w.heap.size w W
theorem Nx.later {w W W' : World} {hs he : Int} {hc : List Int} {r : Rec} (h : Nx w W hs he hc r) (hb : Below W.heap.size W W') : Nx w W' hs he hc r :=
  ⟨h.hd.later hb, h.box.later hb, (hb.block _ (Array.getElem?_eq_some_iff.1 h.out).1).trans h.out, Bn h.bel hb⟩
theorem Nx.start (w : World) (hs he : Int) (hc : List Int) (r : Rec) (h1 : hc.length = 32) (h2 : r.prev.length = 32) : Nx w (((w.alloc (.cells (hdL hs he hc).toArray 55)).alloc (.cells r.cs.toArray 27)).alloc (.cells (hdL 0 0 z32).toArray 55)) hs he hc r := by
  have s1 : (w.alloc (.cells (hdL hs he hc).toArray 55)).heap.size = w.heap.size + 1 := by simp
  have s2 : ((w.alloc (.cells (hdL hs he hc).toArray 55)).alloc (.cells r.cs.toArray 27)).heap.size = w.heap.size + 2 := by simp
  have BX := (Bx.mk' (w.alloc (.cells (hdL hs he hc).toArray 55)) r h2).later (bel_alc _ (.cells (hdL 0 0 z32).toArray 55))
  rw [s1] at BX
  have HO := heap_alc ((w.alloc (.cells (hdL hs he hc).toArray 55)).alloc (.cells r.cs.toArray 27)) (.cells (hdL 0 0 z32).toArray 55)
  rw [s2] at HO
  exact ⟨((Bh.mk' w hs he hc h1).later (bel_alc _ _)).later (bel_alc _ _), BX, HO, Bn (Bn (bel_alc _ _) (bel_alc _ _)) (bel_alc _ _)⟩
set_option maxHeartbeats 3200000 in
set_option maxRecDepth 100000 in
theorem next_no (hs he : Int) (hc : List Int) (r : Rec) (w : World) (hcl : hc.length = 32) (h : Rv w r) (hf : fltO hs he hc r ≠ 0) :
    Calls Tryd.prog 28 #[.agg (hdL hs he hc).toArray, .agg r.cs.toArray] w fun e w' => e = .returned (.tuple #[.agg (hdL 0 0 z32).toArray, .int .i64 (fltO hs he hc r)]) ∧ Below w.heap.size w w' := by
  have N0 := Nx.start w hs he hc r hcl h.len
  obtain ⟨W0, hW0⟩ : ∃ W0, W0 = ((w.alloc (.cells (hdL hs he hc).toArray 55)).alloc (.cells r.cs.toArray 27)).alloc (.cells (hdL 0 0 z32).toArray 55) := ⟨_, rfl⟩
  rw [← hW0] at N0
  have HW0 := hid hW0
  clear hW0
  have HN0 := hid N0
  have HHL := hid (hdL_len hs he hc hcl)
  have HRL := hid (Rec.cs_len h.len)
  have HR0 := hid N0.hd.range
  have HX0 := hid N0.box.range
  have HFW := hid (fault_word hs he hc r _ hcl (h.later N0.bel))
  have s1 : (w.alloc (.cells (hdL hs he hc).toArray 55)).heap.size = w.heap.size + 1 := by simp
  have HS2 : Hid (w.heap.size + 2 = ((w.alloc (.cells (hdL hs he hc).toArray 55)).alloc (.cells r.cs.toArray 27)).heap.size) := by show _ = _; simp
  clear N0 h
  generalize fltO hs he hc r = F at *
  go_enter Tryd.func28, Tryd.ntmps28
  go_wp2_with (first | refine wpList_alloc_to rfl 55 rfl (some 4) rfl _ Tryd.zero55 (w.heap.size + 2) HS2.out W0 HW0.out ?_ | refine wpList_load_g rfl 55 _ rfl w.heap.size 0 rfl (hdL hs he hc) _ HR0.out Tryd.underlying55 rfl (by rw [HHL.out]; exact Tryd.size55) ?_ | refine wpList_load_g rfl 27 _ rfl (w.heap.size + 1) 0 rfl r.cs _ HX0.out Tryd.underlying27 rfl (by rw [HRL.out]; exact Tryd.size27) ?_ | fail)
  refine HFW.out.mono ?_
  rintro _ W4 ⟨rfl, hb4⟩
  have N4 := HN0.out.later hb4
  have HO4 := hid N4.out
  have HB4 := hid N4.bel
  clear HFW hb4 HN0 HR0 HX0 N4 s1
  go_wp2_with (first | refine wpList_buildTo rfl 55 _ rfl (some 12) rfl (hdL 0 0 z32).toArray Tryd.built55 ?_ | refine wpList_store_rowTo rfl 55 _ _ rfl rfl (w.heap.size + 2) (hdL 0 0 z32).toArray rfl rfl 55 _ HO4.out (size_hd rfl) rfl (all_oneCell_toArray (hdL_one _ _ _)) ?_ | fail)
  refine bodyPost_ret (results_row_tmp rfl _ _ (w.heap.size + 2) _ rfl (load_hd (setRow_heap _ _ _ _ _ _ HO4.out) rfl)) rfl ?_
  exact ⟨rfl, below_setRow HB4.out (by omega) _⟩
def recA : Rec := ⟨0, 1, z32, 1, 0, ByteArray.empty, none, 0, []⟩
def recB : Rec := ⟨1, 1, z32, 3, 0, ⟨#[97]⟩, none, 0, []⟩
theorem Tryd.builtA : Tryd.prog.built 27 [(3, .int .i64 1), (1, .int .i64 1)] = some recA.cs.toArray := by kernel_rfl
theorem Tryd.builtB : Tryd.prog.built 27 [(0, .int .i64 1), (1, .int .i64 1), (3, .int .i64 3), (5, .string ⟨#[97]⟩)] = some recB.cs.toArray := by kernel_rfl
theorem z32_u8 (j : Nat) : (Lit.int .u8 (z32.getD j 0)).wf = true := get_u8 (x := z32) (fun z hz => by rw [List.eq_of_mem_replicate hz]; rfl) j
theorem rp_nil (w : World) : Rp w none 0 [] := ⟨Nat.le_refl _, by unfold maxLen; exact Nat.zero_le _, fun _ => rfl, fun h => absurd h (by simp), fun x hx => by cases hx⟩
theorem recA_rv (w : World) : Rv w recA := ⟨rfl, z32_u8, rfl, rfl, rfl, rfl, by unfold maxLen; exact Nat.zero_le _, rp_nil w⟩
theorem recB_rv (w : World) : Rv w recB := ⟨rfl, z32_u8, rfl, rfl, rfl, rfl, by unfold maxLen; decide, rp_nil w⟩
theorem flA : fltO 0 0 z32 (mkR 0 0 z32 recA) = 0 := by decide +kernel
theorem flB : fltO 0 0 z32 recB = 131 := by decide +kernel
def recC (a : Option Addr) (cap : Nat) : Rec := ⟨1, 1, z32, 1, 0, ByteArray.empty, a, cap, []⟩
theorem mkA (a : Option Addr) (cap : Nat) : ({ mkR 0 0 z32 recA with a := a, cap := cap } : Rec) = recC a cap := by
  have h1 : wrap64 (0 + 1) = 1 := by unfold wrap64; omega
  have h2 : (if recA.kind = 1 then recA.epoch else (0 : Int)) = 1 := if_pos rfl
  unfold mkR
  rw [h1, h2]
  rfl
theorem may_C (a : Option Addr) (cap : Nat) : mayB (recC a cap) = true := by
  show mayB (recC none 0) = true
  decide +kernel
def bytC : List Int := [82, 1, 1, 1] ++ z32 ++ [0]
theorem wr_C (a : Option Addr) (cap : Nat) : wrB (recC a cap) = bytC := by
  show wrB (recC none 0) = bytC
  decide +kernel
theorem bytC_len : bytC.length = 37 := rfl
theorem bytC_u8 : ∀ j, (Lit.int .u8 (bytC.getD j 0)).wf = true := get_u8 (by decide)
set_option maxHeartbeats 3200000 in
set_option maxRecDepth 100000 in
theorem alive_word (w : World) : Calls Tryd.prog 22 #[] w fun e w' => e = .returned (.bool true) ∧ Below w.heap.size w w' := by
  have HMK := hid (make_word 0 0 z32 recA w rfl z32_u8 rfl (recA_rv w))
  have HBY := hid (fun V a cap (h : Rv V (recC a cap)) => bytes_word (recC a cap) V h)
  have HNX := hid (fun V => next_no 0 0 z32 recB V rfl (recB_rv V) (by rw [flB]; decide))
  go_enter Tryd.func22, Tryd.ntmps22
  go_wp2_with (first | refine wpList_buildTo rfl 55 _ rfl (some 8) rfl (hdL 0 0 z32).toArray Tryd.built55 ?_ | refine wpList_buildTo rfl 27 _ rfl (some 9) rfl recA.cs.toArray Tryd.builtA ?_ | fail)
  refine HMK.out.mono ?_
  rintro _ W1 ⟨v1, e1, rfl, hb1, he1, ho1⟩
  rw [flA] at he1
  subst he1
  rcases ho1 with ⟨q, _⟩ | ⟨_, a1, cap1, rfl, hr1⟩
  · exact absurd rfl q
  rw [mkA]
  have BB := bel_alc W1 (.cells (recC a1 cap1).cs.toArray 27)
  have BX := Bx.mk' W1 (recC a1 cap1) rfl
  have HBX := hid BX
  have HXR := hid BX.range
  have HV1 : Hid (Rv (W1.alloc (.cells (recC a1 cap1).cs.toArray 27)) (recC a1 cap1)) := ⟨rfl, z32_u8, rfl, rfl, rfl, rfl, by unfold maxLen; exact Nat.zero_le _, hr1.later BB⟩
  have HB1 := hid (Bn hb1 BB)
  have HCL : Hid ((recC a1 cap1).cs.length = 38) := Rec.cs_len rfl
  have HBY1 := hid (HBY.out _ a1 cap1 HV1.out)
  clear hr1 hb1 BB BX HMK HBY
  go_wp2_with (first | refine wpList_alloc_at rfl 27 rfl (some 1) rfl _ Tryd.zero27 W1.heap.size rfl ?_ | refine wpList_store_new rfl 27 _ _ rfl rfl W1 recZ.cs.toArray (recC a1 cap1).cs.toArray rfl rfl rfl (size_recs rfl) (by rw [Rec.cs_size rfl, Rec.cs_size rfl]) (all_oneCell_toArray (Rec.cs_one _)) ?_ | refine wpList_load_g rfl 27 _ rfl W1.heap.size 0 rfl (recC a1 cap1).cs _ HXR.out Tryd.underlying27 rfl (by rw [HCL.out]; exact Tryd.size27) ?_ | fail)
  refine HBY1.out.mono ?_
  rintro _ W2 ⟨v2, rfl, hb2, hp2⟩
  rw [may_C, wr_C] at hp2
  rw [may_C]
  rcases hp2 with ⟨q, _⟩ | ⟨_, ho2⟩
  · cases q
  obtain ⟨a2, c2, rfl, hr2⟩ := Ri.own ho2 bytC_u8
  have HX2 := hid (HBX.out.later hb2)
  have HR2 := hid hr2
  have HB2 := hid (Bn HB1.out hb2)
  clear hb2 ho2 hr2 HBY1 HBX HXR HV1 HB1
  rw [bytC_len]
  go_wp2_with (first | refine wpList_buildTo rfl 55 _ rfl (some 19) rfl (hdL 0 0 z32).toArray Tryd.built55 ?_ | refine wpList_buildTo rfl 27 _ rfl (some 20) rfl recB.cs.toArray Tryd.builtB ?_ | fail)
  refine (HNX.out W2).mono ?_
  rintro _ W3 ⟨rfl, hb3⟩
  rw [flB]
  have BB := bel_alc W3 (.cells (hdL 0 0 z32).toArray 55)
  have hb4 := Bn hb3 BB
  have HX4 := HX2.out.later hb4
  have c0 := HX4.c0
  rw [show (recC a1 cap1).seq = 1 from rfl] at c0
  have R4 := HR2.out.later hb4
  obtain ⟨b, off, rfl, _, hc⟩ := R4.cells (by decide)
  have d0 := hc 0 (by decide)
  have d3 := hc 3 (by decide)
  rw [show bytC.getD 0 0 = 82 from rfl, Nat.add_zero] at d0
  rw [show bytC.getD 3 0 = 1 from rfl] at d3
  have hroom := R4.room
  have hmost := R4.most
  rw [bytC_len] at hroom
  unfold maxLen at hmost
  have HB4 := hid (Bn HB2.out hb4)
  clear hb3 HNX HX2 HR2 HB2 HX4 R4 hc BB hb4
  go_wp2_with (first | refine wpList_alloc_at rfl 55 rfl (some 5) rfl _ Tryd.zero55 W3.heap.size rfl ?_ | refine wpList_store_new rfl 55 _ _ rfl rfl W3 (hdL 0 0 z32).toArray (hdL 0 0 z32).toArray rfl rfl rfl (size_hd rfl) rfl (all_oneCell_toArray (hdL_one _ _ _)) ?_ | fail)
  go_ret
  exact ⟨rfl, HB4.out⟩
end Go.Proofs.YtpbaacplgohniaaDoor
