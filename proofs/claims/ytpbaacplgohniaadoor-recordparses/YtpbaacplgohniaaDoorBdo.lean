/-
  Declarations that later texts of another seat want, out of several.
-/
import Derived.Test.YtpbaacplgohniaaDoorBsh
import Derived.Test.YtpbaacplgohniaaDoorShRefSumW
namespace Go.Proofs.YtpbaacplgohniaaDoor
open Go.RowKit

theorem Tryd.zero22p : ∀ w, (zeroValue 22).run Tryd.prog w = .ok (.agg (u8A z32)) w := fun w => by kernel_rfl
theorem Tryd.size22p : (Tryd.prog.info? 22).map (·.size) = some 32 := by kernel_rfl
set_option maxHeartbeats 3200000 in
set_option maxRecDepth 100000 in
theorem of_doc (b off cap : Nat) (zs : List Int) (w : World) (hr : Ri w .u8 (some ⟨b, off, none⟩) cap zs) (hn : zs.length ≤ 100000) :
    Calls Tryd.prog 36 #[.slice (some ⟨b, off, none⟩) zs.length cap] w fun e w' => e = .returned (.agg (u8A (digL zs))) ∧ Below w.heap.size w w' := by
  have b0 := bel_alc w (.cells (u8A z32) 22)
  have e0 := heap_alc w (.cells (u8A z32) 22)
  have s0 : (w.alloc (.cells (u8A z32) 22)).heap.size = w.heap.size + 1 := by simp
  have b1 := bel_alc (w.alloc (.cells (u8A z32) 22)) (.cells #[.slice (some ⟨b, off, none⟩) zs.length cap] 29)
  have e1 := heap_alc (w.alloc (.cells (u8A z32) 22)) (.cells #[.slice (some ⟨b, off, none⟩) zs.length cap] 29)
  rw [s0] at e1
  have hps : Sh.Ps ((w.alloc (.cells (u8A z32) 22)).alloc (.cells #[.slice (some ⟨b, off, none⟩) zs.length cap] 29)) (some ⟨w.heap.size + 1, 0, none⟩) 1 [nats zs] := by
    refine ⟨Nat.le_refl _, by unfold maxLen; omega, fun _ => ⟨w.heap.size + 1, 0, rfl, by simp, fun j hj => ?_⟩⟩
    have : j = 0 := by simp at hj; omega
    subst this
    exact ⟨.slice (some ⟨b, off, none⟩) zs.length cap, some ⟨b, off, none⟩, cap, by rw [Nat.zero_add]; exact Joins.cell_of_block e1 0, (hr.rdS.later b0).later b1⟩
  have HSM := hid (Sh.sum_ref (some ⟨w.heap.size + 1, 0, none⟩) 1 [nats zs] _ hps (by simp [nats_len]; omega))
  rw [show [nats zs].flatten = nats zs from by simp, arr_dig] at HSM
  change Hid (Calls Tryd.prog 58 #[.slice (some ⟨w.heap.size + 1, 0, none⟩) 1 1] _ fun e w' => e = .returned (.agg (u8A (digL zs))) ∧ _) at HSM
  have HB1 := hid (Bn b0 b1)
  have HE0 := hid ((b1.block _ (by rw [s0]; omega)).trans e0)
  have HG : Hid (w.heap.size < ((w.alloc (.cells (u8A z32) 22)).alloc (.cells #[.slice (some ⟨b, off, none⟩) zs.length cap] 29)).heap.size) := by show _ < _; simp; omega
  have hdl := digL_len zs
  have HZ : Hid ((u8A z32).size = 32) := rfl
  generalize digL zs = d at *
  generalize zs.length = L at *
  have HDL := hid hdl
  clear b0 e0 b1 e1 hps hr hdl
  go_enter Tryd.func36, Tryd.ntmps36
  go_wp2_with (refine wpList_alloc_at rfl 22 rfl (some 2) rfl (u8A z32) Tryd.zero22p w.heap.size rfl ?_)
  refine HSM.out.mono ?_
  rintro _ W2 ⟨rfl, hb2⟩
  have HE2 := hid ((hb2.block _ HG.out).trans HE0.out)
  have HB2 := hid (Bn HB1.out hb2)
  clear hb2 HSM HE0 HB1 HG
  go_wp2_with (refine wpList_store_rowTo rfl 22 _ _ rfl rfl w.heap.size (u8A d) rfl rfl 22 _ HE2.out (by rw [u8A_size, HDL.out]; exact Tryd.size22p) (by rw [HZ.out, u8A_size, HDL.out]) (u8A_one _) ?_)
  refine bodyPost_ret (results_cell_row (ty := 22) rfl _ _ _ _ _ _ _ rfl (setRow_heap _ _ _ _ _ _ HE2.out) Tryd.underlying22 rfl (by rw [u8A_size, HDL.out]; exact Tryd.size22p)) rfl ?_
  exact ⟨rfl, below_setRow HB2.out (Nat.le_refl _) _⟩
end Go.Proofs.YtpbaacplgohniaaDoor
