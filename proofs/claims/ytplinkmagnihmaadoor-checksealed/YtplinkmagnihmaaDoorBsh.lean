/-
  Declarations that later texts of another seat want, out of several.
-/
import Derived.Test.YtplinkmagnihmaaDoorBas
import Derived.Test.YtplinkmagnihmaaDoorShDigest
namespace Go.Proofs.YtplinkmagnihmaaDoor
open Go.RowKit

/-- The digest of a row. -/
def digL (bs : List Int) : List Int := (Sh.Sha.digest (nats bs)).map fun z : Nat => (z : Int)
theorem arr_dig (l : List Nat) : Sh.arr .u8 l = u8A (l.map fun z : Nat => (z : Int)) := by simp [Sh.arr, u8A, List.map_map, Function.comp_def]
theorem digL_len (bs : List Int) : (digL bs).length = 32 := by simp only [digL, List.length_map]; rfl
theorem four_u8 (x : Nat) : ∀ z ∈ Sh.Sha.four x, z < 256 := by
  intro z hz
  simp only [Sh.Sha.four, List.mem_cons, List.not_mem_nil, or_false] at hz
  rcases hz with rfl | rfl | rfl | rfl <;> omega
theorem bytes_u8 (s : Sh.Sha.St) : ∀ z ∈ Sh.Sha.bytes s, z < 256 := by
  intro z hz
  simp only [Sh.Sha.bytes, List.mem_append] at hz
  rcases hz with ((((((h | h) | h) | h) | h) | h) | h) | h <;> exact four_u8 _ z h
theorem dig_u8 (l : List Nat) (j : Nat) : (Sh.Sha.digest l).getD j 0 < 256 := (Sh.all_lt _).2 (bytes_u8 _) j
theorem digL_u8 (bs : List Int) (j : Nat) : 0 ≤ (digL bs).getD j 0 ∧ (digL bs).getD j 0 ≤ 255 := by
  unfold digL
  have := dig_u8 (nats bs) j
  rw [show ((Sh.Sha.digest (nats bs)).map fun z : Nat => (z : Int)).getD j 0 = (((Sh.Sha.digest (nats bs)).getD j 0 : Nat) : Int) from by
    simp only [List.getD, List.getElem?_map]
    cases (Sh.Sha.digest (nats bs))[j]? <;> rfl]
  omega
theorem Ri.rdS {w : World} {b off cap : Nat} {zs : List Int} (h : Ri w .u8 (some ⟨b, off, none⟩) cap zs) : Sh.Rd w (.slice (some ⟨b, off, none⟩) zs.length cap) (some ⟨b, off, none⟩) cap (nats zs) := by
  refine ⟨by rw [nats_len], by rw [nats_len]; exact h.room, h.most, fun h0 => ?_, fun j => ?_, fun h => by cases h⟩
  · rw [nats_len] at h0 ⊢
    obtain ⟨b', off', ha, hb, hc⟩ := h.cells h0
    refine ⟨b', off', ha, hb, fun j hj => ?_⟩
    have := wf_u8 (h.fits j)
    rw [hc j hj, nats_get, Int.toNat_of_nonneg this.1]
  · have := wf_u8 (h.fits j)
    rw [nats_get]; omega
set_option maxHeartbeats 3200000 in
set_option maxRecDepth 100000 in
theorem psum_word (b off cap : Nat) (zs : List Int) (w : World) (hl : Sh.Laid w) (hr : Ri w .u8 (some ⟨b, off, none⟩) cap zs) (hn : zs.length ≤ 100000) (g : Nat) (hg : g = w.heap.size) :
    Calls Tryd.prog 61 #[.slice (some ⟨g, 0, none⟩) 1 1] (w.alloc (.cells #[.slice (some ⟨b, off, none⟩) zs.length cap] 22)) fun e w' => e = .returned (.agg (u8A (digL zs))) ∧ Below w.heap.size w w' := by
  have hb := bel_alc w (.cells #[.slice (some ⟨b, off, none⟩) zs.length cap] 22)
  have e0 := heap_alc w (.cells #[.slice (some ⟨b, off, none⟩) zs.length cap] 22)
  have hps : Sh.Ps (w.alloc (.cells #[.slice (some ⟨b, off, none⟩) zs.length cap] 22)) (some ⟨g, 0, none⟩) 1 [nats zs] := by
    refine ⟨Nat.le_refl _, by unfold maxLen; omega, fun _ => ⟨g, 0, rfl, by rw [hg]; simp, fun j hj => ?_⟩⟩
    have : j = 0 := by simp at hj; omega
    subst this
    exact ⟨.slice (some ⟨b, off, none⟩) zs.length cap, some ⟨b, off, none⟩, cap, by rw [hg, Nat.zero_add]; exact Joins.cell_of_block e0 0, hr.rdS.later hb⟩
  have h := Sh.sum_word (some ⟨g, 0, none⟩) 1 [nats zs] (w.alloc (.cells #[.slice (some ⟨b, off, none⟩) zs.length cap] 22)) (hl.later hb) hps (by simp [nats_len]; omega)
  rw [show [nats zs].flatten = nats zs from by simp] at h
  refine h.mono (fun e w' h => ⟨?_, Bn hb h.2⟩)
  rw [h.1, arr_dig]
  rfl
end Go.Proofs.YtplinkmagnihmaaDoor
