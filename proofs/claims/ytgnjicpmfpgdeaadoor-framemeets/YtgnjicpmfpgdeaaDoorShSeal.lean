/-
  The contract of mac.Seal.
-/
import Derived.Test.YtgnjicpmfpgdeaaDoorShConcatB
import Derived.Test.YtgnjicpmfpgdeaaDoorShMacSumW
import Derived.Test.YtgnjicpmfpgdeaaDoorShMacSumW
namespace Go.Proofs.YtgnjicpmfpgdeaaDoor.Sh
open Go.RowKit Sha

theorem hmac_lt (key z : List Nat) : ∀ j, (hmac key z).getD j 0 < 256 := fun j => digest_lt _ j
theorem macOne (a : Option Addr) (cap : Nat) (key : List Nat) (ad : Addr) (z : List Nat) (w : World) (hl : Laid w) (hr : Rd w (.slice a key.length cap) a cap key) (hp : Ps w (some ad) 1 [z]) (hk : key.length ≤ 100000) (hz : z.length ≤ 100000) :
    Calls Tryd.prog 36 #[.slice a key.length cap, .slice (some ad) 1 1] w fun e w' => e = .returned (.agg (arr .u8 (hmac key z))) ∧ Below w.heap.size w w' := by
  have h := macSum_word a cap key ad 1 [z] w hl hr (by omega) hp (by simp) (by simp) (by simp; omega)
  rw [show [z].flatten = z from by simp] at h
  exact h

set_option maxHeartbeats 1600000 in
set_option maxRecDepth 100000 in
theorem seal_word (a : Option Addr) (cap : Nat) (key : List Nat) (b : Option Addr) (capb : Nat) (z : List Nat) (w : World) (hl : Laid w) (hr : Rd w (.slice a key.length cap) a cap key) (hrb : Rd w (.slice b z.length capb) b capb z) (hk : key.length ≤ 100000) (hz : z.length ≤ 100000) :
    Calls Tryd.prog 25 #[.slice a key.length cap, .slice b z.length capb] w fun e w' => ∃ v, e = .returned v ∧ w'.ownsRow w.heap.size 5 1 v (z ++ hmac key z).length (V (z ++ hmac key z)) ∧ Below w.heap.size w w' := by
  have b1 := bel_alloc w (.cells #[.slice b z.length capb] 22)
  have HS1 := hid (macOne a cap key ⟨w.heap.size, 0, none⟩ z _ (hl.later b1) (hr.later b1) (Ps.one hrb w.heap.size rfl) hk hz)
  have HRB := hid hrb
  have hDl := hmac_length key z
  have HDT := hid (hmac_lt key z)
  have HB1 := hid b1
  clear hr hrb hl b1
  generalize hmac key z = D at *
  go_enter Tryd.func25, Tryd.ntmps25
  go_wp2_with fail
  go_at_call 36
  refine HS1.out.mono ?_
  rintro _ w2 ⟨rfl, hb2⟩
  have hB2 := Bn HB1.out hb2
  obtain ⟨q3, f3, z3⟩ := put_new w2 D 39 w2.heap.size rfl
  have hn2 := heap_new w2 (.cells (arr .u8 z32) 39)
  have hsd : (arr .u8 D).size = 32 := by rw [arr_size, hDl]
  have hB3 := Bn hB2 q3
  have hrd3 := Rd.block 32 hDl f3 (by decide) HDT.out
  have hrb3 := HRB.out.later hB3
  have b4 := bel_alloc ((w2.alloc (.cells (arr .u8 z32) 39)).setRow w2.heap.size (arr .u8 D)) (.cells #[.slice b z.length capb, .slice (some ⟨w2.heap.size, 0, none⟩) 32 32] 22)
  have c4 := World.cell?_alloc_mark ((w2.alloc (.cells (arr .u8 z32) 39)).setRow w2.heap.size (arr .u8 D)) #[.slice b z.length capb, .slice (some ⟨w2.heap.size, 0, none⟩) 32 32] 22 (0, 0)
  rw [z3] at c4
  have s4 : (((w2.alloc (.cells (arr .u8 z32) 39)).setRow w2.heap.size (arr .u8 D)).alloc (.cells #[.slice b z.length capb, .slice (some ⟨w2.heap.size, 0, none⟩) 32 32] 22)).heap.size = w2.heap.size + 1 + 1 := by simp
  have HC := hid (concat_two (w2.heap.size + 1) b (some ⟨w2.heap.size, 0, none⟩) capb 32 z D _ (by omega) (c4 0) (by rw [hDl]; exact c4 1) (hrb3.later b4) (by rw [hDl]; exact hrd3.later b4) (by omega))
  have HB4 := hid (Bn hB3 b4)
  clear q3 f3 hB3 hrd3 hrb3 b4 c4 hb2
  go_wp2_with (first
    | (refine wpList_alloc_at rfl 39 rfl (some 5) rfl (arr .u8 z32) Tryd.zero39 w2.heap.size rfl ?_)
    | (refine wpList_store_rowTo rfl 39 _ _ rfl rfl w2.heap.size (arr .u8 D) rfl rfl 39 _ hn2 (by rw [hsd]; exact Tryd.size39') (by rw [hsd]; rfl) (arr_one _ _) ?_))
  go_at_call 37
  refine HC.out.mono ?_
  rintro _ w5 ⟨v5, rfl, hown5, hb5⟩
  have hzz := HB4.out.size
  have HE := hid (Bn HB4.out hb5)
  have hown : w5.ownsRow w.heap.size 5 1 v5 (z ++ D).length (V (z ++ D)) := by
    refine ⟨hown5.1, ?_⟩
    rcases hown5.2 with h | ⟨g, cp, cur, h1, h2, h3⟩
    · exact Or.inl h
    · exact Or.inr ⟨g, cp, cur, h1, Nat.le_trans hzz h2, h3⟩
  clear hown5 hb5 HC
  go_wp2
  go_ret
  exact ⟨_, rfl, hown, HE.out⟩
end Go.Proofs.YtgnjicpmfpgdeaaDoor.Sh
