/-
  A frame's bytes: frame's long, written.
-/
import Derived.Test.YtgnjicpmfpgdeaaDoorFrJc
import Derived.Test.YtgnjicpmfpgdeaaDoorShJa
import Derived.Test.YtgnjicpmfpgdeaaDoorShCatN
import Derived.Test.YtgnjicpmfpgdeaaDoorShOpenR
namespace Go.Proofs.YtgnjicpmfpgdeaaDoor
open Go.ChangeShapes Go.WideShapes Go.ChangeAt Go.RowKit Go.Deep Go.Lib

/-- Eight bytes, the highest first. -/
def B8 (x : Int) : List Int := Sh.Wd.bytesF 8 1 x
theorem B8_len (x : Int) : (B8 x).length = 8 := Sh.Wd.bytesF_length _ _ _
theorem B8_u8 (x : Int) : ∀ z ∈ B8 x, 0 ≤ z ∧ z ≤ 255 := fun z hz => by
  obtain ⟨j, hj, rfl⟩ := List.getElem_of_mem hz
  have hj' : j < (Sh.Wd.bytesF 8 1 x).length := hj
  have e : (B8 x)[j] = (Sh.Wd.bytesF 8 1 x).getD j 0 := by simp [B8, List.getD, List.getElem?_eq_getElem hj']
  have r := Sh.Wd.bytesF_range 8 1 x j
  rw [← e] at r
  exact r
theorem wf_all {l : List Int} (h : ∀ z ∈ l, 0 ≤ z ∧ z ≤ 255) (j : Nat) : (Lit.int .u8 (l.getD j 0)).wf = true := by
  by_cases hj : j < l.length
  · have := h _ (List.getElem_mem hj)
    simpa [List.getD, List.getElem?_eq_getElem hj] using wf_mk_u8 this.1 this.2
  · simp [List.getD, List.getElem?_eq_none (show l.length ≤ j by omega)]
    exact wf_zero _
theorem Ri.rdN {w : World} {a : Option Addr} {cap : Nat} {zs : List Int} (h : Ri w .u8 a cap zs) (hn : a = none → cap = 0) : Sh.Rd w (.slice a zs.length cap) a cap (nats zs) := by
  refine ⟨by rw [nats_len], by rw [nats_len]; exact h.room, h.most, fun h0 => ?_, fun j => ?_, hn⟩
  · rw [nats_len] at h0 ⊢
    obtain ⟨b', off', ha, hb, hc⟩ := h.cells h0
    refine ⟨b', off', ha, hb, fun j hj => ?_⟩
    have := wf_u8 (h.fits j)
    rw [hc j hj, nats_get, Int.toNat_of_nonneg this.1]
  · have := wf_u8 (h.fits j)
    rw [nats_get]; omega
theorem Ri.rdP {w : World} {a : Option Addr} {cap : Nat} {zs : List Int} (h : Ri w .u8 a cap zs) (h0 : 0 < zs.length) : Sh.Rd w (.slice a zs.length cap) a cap (nats zs) :=
  h.rdN fun e => by obtain ⟨b, off, ha, _⟩ := h.cells h0; rw [e] at ha; cases ha
theorem vint_pos (x : Int) : 0 < (vint x).length := by unfold vint vintL; split <;> simp
theorem vrd_word (x : Int) (w : World) (h0 : 0 ≤ x) (h1 : x < 18446744073709551616) :
    Calls Tryd.prog 38 #[.int .u64 x] w fun e w' => ∃ a c, e = .returned (.slice a (vint x).length c) ∧ Sh.Rd w' (.slice a (vint x).length c) a c (nats (vint x)) ∧ Below w.heap.size w w' :=
  (varint_ri x w h0 h1).mono fun _ _ ⟨a, c, h1, h2, h3⟩ => ⟨a, c, h1, h2.rdP (vint_pos x), h3⟩
set_option maxHeartbeats 1600000 in
set_option maxRecDepth 100000 in
theorem long_word (x : Int) (w : World) (h0 : 0 ≤ x) (h1 : x < 18446744073709551616) :
    Calls Tryd.prog 39 #[.int .u64 x] w fun e w' => ∃ a c, e = .returned (.slice a (B8 x).length c) ∧ Sh.Rd w' (.slice a (B8 x).length c) a c (nats (B8 x)) ∧ Below w.heap.size w w' := by
  have HB := hid (Sh.Wd.bytes_word x 64 1 8 w h0 h1 (by rfl) (by rfl) (by omega))
  have HW := hid (fun j => wf_all (B8_u8 x) j)
  have HL := hid (B8_len x)
  change Hid (Calls Tryd.prog 55 #[.int .u64 x, .int .i64 64, .int .i64 1] w fun e w' => ∃ v, e = .returned (.tuple #[v, .int .i64 0]) ∧ w'.ownsRow w.heap.size 5 1 v (B8 x).length ((B8 x).map (Value.int .u8)) ∧ Below w.heap.size w w') at HB
  clear h0 h1
  generalize B8 x = b at *
  go_enter Tryd.func39, Tryd.ntmps39
  go_wp2_with fail
  refine HB.out.mono ?_
  rintro _ w2 ⟨v, rfl, ho, hb⟩
  obtain ⟨a, c, rfl, hr⟩ := Ri.own ho HW.out
  have HR := hid (hr.rdP (by rw [HL.out]; decide))
  have HB2 := hid hb
  clear ho hb hr HB
  go_wp2
  go_ret
  exact ⟨a, c, rfl, HR.out, HB2.out⟩
/-- A frame's bytes. -/
def wrF (f : Fr) : List Int := [70, f.fr] ++ (vint f.ep ++ (B8 f.me ++ (B8 f.yo ++ (vint f.n ++ (vint f.all ++ (B8 f.more ++ (vint (f.body.length : Int) ++ f.body)))))))
theorem Ps.at {w : World} {g : Nat} {vs : List Value} {L : List (List Nat)} (hb : w.heap[g]? = some (.cells vs.toArray 22)) (hl : vs.length = L.length) (hm : L.length ≤ 100) (h : ∀ j, j < L.length → ∃ a c, Sh.Rd w (vs.getD j undef) a c (L.getD j [])) : Sh.Ps w (some ⟨g, 0, none⟩) L.length L := by
  refine ⟨Nat.le_refl _, by unfold maxLen; omega, fun _ => ⟨g, 0, rfl, blk_lt hb, fun j hj => ?_⟩⟩
  obtain ⟨a, c, hr⟩ := h j hj
  refine ⟨vs.getD j undef, a, c, ?_, hr⟩
  rw [Nat.zero_add, Joins.cell_of_block hb j, List.getElem?_toArray]
  have : j < vs.length := by omega
  simp [List.getD, List.getElem?_eq_getElem this]
theorem nats_flat (f : Fr) : [nats [70, f.fr], nats (vint f.ep), nats (B8 f.me), nats (B8 f.yo), nats (vint f.n), nats (vint f.all), nats (B8 f.more), nats (vint (f.body.length : Int)), nats f.body].flatten = nats (wrF f) := by
  simp [wrF, nats]
theorem two_rd (V : World) (x : Int) (hx : 0 ≤ x ∧ x ≤ 1) : Sh.Rd (V.alloc (.cells #[.int .u8 70, .int .u8 x] 5)) (.slice (some ⟨V.heap.size, 0, none⟩) 2 2) (some ⟨V.heap.size, 0, none⟩) 2 (nats [70, x]) := by
  refine ⟨rfl, Nat.le_refl _, by unfold maxLen; omega, fun _ => ⟨V.heap.size, 0, rfl, by simp, fun j hj => ?_⟩, fun j => ?_, fun h => by cases h⟩
  · have hj2 : j < 2 := hj
    have hc := Joins.cell_of_block (heap_alc V (.cells #[.int .u8 70, .int .u8 x] 5)) j
    rw [Nat.zero_add, hc]
    rcases (show j = 0 ∨ j = 1 by omega) with rfl | rfl
    · rfl
    · show some (Value.int .u8 x) = some (.int .u8 ((x.toNat : Nat) : Int))
      rw [Int.toNat_of_nonneg hx.1]
  · match j with
    | 0 => show (70 : Nat) < 256; decide
    | 1 => show x.toNat < 256; omega
    | j + 2 => show ([] : List Nat).getD j 0 < 256; simp
theorem wrF_u8 {f : Fr} (h1 : 0 ≤ f.fr ∧ f.fr ≤ 1) (h2 : 0 ≤ f.ep ∧ f.ep ≤ 1073741824) (h3 : 0 ≤ f.n ∧ f.n ≤ 1073741824) (h4 : 0 ≤ f.all ∧ f.all ≤ 1073741824) (h5 : f.body.length ≤ 524288) (hb : ∀ z ∈ f.body, 0 ≤ z ∧ z ≤ 255) : ∀ z ∈ wrF f, 0 ≤ z ∧ z ≤ 255 := by
  have hv : ∀ x : Int, 0 ≤ x → x ≤ 1073741824 → ∀ z ∈ vint x, 0 ≤ z ∧ z ≤ 255 := fun x a b z hz => vintL_u8 9 x a (by omega) z hz
  intro z hz
  unfold wrF at hz
  simp only [List.mem_append, List.mem_cons, List.not_mem_nil, or_false] at hz
  rcases hz with (rfl | rfl) | hz | hz | hz | hz | hz | hz | hz | hz
  · omega
  · omega
  · exact hv _ h2.1 h2.2 z hz
  · exact B8_u8 _ z hz
  · exact B8_u8 _ z hz
  · exact hv _ h3.1 h3.2 z hz
  · exact hv _ h4.1 h4.2 z hz
  · exact B8_u8 _ z hz
  · exact hv _ (by omega) (by omega) z hz
  · exact hb z hz
end Go.Proofs.YtgnjicpmfpgdeaaDoor
