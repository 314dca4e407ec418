/-
  An argument of type [][64]byte.
-/
import Derived.Test.YtkehhlbbnlnbcaaDoorMethods
import Derived.Deep.Slices
namespace Go.Proofs.YtkehhlbbnlnbcaaDoor
open Go.ChangeShapes Go.WideShapes Go.ChangeAt Go.RowKit Go.Deep Sha

/-- A slice of blocks of 64 bytes that reads so. -/
structure Bs (w : World) (a : Option Addr) (cap : Nat) (bl : List (List Nat)) : Prop where
  room : bl.length ≤ cap
  most : cap ≤ maxLen
  cells : 0 < bl.length → ∃ b off, a = some ⟨b, off, none⟩ ∧ b < w.heap.size ∧ ∀ j, j < bl.length → ∀ i, i < 64 → w.cell? ⟨b, off + (64 * j + i), none⟩ = some (.int .u8 (((bl.getD j []).getD i 0 : Nat) : Int))
  len : ∀ j, j < bl.length → (bl.getD j []).length = 64
  lo : ∀ j, j < bl.length → ∀ i, (bl.getD j []).getD i 0 < 256

theorem Bs.later {w w' : World} {a : Option Addr} {cap : Nat} {bl : List (List Nat)} (h : Bs w a cap bl) (hb : Below w.heap.size w w') : Bs w' a cap bl := by
  refine ⟨h.room, h.most, fun h0 => ?_, h.len, h.lo⟩
  obtain ⟨b, off, ha, hbw, hc⟩ := h.cells h0
  exact ⟨b, off, ha, Nat.lt_of_lt_of_le hbw hb.size, fun j hj i hi => (hb.cell (p := ⟨b, off + (64 * j + i), none⟩) hbw).trans (hc j hj i hi)⟩
theorem Bs.take {w : World} {a : Option Addr} {cap : Nat} {bl : List (List Nat)} (h : Bs w a cap bl) (n : Nat) : Bs w a cap (bl.take n) := by
  have hr := h.room
  have hle : (bl.take n).length ≤ bl.length := by simp; omega
  have e : ∀ j, j < (bl.take n).length → (bl.take n).getD j [] = bl.getD j [] := fun j hj => by
    have : j < n := by simp at hj; omega
    simp [List.getD, List.getElem?_take_of_lt this]
  refine ⟨by omega, h.most, fun h0 => ?_, fun j hj => by rw [e j hj]; exact h.len j (by omega), fun j hj => by rw [e j hj]; exact h.lo j (by omega)⟩
  obtain ⟨b, off, ha, hbw, hc⟩ := h.cells (by omega)
  exact ⟨b, off, ha, hbw, fun j hj i hi => by rw [e j hj]; exact hc j (by omega) i hi⟩


/-- An argument of type [][64]byte, as it is handed in. -/
theorem open_bs {H : Type} {enc : TypeId × Value → H} {W : World} {base : Nat} {v : Value} {d : DataW H} {p : List MemPlace} (hv : Value.okWide Tryd.prog W .any base 56 v)
    (h : DataW.Trod enc Tryd.prog W 0 (fun _ => true) true 56 v d p) (hlt : ∀ x ∈ p, x.block < W.heap.size) : ∃ a cap bl, v = .slice a (bl : List (List Nat)).length cap ∧ Bs W a cap bl := by
  obtain ⟨a0, len, cap, rfl⟩ := okWide_slice Tryd.underlying56 hv
  obtain ⟨fuel, hf⟩ := h
  rcases open_slice Tryd.underlying56 hf with ⟨hcs, hx⟩ | ⟨a, len', cap', m, n, D, Pl, hcs, _, hl, hm, hmm, hx, hel⟩
  · simp [Value.cells] at hcs
    obtain ⟨rfl, rfl, rfl⟩ := hcs
    exact ⟨none, 0, [], rfl, Nat.le_refl _, by unfold maxLen; omega, fun h => absurd h (by simp), fun j hj => by simp at hj, fun j hj => by simp at hj⟩
  · simp [Value.cells] at hcs
    obtain ⟨rfl, rfl, rfl⟩ := hcs
    rw [if_pos rfl] at hmm
    subst hmm
    rw [Tryd.cells32] at hel
    have hp : p = MemPlace.row a (m * Tryd.prog.cellsOf 32) ++ (List.range m).flatMap Pl := congrArg Prod.snd hx
    have key : ∀ j, j < len → ∃ y : List Nat, y.length = 64 ∧ (∀ i, y.getD i 0 < 256) ∧ ∀ i, i < 64 → W.cell? ((a.add (j * 64)).add i) = some (.int .u8 ((y.getD i 0 : Nat) : Int)) := by
      intro j hj
      obtain ⟨cs', h1, h2⟩ := hel j (by omega)
      obtain ⟨_, hcl, hcc⟩ := World.cells?_some h1
      obtain ⟨xs, m', _, _, _, hxl, hxe⟩ := DataW.trod_array Tryd.underlying32 h2
      rw [Tryd.cells5] at hxe
      have hk : ∀ i, i < 64 → ∃ z : Int, cs'[i]? = some (.int .u8 z) ∧ (Lit.int .u8 z).wf = true := by
        intro i hi
        have h3 := hxe i hi
        rw [Nat.mul_one, List.getElem?_eq_getElem (by omega)] at h3
        obtain ⟨z, e1, _, e3⟩ := DataW.trod_int Tryd.underlying5 h3
        refine ⟨z, ?_, e3⟩
        have := congrArg (·[0]?) e1
        simpa [List.getElem?_take, List.getElem?_drop] using this
      refine ⟨cs'.map fun v => (intOf v).toNat, by simp [hcl], fun i => ?_, fun i hi => ?_⟩
      · by_cases hi : i < 64
        · obtain ⟨z, e1, e2⟩ := hk i hi
          have := wf_u8 e2
          have e : (cs'.map fun v => (intOf v).toNat).getD i 0 = z.toNat := by simp [List.getD, e1, intOf]
          rw [e]; omega
        · rw [List.getD, List.getElem?_eq_none (by simp [hcl]; omega)]; decide
      · obtain ⟨z, e1, e2⟩ := hk i hi
        have := wf_u8 e2
        have e : (cs'.map fun v => (intOf v).toNat).getD i 0 = z.toNat := by simp [List.getD, e1, intOf]
        rw [hcc i hi, e1, e, Int.toNat_of_nonneg this.1]
    obtain ⟨Y, hY⟩ := choose_lt key
    have hlen : ((List.range len).map Y).length = len := by simp
    have hgd : ∀ j, j < len → ((List.range len).map Y).getD j [] = Y j := fun j hj => by simp [List.getD, hj]
    refine ⟨some a, m, (List.range len).map Y, by rw [hlen], by rw [hlen]; exact hl, hm, fun h0 => ?_, fun j hj => ?_, fun j hj => ?_⟩
    · rw [hlen] at h0
      obtain ⟨b, off, spot⟩ := a
      have hc0 := (hY 0 h0).2.2 0 (by omega)
      have hspot : spot = none := by
        have := World.cell?_spot hc0
        simpa [Addr.add] using this
      subst hspot
      have hbW : b < W.heap.size := hlt (.cell b off) (by
        rw [hp, List.mem_append]
        refine Or.inl (MemPlace.mem_row.2 ⟨0, ?_, by simp⟩)
        rw [Tryd.cells32]; omega)
      refine ⟨b, off, rfl, hbW, fun j hj i hi => ?_⟩
      rw [hlen] at hj
      rw [hgd j hj]
      have := (hY j hj).2.2 i hi
      rw [add_plain, add_plain, Nat.add_assoc, Nat.mul_comm] at this
      exact this
    · rw [hlen] at hj
      rw [hgd j hj]; exact (hY j hj).1
    · rw [hlen] at hj
      rw [hgd j hj]; exact (hY j hj).2.1
end Go.Proofs.YtkehhlbbnlnbcaaDoor
