/-
  A row of integers as an argument of type []int, []byte or []uint16: what it reads as, in which worlds.
-/
import Derived.Test.YtgnjicpmfpgdeaaDoorRows
import Derived.Laws.BytesArg
import Derived.Laws.BitsAllLaws
import Derived.WalkKit
import Derived.ProofKit
import Derived.OpenShut
import Derived.Deep.QuietTactic
import Derived.BigQuiet
import Derived.RegionTactic
namespace Go.Proofs.YtgnjicpmfpgdeaaDoor
open Go.RowKit

theorem hid {p : Prop} (h : p) : Go.RowKit.Hid p := h

/-- The slice at a reads, in the world w, as the numbers zs. -/
structure Ri (w : World) (kd : IntKind) (a : Option Addr) (cap : Nat) (zs : List Int) : Prop where
  room : zs.length ≤ cap
  most : cap ≤ maxLen
  cells : 0 < zs.length → ∃ b off, a = some ⟨b, off, none⟩ ∧ b < w.heap.size ∧ ∀ j, j < zs.length → w.cell? ⟨b, off + j, none⟩ = some (.int kd (zs.getD j 0))
  fits : ∀ j, (Lit.int kd (zs.getD j 0)).wf = true

theorem Ri.later {w w' : World} {kd : IntKind} {a : Option Addr} {cap : Nat} {zs : List Int} (h : Ri w kd a cap zs) (hb : Below w.heap.size w w') : Ri w' kd a cap zs := by
  refine ⟨h.room, h.most, fun h0 => ?_, h.fits⟩
  obtain ⟨b, off, ha, hbw, hc⟩ := h.cells h0
  exact ⟨b, off, ha, Nat.lt_of_lt_of_le hbw hb.size, fun j hj => (hb.cell (p := ⟨b, off + j, none⟩) hbw).trans (hc j hj)⟩

theorem getD_take (zs : List Int) (n j : Nat) (hj : j < n) : (zs.take n).getD j 0 = zs.getD j 0 := by
  simp [List.getD, List.getElem?_take_of_lt hj]
theorem getD_take_out (zs : List Int) (n j : Nat) (hj : ¬ j < n) : (zs.take n).getD j 0 = 0 := by
  have h : (zs.take n).length ≤ j := by simp; omega
  simp [List.getD, List.getElem?_eq_none h]
theorem getD_out (zs : List Int) (j : Nat) (hj : zs.length ≤ j) : zs.getD j 0 = 0 := by
  simp [List.getD, List.getElem?_eq_none hj]

theorem wf_zero (kd : IntKind) : (Lit.int kd 0).wf = true := by cases kd <;> rfl

theorem Ri.take {w : World} {kd : IntKind} {a : Option Addr} {cap : Nat} {zs : List Int} (h : Ri w kd a cap zs) (n : Nat) : Ri w kd a cap (zs.take n) := by
  have hroom := h.room
  have hle : (zs.take n).length ≤ zs.length := by simp; omega
  have hln : (zs.take n).length ≤ n := List.length_take_le _ _
  refine ⟨by omega, h.most, fun h0 => ?_, fun j => ?_⟩
  · obtain ⟨b, off, ha, hbw, hc⟩ := h.cells (by omega)
    refine ⟨b, off, ha, hbw, fun j hj => ?_⟩
    rw [getD_take zs n j (by omega)]
    exact hc j (by omega)
  · by_cases hj : j < n
    · rw [getD_take zs n j hj]; exact h.fits j
    · rw [getD_take_out zs n j hj]; exact wf_zero kd

theorem Bn {w a b : World} (h : Below w.heap.size w a) (h2 : Below a.heap.size a b) : Below w.heap.size w b := h.trans (h2.mono h.size)
theorem bel_drewN {B : Nat} {a w : World} (h : Below B a w) (n : Nat) : Below B a (w.drewN n) := h.trans ⟨rfl, rfl, rfl, Nat.le_refl _, fun _ _ => rfl⟩

theorem Tryd.laidOut : laidOutB Tryd.prog = true := by kernel_rfl
theorem Tryd.cells3 : Tryd.prog.cellsOf 3 = 1 := by kernel_rfl
theorem Tryd.cells5 : Tryd.prog.cellsOf 5 = 1 := by kernel_rfl

theorem wf_u8 {x : Int} (h : (Lit.int .u8 x).wf = true) : 0 ≤ x ∧ x ≤ 255 := by
  have h1 : IntKind.u8.min = 0 := rfl
  have h2 : IntKind.u8.max = 255 := rfl
  simp only [Lit.wf, Bool.and_eq_true, decide_eq_true_eq] at h
  omega
theorem wf_u16 {x : Int} (h : (Lit.int .u16 x).wf = true) : 0 ≤ x ∧ x ≤ 65535 := by
  have h1 : IntKind.u16.min = 0 := rfl
  have h2 : IntKind.u16.max = 65535 := rfl
  simp only [Lit.wf, Bool.and_eq_true, decide_eq_true_eq] at h
  omega
theorem wf_i64 {x : Int} (h : (Lit.int .i64 x).wf = true) : -9223372036854775808 ≤ x ∧ x ≤ 9223372036854775807 := by
  have h1 : IntKind.i64.min = -9223372036854775808 := rfl
  have h2 : IntKind.i64.max = 9223372036854775807 := rfl
  simp only [Lit.wf, Bool.and_eq_true, decide_eq_true_eq] at h
  omega
theorem wf_mk_i64 {x : Int} (h1 : -9223372036854775808 ≤ x) (h2 : x ≤ 9223372036854775807) : (Lit.int .i64 x).wf = true := by
  have e1 : IntKind.i64.min = -9223372036854775808 := rfl
  have e2 : IntKind.i64.max = 9223372036854775807 := rfl
  simp only [Lit.wf, Bool.and_eq_true, decide_eq_true_eq]
  omega
theorem wf_mk_u8 {x : Int} (h1 : 0 ≤ x) (h2 : x ≤ 255) : (Lit.int .u8 x).wf = true := by
  have e1 : IntKind.u8.min = 0 := rfl
  have e2 : IntKind.u8.max = 255 := rfl
  simp only [Lit.wf, Bool.and_eq_true, decide_eq_true_eq]
  omega
theorem wf_mk_u16 {x : Int} (h1 : 0 ≤ x) (h2 : x ≤ 65535) : (Lit.int .u16 x).wf = true := by
  have e1 : IntKind.u16.min = 0 := rfl
  have e2 : IntKind.u16.max = 65535 := rfl
  simp only [Lit.wf, Bool.and_eq_true, decide_eq_true_eq]
  omega

set_option maxRecDepth 100000 in
open Go.ChangeShapes Go.WideShapes Go.ChangeAt in
/-- An argument that is a row of integers, as it is handed in. -/
theorem open_ri {H : Type} {enc : TypeId × Value → H} {W : World} {base : Nat} {t e : TypeId} {kd : IntKind} {v : Value} {d : DataW H} {p : List MemPlace} (ht : Tryd.prog.underlying t = some (.slice e)) (he : Tryd.prog.underlying e = some (.int kd)) (hc : Tryd.prog.cellsOf e = 1)
    (hv : Value.okWide Tryd.prog W .any base t v) (h : DataW.Trod enc Tryd.prog W 0 (fun _ => true) true t v d p) (hlt : ∀ x ∈ p, x.block < W.heap.size) :
    ∃ a cap zs, v = .slice a (zs : List Int).length cap ∧ Ri W kd a cap zs := by
  obtain ⟨a0, len, cap, rfl⟩ := okWide_slice ht hv
  obtain ⟨fuel, hf⟩ := h
  rcases open_ints ht he hc hf with ⟨hcs, hx⟩ | ⟨a, len', cap', zs, hcs, _, hl, hm, hz, hx, hcell, hwz⟩
  · simp [Value.cells] at hcs
    obtain ⟨rfl, rfl, rfl⟩ := hcs
    exact ⟨none, 0, [], rfl, Nat.le_refl _, by unfold maxLen; omega, fun h => absurd h (by simp), fun j => by simp; exact wf_zero kd⟩
  · simp [Value.cells] at hcs
    obtain ⟨rfl, rfl, rfl⟩ := hcs
    simp only [Prod.mk.injEq] at hx
    obtain ⟨_, rfl⟩ := hx
    simp only [if_true] at hz
    have hlen : (zs.take len).length = len := by simp; omega
    refine ⟨some a, cap, zs.take len, by rw [hlen], by omega, hm, fun h0 => ?_, fun j => ?_⟩
    · rw [hlen] at h0 ⊢
      obtain ⟨b, off, spot⟩ := a
      have hspot : spot = none := by simpa [Addr.add] using World.cell?_spot (hcell 0 (by omega))
      subst hspot
      have hbW : b < W.heap.size := hlt (.cell b off) (MemPlace.mem_row.2 ⟨0, by omega, by simp⟩)
      refine ⟨b, off, rfl, hbW, fun j hj => ?_⟩
      rw [← add_plain, getD_take zs len j hj]
      exact hcell j (by omega)
    · by_cases hj : j < (zs.take len).length
      · have hm : (zs.take len).getD j 0 ∈ zs := by
          simp only [List.getD, List.getElem?_eq_getElem hj, Option.getD_some]
          exact List.mem_of_mem_take (List.getElem_mem hj)
        exact hwz _ hm
      · rw [getD_out _ _ (by omega)]; exact wf_zero kd

/-- An own row of numbers reads as them. -/
theorem Ri.own {w : World} {base : Nat} {e : TypeId} {kd : IntKind} {v : Value} {zs : List Int} (h : w.ownsRow base e 1 v zs.length (zs.map (Value.int kd))) (hf : ∀ j, (Lit.int kd (zs.getD j 0)).wf = true) :
    ∃ a cap, v = .slice a zs.length cap ∧ Ri w kd a cap zs := by
  obtain ⟨hl, hn | ⟨g, cap, cur, rfl, hb, hg, hnc, hcm, hcur, htk⟩⟩ := id h
  · obtain ⟨rfl, h0⟩ := hn
    refine ⟨none, 0, by rw [h0], by omega, by unfold maxLen; omega, fun h1 => by omega, hf⟩
  · refine ⟨some ⟨g, 0, none⟩, cap, rfl, hnc, hcm, fun h0 => ⟨g, 0, rfl, ?_, fun j hj => ?_⟩, hf⟩
    · exact (Array.getElem?_eq_some_iff.1 hg).1
    · rw [Nat.zero_add, h.cellAt j (by omega), List.getElem?_map]
      simp [List.getD, List.getElem?_eq_getElem hj]

end Go.Proofs.YtgnjicpmfpgdeaaDoor
