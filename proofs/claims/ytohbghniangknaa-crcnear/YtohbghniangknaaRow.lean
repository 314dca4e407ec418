/-
  A row of bytes as an argument of type []byte: what it reads as, in which worlds, and the statements' 'cut'.
-/
import Derived.Test.YtohbghniangknaaOuts
import Derived.Laws.BytesArg
namespace Go.Proofs.Ytohbghniangknaa
open Go.RowKit Crc

/-- A slice value v reads, in the world w, as the bytes zs. -/
structure Rd (w : World) (v : Value) (a : Option Addr) (cap : Nat) (zs : List Nat) : Prop where
  val : v = .slice a zs.length cap
  room : zs.length ≤ cap
  most : cap ≤ maxLen
  cells : 0 < zs.length → ∃ b off, a = some ⟨b, off, none⟩ ∧ b < w.heap.size ∧ ∀ j, j < zs.length → w.cell? ⟨b, off + j, none⟩ = some (.int .u8 ((zs.getD j 0 : Nat) : Int))
  hi : ∀ j, zs.getD j 0 < 256

theorem Rd.later {w w' : World} {v : Value} {a : Option Addr} {cap : Nat} {zs : List Nat} (h : Rd w v a cap zs) (hb : Below w.heap.size w w') : Rd w' v a cap zs := by
  refine ⟨h.val, h.room, h.most, fun h0 => ?_, h.hi⟩
  obtain ⟨b, off, ha, hbw, hc⟩ := h.cells h0
  exact ⟨b, off, ha, Nat.lt_of_lt_of_le hbw hb.size, fun j hj => (hb.cell (p := ⟨b, off + j, none⟩) hbw).trans (hc j hj)⟩

theorem getD_take (zs : List Nat) (n j : Nat) (hj : j < n) : (zs.take n).getD j 0 = zs.getD j 0 := by
  simp [List.getD, List.getElem?_take_of_lt hj]
theorem getD_take_out (zs : List Nat) (n j : Nat) (hj : ¬ j < n) : (zs.take n).getD j 0 = 0 := by
  have h : (zs.take n).length ≤ j := by simp; omega
  simp [List.getD, List.getElem?_eq_none h]

theorem Rd.take {w : World} {a : Option Addr} {cap : Nat} {zs : List Nat} (h : Rd w (.slice a zs.length cap) a cap zs) (n : Nat) : Rd w (.slice a (zs.take n).length cap) a cap (zs.take n) := by
  have hroom := h.room
  have hle : (zs.take n).length ≤ zs.length := by simp; omega
  have hln : (zs.take n).length ≤ n := List.length_take_le _ _
  refine ⟨rfl, by omega, h.most, fun h0 => ?_, fun j => ?_⟩
  · obtain ⟨b, off, ha, hbw, hc⟩ := h.cells (by omega)
    refine ⟨b, off, ha, hbw, fun j hj => ?_⟩
    rw [getD_take zs n j (by omega)]
    exact hc j (by omega)
  · by_cases hj : j < n
    · rw [getD_take zs n j hj]; exact h.hi j
    · rw [getD_take_out zs n j hj]; omega

theorem Bn {w a b : World} (h : Below w.heap.size w a) (h2 : Below a.heap.size a b) : Below w.heap.size w b := h.trans (h2.mono h.size)
theorem bel_drewN {B : Nat} {a w : World} (h : Below B a w) (n : Nat) : Below B a (w.drewN n) := h.trans ⟨rfl, rfl, rfl, Nat.le_refl _, fun _ _ => rfl⟩

theorem Try.laidOut : laidOutB Try.prog = true := by kernel_rfl
theorem Try.cells5 : Try.prog.cellsOf 5 = 1 := by kernel_rfl

theorem wf_u8 {x : Int} (h : (Lit.int .u8 x).wf = true) : 0 ≤ x ∧ x ≤ 255 := by
  have h1 : IntKind.u8.min = 0 := rfl
  have h2 : IntKind.u8.max = 255 := rfl
  simp only [Lit.wf, Bool.and_eq_true, decide_eq_true_eq] at h
  omega
theorem wf_u16 {x : Int} (h : (Lit.int .u16 x).wf = true) : 0 ≤ x ∧ x ≤ 65535 := by
  have h1 : IntKind.u16.min = 0 := rfl
  have h2 : IntKind.u16.max = 65535 := rfl
  simp only [Lit.wf, Bool.and_eq_true, decide_eq_true_eq] at h
  omega
theorem wf_u32 {x : Int} (h : (Lit.int .u32 x).wf = true) : 0 ≤ x ∧ x < 4294967296 := by
  have h1 : IntKind.u32.min = 0 := rfl
  have h2 : IntKind.u32.max = 4294967295 := rfl
  simp only [Lit.wf, Bool.and_eq_true, decide_eq_true_eq] at h
  omega
theorem wf_i64 {x : Int} (h : (Lit.int .i64 x).wf = true) : -9223372036854775808 ≤ x ∧ x ≤ 9223372036854775807 := by
  have h1 : IntKind.i64.min = -9223372036854775808 := rfl
  have h2 : IntKind.i64.max = 9223372036854775807 := rfl
  simp only [Lit.wf, Bool.and_eq_true, decide_eq_true_eq] at h
  omega

theorem getD_nat (zs : List Int) (j : Nat) : (zs.map Int.toNat).getD j 0 = (zs.getD j 0).toNat := by
  simp only [List.getD, List.getElem?_map]
  cases zs[j]? <;> rfl

open Go.ChangeShapes Go.WideShapes Go.ChangeAt in
/-- An argument of type []byte, as it is handed in. -/
theorem open_rd {H : Type} {enc : TypeId × Value → H} {W : World} {base : Nat} {v : Value} {d : DataW H} {p : List MemPlace} (hv : Value.okWide Try.prog W .any base 23 v)
    (h : DataW.Trod enc Try.prog W 0 (fun _ => true) true 23 v d p) (hlt : ∀ x ∈ p, x.block < W.heap.size) : ∃ a cap zs, v = .slice a (zs : List Nat).length cap ∧ Rd W (.slice a zs.length cap) a cap zs := by
  obtain ⟨a0, len, cap, rfl⟩ := okWide_slice Try.underlying23 hv
  obtain ⟨fuel, hf⟩ := h
  rcases open_ints Try.underlying23 Try.underlying5 Try.cells5 hf with ⟨hcs, hx⟩ | ⟨a, len', cap', zs, hcs, _, hl, hm, hz, hx, hcell, hwz⟩
  · simp [Value.cells] at hcs
    obtain ⟨rfl, rfl, rfl⟩ := hcs
    exact ⟨none, 0, [], rfl, rfl, Nat.le_refl _, by unfold maxLen; omega, fun h => absurd h (by simp), fun j => by simp⟩
  · simp [Value.cells] at hcs
    obtain ⟨rfl, rfl, rfl⟩ := hcs
    simp only [Prod.mk.injEq] at hx
    obtain ⟨_, rfl⟩ := hx
    simp only [if_true] at hz
    have hlen : ((zs.take len).map Int.toNat).length = len := by simp; omega
    have hby : ∀ j, 0 ≤ (zs.take len).getD j 0 ∧ (zs.take len).getD j 0 ≤ 255 := by
      intro j
      by_cases hj : j < (zs.take len).length
      · have hm : (zs.take len).getD j 0 ∈ zs := by
          simp only [List.getD, List.getElem?_eq_getElem hj, Option.getD_some]
          exact List.mem_of_mem_take (List.getElem_mem hj)
        exact wf_u8 (hwz _ hm)
      · simp [List.getD, List.getElem?_eq_none (show (zs.take len).length ≤ j from by omega)]
    refine ⟨some a, cap, (zs.take len).map Int.toNat, by rw [hlen], rfl, by omega, hm, fun h0 => ?_, fun j => ?_⟩
    · rw [hlen] at h0 ⊢
      obtain ⟨b, off, spot⟩ := a
      have hspot : spot = none := by simpa [Addr.add] using World.cell?_spot (hcell 0 (by omega))
      subst hspot
      have hbW : b < W.heap.size := hlt (.cell b off) (MemPlace.mem_row.2 ⟨0, by omega, by simp⟩)
      refine ⟨b, off, rfl, hbW, fun j hj => ?_⟩
      rw [getD_nat, Int.toNat_of_nonneg (hby j).1, ← add_plain]
      have e : (zs.take len).getD j 0 = zs.getD j 0 := by simp [List.getD, List.getElem?_take_of_lt hj]
      rw [e]
      exact hcell j (by omega)
    · rw [getD_nat]
      have := hby j
      omega

theorem cut_any (a : Option Addr) (cap : Nat) (zs : List Nat) (w : World) (hr : Rd w (.slice a zs.length cap) a cap zs) :
    Calls Try.prog 9 #[.slice a zs.length cap] w fun e w' => e = .returned (.slice a (zs.take 8192).length cap) ∧ w' = w := by
  have hcap := hr.room
  have hmax := hr.most
  unfold maxLen at hmax
  have hcells := hr.cells
  clear hr
  by_cases h : 8192 < zs.length
  · have hl : (zs.take 8192).length = 8192 := by simp; omega
    obtain ⟨b, off, rfl, hbw, hc⟩ := hcells (by omega)
    clear hcells hc hbw
    rw [hl]
    generalize zs.length = len at *
    clear hl
    go_enter Try.func9, Try.ntmps9
    go_wp2
    go_ret
    exact ⟨rfl, rfl⟩
  · have hl : (zs.take 8192).length = zs.length := by simp; omega
    rw [hl]
    generalize zs.length = len at *
    clear hcells hl
    go_enter Try.func9, Try.ntmps9
    go_wp2
    go_ret
    exact ⟨rfl, rfl⟩
end Go.Proofs.Ytohbghniangknaa
