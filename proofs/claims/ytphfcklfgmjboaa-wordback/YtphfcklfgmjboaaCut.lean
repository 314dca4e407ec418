/-
  The contract of the statements' 'cut', and a row of bytes turned into a string, in every later world.
-/
import Derived.Test.YtphfcklfgmjboaaRead
import Derived.Laws.BytesArg
namespace Go.Proofs.Ytphfcklfgmjboaa
open Go.RowKit

theorem cut_any (a : Option Addr) (cap : Nat) (zs : List Int) (w : World) (hr : Rd w (.slice a zs.length cap) a cap zs) :
    Calls Try.prog 12 #[.slice a zs.length cap] w fun e w' => e = .returned (.slice a (zs.take 400).length cap) ∧ w' = w := by
  have hcap := hr.room
  have hmax := hr.most
  unfold maxLen at hmax
  have hcells := hr.cells
  clear hr
  by_cases h : 400 < zs.length
  · have hl : (zs.take 400).length = 400 := by simp; omega
    obtain ⟨b, off, rfl, hbw, hc⟩ := hcells (by omega)
    clear hcells hc hbw
    rw [hl]
    generalize zs.length = len at *
    clear hl
    go_enter Try.func12, Try.ntmps12
    go_wp2
    go_ret
    exact ⟨rfl, rfl⟩
  · have hl : (zs.take 400).length = zs.length := by simp; omega
    rw [hl]
    generalize zs.length = len at *
    clear hcells hl
    go_enter Try.func12, Try.ntmps12
    go_wp2
    go_ret
    exact ⟨rfl, rfl⟩

theorem getD_take (zs : List Int) (n j : Nat) (hj : j < n) : (zs.take n).getD j 0 = zs.getD j 0 := by
  simp [List.getD, List.getElem?_take_of_lt hj]
theorem getD_take_out (zs : List Int) (n j : Nat) (hj : ¬ j < n) : (zs.take n).getD j 0 = 0 := by
  have h : (zs.take n).length ≤ j := by simp; omega
  simp [List.getD, List.getElem?_eq_none h]

theorem Rd.take {w : World} {a : Option Addr} {cap : Nat} {zs : List Int} (h : Rd w (.slice a zs.length cap) a cap zs) (n : Nat) : Rd w (.slice a (zs.take n).length cap) a cap (zs.take n) := by
  have hroom := h.room
  have hle : (zs.take n).length ≤ zs.length := by simp; omega
  have hln : (zs.take n).length ≤ n := List.length_take_le _ _
  refine ⟨rfl, by omega, h.most, fun h0 => ?_, fun j => ?_, fun j => ?_⟩
  · obtain ⟨b, off, ha, hbw, hc⟩ := h.cells (by omega)
    refine ⟨b, off, ha, hbw, fun j hj => ?_⟩
    rw [getD_take zs n j (by omega)]
    exact hc j (by omega)
  · by_cases hj : j < n
    · rw [getD_take zs n j hj]; exact h.lo j
    · rw [getD_take_out zs n j hj]; omega
  · by_cases hj : j < n
    · rw [getD_take zs n j hj]; exact h.hi j
    · rw [getD_take_out zs n j hj]; omega

/-- Bytes as a string, in whatever later world. -/
theorem Rd.text {w : World} {v : Value} {a : Option Addr} {cap : Nat} {zs : List Int} (h : Rd w v a cap zs) (W : World) (hb : Below w.heap.size w W) :
    (convert 30 9 v).run Try.prog W = .ok (.string (strOfNums zs)) W := by
  have h' := h.later hb
  rw [h'.val]
  by_cases h0 : 0 < zs.length
  · obtain ⟨b, off, rfl, _, hc⟩ := h'.cells h0
    exact run_convert_bytes_arg (P := Try.prog) W 30 5 Try.underlying30 Try.underlying5 b off zs.length cap zs rfl hc 9 Try.underlying9
  · have hz : zs = [] := List.length_eq_zero_iff.1 (by omega)
    subst hz
    rw [run_convert_bytes_string W 30 9 5 a _ cap Try.underlying30 Try.underlying5 Try.underlying9]
    cases a with
    | none => rfl
    | some ad =>
      rw [show ([] : List Int).length = 0 from rfl]
      rw [run_bytesToString W ad 0 cap [] (by simpa using run_loadCells_list (P := Try.prog) W ad [] (by intro j v hj; simp at hj))]
      rfl

/-- A row that the call owns reads as its bytes. -/
theorem Rd.own {w : World} {B : Nat} {v : Value} {l : List Int} (h : w.ownsRow B 5 1 v l.length (l.map (Value.int .u8))) (hne : 0 < l.length) (hr : ∀ j, 0 ≤ l.getD j 0 ∧ l.getD j 0 ≤ 255) :
    ∃ a cap, Rd w v a cap l := by
  obtain ⟨g, cap, rfl, hg, hgs, hn, hcap, hc⟩ := own_open h hne
  exact ⟨_, cap, rfl, hn, hcap, fun _ => ⟨g, 0, rfl, hgs, fun j hj => by rw [Nat.zero_add]; exact hc j hj⟩, fun j => (hr j).1, fun j => (hr j).2⟩

theorem vintL_ne (f : Nat) (x : Int) : 0 < (vintL f x).length := by
  cases f with
  | zero => simp [vintL]
  | succ f => rw [vintL]; split <;> simp

theorem vintL_bytes (f : Nat) : ∀ (x : Int), 0 ≤ x → x < 128 ^ (f + 1) → ∀ j, 0 ≤ (vintL f x).getD j 0 ∧ (vintL f x).getD j 0 ≤ 255 := by
  induction f with
  | zero =>
    intro x h0 h1 j
    match j with
    | 0 => simp [vintL]; omega
    | j + 1 => simp [vintL]
  | succ f ih =>
    intro x h0 h1 j
    rw [vintL]
    split
    · match j with
      | 0 => simp; omega
      | j + 1 => simp
    · match j with
      | 0 => simp; omega
      | j + 1 =>
        have := ih (x / 128) (by omega) (by rw [Int.ediv_lt_iff_lt_mul (by decide), ← Int.pow_succ]; exact h1) j
        simpa using this

theorem vint_bytes (x : Int) (h0 : 0 ≤ x) (h1 : x < 18446744073709551616) (j : Nat) : 0 ≤ (vint x).getD j 0 ∧ (vint x).getD j 0 ≤ 255 :=
  vintL_bytes 9 x h0 (by omega) j

theorem Bn {w a b : World} (h : Below w.heap.size w a) (h2 : Below a.heap.size a b) : Below w.heap.size w b := h.trans (h2.mono h.size)

theorem Try.laidOut : laidOutB Try.prog = true := by kernel_rfl
theorem Try.cells5 : Try.prog.cellsOf 5 = 1 := by kernel_rfl

theorem wf_u8 {x : Int} (h : (Lit.int .u8 x).wf = true) : 0 ≤ x ∧ x ≤ 255 := by
  have h1 : IntKind.u8.min = 0 := rfl
  have h2 : IntKind.u8.max = 255 := rfl
  simp only [Lit.wf, Bool.and_eq_true, decide_eq_true_eq] at h
  omega

open Go.ChangeShapes Go.WideShapes Go.ChangeAt in
/-- An argument of type []byte, as it is handed in. -/
theorem open_rd {H : Type} {enc : TypeId × Value → H} {W : World} {base : Nat} {v : Value} {d : DataW H} {p : List MemPlace} (hv : Value.okWide Try.prog W .any base 30 v)
    (h : DataW.Trod enc Try.prog W 0 (fun _ => true) true 30 v d p) (hlt : ∀ x ∈ p, x.block < W.heap.size) : ∃ a cap zs, v = .slice a (zs : List Int).length cap ∧ Rd W (.slice a zs.length cap) a cap zs := by
  obtain ⟨a0, len, cap, rfl⟩ := okWide_slice Try.underlying30 hv
  obtain ⟨fuel, hf⟩ := h
  rcases open_ints Try.underlying30 Try.underlying5 Try.cells5 hf with ⟨hcs, hx⟩ | ⟨a, len', cap', zs, hcs, _, hl, hm, hz, hx, hcell, hwz⟩
  · simp [Value.cells] at hcs
    obtain ⟨rfl, rfl, rfl⟩ := hcs
    exact ⟨none, 0, [], rfl, rfl, Nat.le_refl _, by unfold maxLen; omega, fun h => absurd h (by simp), fun j => by simp, fun j => by simp⟩
  · simp [Value.cells] at hcs
    obtain ⟨rfl, rfl, rfl⟩ := hcs
    simp only [Prod.mk.injEq] at hx
    obtain ⟨_, rfl⟩ := hx
    simp only [if_true] at hz
    have hlen : (zs.take len).length = len := by simp; omega
    have hby : ∀ j, 0 ≤ (zs.take len).getD j 0 ∧ (zs.take len).getD j 0 ≤ 255 := by
      intro j
      by_cases hj : j < (zs.take len).length
      · have hm : (zs.take len).getD j 0 ∈ zs := by
          simp only [List.getD, List.getElem?_eq_getElem hj, Option.getD_some]
          exact List.mem_of_mem_take (List.getElem_mem hj)
        exact wf_u8 (hwz _ hm)
      · simp [List.getD, List.getElem?_eq_none (show (zs.take len).length ≤ j from by omega)]
    refine ⟨some a, cap, zs.take len, by rw [hlen], rfl, by omega, hm, fun h0 => ?_, fun j => (hby j).1, fun j => (hby j).2⟩
    rw [hlen] at h0 ⊢
    obtain ⟨b, off, spot⟩ := a
    have hspot : spot = none := by simpa [Addr.add] using World.cell?_spot (hcell 0 (by omega))
    subst hspot
    have hbW : b < W.heap.size := hlt (.cell b off) (MemPlace.mem_row.2 ⟨0, by omega, by simp⟩)
    refine ⟨b, off, rfl, hbW, fun j hj => ?_⟩
    rw [getD_take zs len j hj, ← add_plain]
    exact hcell j (by omega)

end Go.Proofs.Ytphfcklfgmjboaa
