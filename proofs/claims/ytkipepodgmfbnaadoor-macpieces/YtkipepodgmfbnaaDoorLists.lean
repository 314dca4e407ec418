/-
  An argument of type [][]byte, and the statements' 'cut'.
-/
import Derived.Test.YtkipepodgmfbnaaDoorArgs
import Derived.Test.YtkipepodgmfbnaaDoorRefSumW
import Derived.Deep.Matrix
namespace Go.Proofs.YtkipepodgmfbnaaDoor
open Go.ChangeShapes Go.WideShapes Go.ChangeAt Go.RowKit Go.Deep Sha

theorem Tryd.cells22 : Tryd.prog.cellsOf 22 = 1 := by kernel_rfl
theorem Tryd.info22 : (Tryd.prog.info? 22).map (fun i => (i.zero, i.size, i.bytes)) = some (some (.slice none 0 0), 1, 24) := by kernel_rfl

theorem Ps.later {w w' : World} {a : Option Addr} {cap : Nat} {l : List (List Nat)} (h : Ps w a cap l) (hb : Below w.heap.size w w') : Ps w' a cap l := by
  refine ⟨h.room, h.most, fun h0 => ?_⟩
  obtain ⟨b, off, ha, hbw, hc⟩ := h.cells h0
  refine ⟨b, off, ha, Nat.lt_of_lt_of_le hbw hb.size, fun j hj => ?_⟩
  obtain ⟨v, a', cap', h1, h2⟩ := hc j hj
  exact ⟨v, a', cap', (hb.cell (p := ⟨b, off + j, none⟩) hbw).trans h1, h2.later hb⟩

/-- An argument of type [][]byte, as it is handed in. -/
theorem open_ps {H : Type} {enc : TypeId × Value → H} {W : World} {base : Nat} {v : Value} {d : DataW H} {p : List MemPlace} (hv : Value.okWide Tryd.prog W .any base 29 v)
    (h : DataW.Trod enc Tryd.prog W 0 (fun _ => true) true 29 v d p) (hlt : ∀ x ∈ p, x.block < W.heap.size) : ∃ a cap l, v = .slice a (l : List (List Nat)).length cap ∧ Ps W a cap l := by
  obtain ⟨a0, len, cap, rfl⟩ := okWide_slice Tryd.underlying29 hv
  obtain ⟨fuel, hf⟩ := h
  rcases open_int_rows Tryd.underlying29 Tryd.underlying22 Tryd.underlying5 Tryd.cells22 Tryd.cells5 hf with ⟨hcs, hx⟩ | ⟨a, len', cap', A, L, C, Z, hcs, _, hl, hm, hx, hrow⟩
  · simp [Value.cells] at hcs
    obtain ⟨rfl, rfl, rfl⟩ := hcs
    exact ⟨none, 0, [], rfl, Nat.le_refl _, by unfold maxLen; omega, fun h => absurd h (by simp)⟩
  · simp [Value.cells] at hcs
    obtain ⟨rfl, rfl, rfl⟩ := hcs
    have hp : p = MemPlace.row a cap ++ (List.range cap).flatMap fun r => intRowPlaces (A r) (Z r) := congrArg Prod.snd hx
    have hlen : ((List.range len).map fun r => ((Z r).take (L r)).map Int.toNat).length = len := by simp
    refine ⟨some a, cap, (List.range len).map fun r => ((Z r).take (L r)).map Int.toNat, by rw [hlen], by rw [hlen]; exact hl, hm, fun h0 => ?_⟩
    rw [hlen] at h0 ⊢
    obtain ⟨b, off, spot⟩ := a
    have hspot : spot = none := by simpa [Addr.add] using World.cell?_spot (hrow 0 (by omega)).1
    subst hspot
    have hbW : b < W.heap.size := hlt (.cell b off) (by rw [hp, List.mem_append]; exact Or.inl (MemPlace.mem_row.2 ⟨0, by omega, by simp⟩))
    refine ⟨b, off, rfl, hbW, fun j hj => ?_⟩
    obtain ⟨h1, h2, h3, h4, h5, h6, h7⟩ := hrow j (by omega)
    rw [add_plain] at h1
    have hgd : ((List.range len).map fun r => ((Z r).take (L r)).map Int.toNat).getD j [] = ((Z j).take (L j)).map Int.toNat := by
      simp [List.getD, hj]
    rw [hgd]
    have hln : (((Z j).take (L j)).map Int.toNat).length = L j := by simp; omega
    have hby : ∀ i, 0 ≤ ((Z j).take (L j)).getD i 0 ∧ ((Z j).take (L j)).getD i 0 ≤ 255 := by
      intro i
      by_cases hi : i < ((Z j).take (L j)).length
      · have hm : ((Z j).take (L j)).getD i 0 ∈ Z j := by
          simp only [List.getD, List.getElem?_eq_getElem hi, Option.getD_some]
          exact List.mem_of_mem_take (List.getElem_mem hi)
        exact wf_u8 (h5 _ hm)
      · simp [List.getD, List.getElem?_eq_none (show ((Z j).take (L j)).length ≤ i from by omega)]
    refine ⟨_, A j, C j, h1, by rw [hln], by rw [hln]; exact h2, h3, fun h0 => ?_, fun i => by rw [getD_nat]; have := hby i; omega, h6⟩
    rw [hln] at h0 ⊢
    cases hA : A j with
    | none => have := h6 hA; omega
    | some a' =>
      obtain ⟨_, hcell⟩ := h7 a' hA
      obtain ⟨b', off', spot'⟩ := a'
      have hspot' : spot' = none := by simpa [Addr.add] using World.cell?_spot (hcell 0 (by omega))
      subst hspot'
      have hbW' : b' < W.heap.size := hlt (.cell b' off') (by
        rw [hp, List.mem_append]
        refine Or.inr (List.mem_flatMap.2 ⟨j, List.mem_range.2 (by omega), ?_⟩)
        rw [hA]
        exact MemPlace.mem_row.2 ⟨0, by omega, by simp⟩)
      refine ⟨b', off', rfl, hbW', fun i hi => ?_⟩
      rw [getD_nat, Int.toNat_of_nonneg (hby i).1, ← add_plain]
      have e : ((Z j).take (L j)).getD i 0 = (Z j).getD i 0 := by simp [List.getD, List.getElem?_take_of_lt hi]
      rw [e]
      exact hcell i (by omega)

theorem Rd.take {w : World} {a : Option Addr} {cap : Nat} {zs : List Nat} (h : Rd w (.slice a zs.length cap) a cap zs) (n : Nat) : Rd w (.slice a (zs.take n).length cap) a cap (zs.take n) := by
  have hroom := h.room
  have hle : (zs.take n).length ≤ zs.length := by simp; omega
  refine ⟨rfl, by omega, h.most, fun h0 => ?_, ?_, h.nil⟩
  · obtain ⟨b, off, ha, hbw, hc⟩ := h.cells (by omega)
    refine ⟨b, off, ha, hbw, fun j hj => ?_⟩
    have e : (zs.take n).getD j 0 = zs.getD j 0 := by
      have : j < n := by simp at hj; omega
      simp [List.getD, List.getElem?_take_of_lt this]
    rw [e]
    exact hc j (by omega)
  · rw [all_lt]
    intro z hz
    exact (all_lt zs).1 h.hi z (List.mem_of_mem_take hz)

theorem row_new (w : World) (v : Value) : ∀ (j : Nat) (u : Value), [v][j]? = some u → (w.alloc (.cells #[v] 22)).cell? (Addr.add ⟨w.heap.size, 0, none⟩ j) = some u := by
  intro j u h
  match j, h with
  | 0, h => simp at h; subst h; simp [Addr.add]
theorem row_cell (a : Option Addr) (n c : Nat) : ∀ u ∈ [Value.slice a n c], u.oneCell' = true := by
  intro u hu
  simp at hu
  subst hu
  rfl

/-- Rows of one's own that read so. -/
structure Vals (w : World) (vals : List Value) (m : List (List Nat)) : Prop where
  len : vals.length = m.length
  each : ∀ j, j < m.length → ∃ a cap, Rd w (vals.getD j undef) a cap (m.getD j [])

theorem Vals.snoc {w : World} {vals : List Value} {m : List (List Nat)} (h : Vals w vals m) {v : Value} {a : Option Addr} {cap : Nat} {y : List Nat} (hr : Rd w v a cap y) : Vals w (vals ++ [v]) (m ++ [y]) := by
  have hl := h.len
  refine ⟨by simp [hl], fun j hj => ?_⟩
  by_cases hjm : j < m.length
  · obtain ⟨a', cap', h'⟩ := h.each j hjm
    refine ⟨a', cap', ?_⟩
    rw [show (vals ++ [v]).getD j undef = vals.getD j undef from by simp [List.getD, List.getElem?_append_left (show j < vals.length by omega)], show (m ++ [y]).getD j [] = m.getD j [] from by simp [List.getD, List.getElem?_append_left hjm]]
    exact h'
  · have : j = m.length := by simp at hj; omega
    subst this
    refine ⟨a, cap, ?_⟩
    rw [show (vals ++ [v]).getD m.length undef = v from by simp [List.getD, ← hl], show (m ++ [y]).getD m.length [] = y from by simp [List.getD]]
    exact hr

theorem ps_own {w W : World} {vals : List Value} {m : List (List Nat)} {B : Nat} {v : Value} (h : Vals w vals m) (hown : W.ownsRow B 22 1 v m.length vals) (hb : Below w.heap.size w W) :
    ∃ a c, v = .slice a m.length c ∧ Ps W a c m := by
  have h' := hown
  obtain ⟨_, hcase⟩ := hown
  rcases hcase with ⟨rfl, h1⟩ | ⟨g, c, cur, rfl, hg, hh, hn, hcap, _, _⟩
  · exact ⟨none, 0, by rw [h1], by omega, by unfold maxLen; omega, fun h0 => by omega⟩
  · have hv := h.len
    refine ⟨_, c, rfl, hn, hcap, fun _ => ⟨g, 0, rfl, (Array.getElem?_eq_some_iff.1 hh).1, fun j hj => ?_⟩⟩
    obtain ⟨a', cap', hr⟩ := h.each j hj
    refine ⟨_, a', cap', ?_, hr.later hb⟩
    rw [Nat.zero_add, h'.cellAt j (by omega), List.getElem?_eq_getElem (show j < vals.length by omega)]
    simp [List.getD, List.getElem?_eq_getElem (show j < vals.length by omega)]

end Go.Proofs.YtkipepodgmfbnaaDoor
