/-
  The contract of slices.Concat at two rows of rows.
-/
import Derived.Test.YtgnjicpmfpgdeaaDoorShGrow
namespace Go.Proofs.YtgnjicpmfpgdeaaDoor.Sh
open Go.RowKit Sha

/-- The slices that a list of rows holds, and where they lie. -/
theorem Ps.vals {w : World} {ad : Addr} {cap : Nat} {l : List (List Nat)} (h : Ps w (some ad) cap l) : ∃ vals, Vals w vals l ∧ (∀ (j : Nat) (u : Value), vals[j]? = some u → w.cell? (ad.add j) = some u) ∧ ∀ u ∈ vals, u.oneCell' = true := by
  rcases Nat.eq_zero_or_pos l.length with h0 | h0
  · have := List.length_eq_zero_iff.1 h0
    subst this
    exact ⟨[], ⟨rfl, fun j hj => by simp at hj⟩, fun j u hu => by simp at hu, fun u hu => by simp at hu⟩
  · obtain ⟨b, off, hb, _, hc⟩ := h.cells h0
    injection hb with hb
    subst hb
    have key : ∀ j, j < l.length → ((List.range l.length).map fun j => (w.cell? ⟨b, off + j, none⟩).getD undef)[j]? = some ((w.cell? ⟨b, off + j, none⟩).getD undef) := by
      intro j hj
      simp [hj]
    refine ⟨(List.range l.length).map fun j => (w.cell? ⟨b, off + j, none⟩).getD undef, ⟨by simp, fun j hj => ?_⟩, fun j u hu => ?_, fun u hu => ?_⟩
    · obtain ⟨v, a', cap', h1, h2⟩ := hc j hj
      refine ⟨a', cap', ?_⟩
      rw [List.getD, key j hj, h1]
      exact h2
    · have hj : j < l.length := by have := (List.getElem?_eq_some_iff.1 hu).1; simpa using this
      rw [key j hj] at hu
      injection hu with hu
      obtain ⟨v, a', cap', h1, h2⟩ := hc j hj
      rw [Go.WideShapes.add_plain, h1, ← hu, h1]
      rfl
    · rw [List.mem_map] at hu
      obtain ⟨j, hj, rfl⟩ := hu
      obtain ⟨v, a', cap', h1, h2⟩ := hc j (List.mem_range.1 hj)
      rw [h1, Option.getD_some, h2.val]
      rfl

theorem Vals.later {w w' : World} {vals : List Value} {m : List (List Nat)} (h : Vals w vals m) (hb : Below w.heap.size w w') : Vals w' vals m :=
  ⟨h.len, fun j hj => by obtain ⟨a, c, hr⟩ := h.each j hj; exact ⟨a, c, hr.later hb⟩⟩
theorem Vals.app {w : World} {vals vals' : List Value} {m m' : List (List Nat)} (h : Vals w vals m) (h' : Vals w vals' m') : Vals w (vals ++ vals') (m ++ m') := by
  have hl := h.len
  have hl' := h'.len
  refine ⟨by simp [hl, hl'], fun j hj => ?_⟩
  by_cases hjm : j < m.length
  · obtain ⟨a, c, hr⟩ := h.each j hjm
    refine ⟨a, c, ?_⟩
    rw [show (vals ++ vals').getD j undef = vals.getD j undef from by simp [List.getD, List.getElem?_append_left (show j < vals.length by omega)], show (m ++ m').getD j [] = m.getD j [] from by simp [List.getD, List.getElem?_append_left hjm]]
    exact hr
  · obtain ⟨a, c, hr⟩ := h'.each (j - m.length) (by simp at hj; omega)
    refine ⟨a, c, ?_⟩
    rw [show (vals ++ vals').getD j undef = vals'.getD (j - m.length) undef from by simp [List.getD, List.getElem?_append_right (show vals.length ≤ j by omega), hl], show (m ++ m').getD j [] = m'.getD (j - m.length) [] from by simp [List.getD, List.getElem?_append_right (show m.length ≤ j by omega)]]
    exact hr
theorem own_rows_later {w w' : World} {B n : Nat} {v : Value} {xs : List Value} (h : w.ownsRow B 22 1 v n xs) (hb : Below w.heap.size w w') : w'.ownsRow B 22 1 v n xs := by
  refine ⟨h.1, ?_⟩
  rcases h.2 with h1 | ⟨g, cap, cur, hv, hg, hh, hr⟩
  · exact Or.inl h1
  · have hlt : g < w.heap.size := (Array.getElem?_eq_some_iff.1 hh).1
    exact Or.inr ⟨g, cap, cur, hv, hg, (hb.block g hlt).trans hh, hr⟩

set_option maxHeartbeats 3200000 in
set_option maxRecDepth 100000 in
theorem concat_rows (g n1 c1 n2 c2 : Nat) (x1 x2 : Addr) (v1 v2 : List Value) (w : World) (hg : g < w.heap.size)
    (e0 : w.cell? ⟨g, 0, none⟩ = some (.slice (some x1) n1 c1)) (e1 : w.cell? ⟨g, 1, none⟩ = some (.slice (some x2) n2 c2)) (l1 : v1.length = n1) (l2 : v2.length = n2) (hs : n1 + n2 ≤ 1000000)
    (k1 : ∀ (j : Nat) (u : Value), v1[j]? = some u → w.cell? (x1.add j) = some u) (k2 : ∀ (j : Nat) (u : Value), v2[j]? = some u → w.cell? (x2.add j) = some u)
    (o1 : ∀ u ∈ v1, u.oneCell' = true) (o2 : ∀ u ∈ v2, u.oneCell' = true) (y1 : x1.block < w.heap.size) (y2 : x2.block < w.heap.size) :
    Calls Tryd.prog 58 #[.slice (some ⟨g, 0, none⟩) 2 2] w fun e w' => ∃ v, e = .returned v ∧ w'.ownsRow w.heap.size 22 1 v (n1 + n2) (v1 ++ v2) ∧ Below w.heap.size w w' := by
  obtain ⟨i0, hi, hz0, hz1, hz2⟩ := info_parts Tryd.info22
  have HG := hid (fun W : World => grow_rows (n1 + n2) W hs)
  have HK1 := hid k1
  have HK2 := hid k2
  have HO1 := hid o1
  have HO2 := hid o2
  have HL1 := hid l1
  have HL2 := hid l2
  clear k1 k2 o1 o2 l1 l2
  go_enter Tryd.func58, Tryd.ntmps58
  go_wp2_with fail
  go_loopw [3, 11] (fun s i wr => wr = w ∧ ((i = .int .i64 0 ∧ s = .int .i64 0) ∨ (i = .int .i64 1 ∧ s = .int .i64 (n1 : Int)) ∨ (i = .int .i64 2 ∧ s = .int .i64 ((n1 : Int) + (n2 : Int))))) (fun _ i _ => 2 - (intOf i).toNat)
  case atStart => exact ⟨rfl, Or.inl ⟨rfl, rfl⟩⟩
  case round =>
    obtain ⟨hw, hrel⟩ := hrel
    obtain rfl := hw.symm
    clear hw
    rcases hrel with ⟨rfl, rfl⟩ | ⟨rfl, rfl⟩ | ⟨rfl, rfl⟩
    · have hp : ¬ ((n1 : Int) < 0) := by omega
      go_wp2
      exact ⟨⟨by trivial, Or.inr (Or.inl ⟨by go_num, by go_num⟩)⟩, by decide⟩
    · have hp : ¬ ((n1 : Int) + (n2 : Int) < 0) := by omega
      go_wp2
      exact ⟨⟨by trivial, Or.inr (Or.inr ⟨by go_num, by go_num⟩)⟩, by decide⟩
    · go_wp2_with fail
      go_at_call 75
      rw [show (n1 : Int) + (n2 : Int) = ((n1 + n2 : Nat) : Int) from by omega]
      refine (HG.out w).mono ?_
      rintro _ w1 ⟨v, rfl, hown, hb1⟩
      go_wp2_with fail
      go_loopw [6, 27] (fun v i wq => Below w.heap.size w wq ∧ ((i = .int .i64 0 ∧ wq.ownsRow w.heap.size 22 1 v 0 []) ∨ (i = .int .i64 1 ∧ wq.ownsRow w.heap.size 22 1 v n1 v1) ∨ (i = .int .i64 2 ∧ wq.ownsRow w.heap.size 22 1 v (n1 + n2) (v1 ++ v2)))) (fun _ i _ => 2 - (intOf i).toNat)
      case atStart => exact ⟨hb1, Or.inl ⟨rfl, hown⟩⟩
      case round =>
        obtain ⟨hbq, hrel⟩ := hrel
        have hzq := hbq.size
        have f0 := (hbq.cell (p := ⟨g, 0, none⟩) hg).trans e0
        have f1 := (hbq.cell (p := ⟨g, 1, none⟩) hg).trans e1
        rcases hrel with ⟨rfl, ho⟩ | ⟨rfl, ho⟩ | ⟨rfl, ho⟩
        · have hq1 : v1.length = n1 * 1 := by rw [HL1.out, Nat.mul_one]
          have hq2 : ∀ (j : Nat) (u : Value), v1[j]? = some u → wr.cell? (x1.add j) = some u := fun j u hu => (hbq.cell (p := x1.add j) (by rw [add_block]; exact y1)).trans (HK1.out j u hu)
          have hq3 : 0 + n1 ≤ maxLen := by unfold maxLen; omega
          have hq4 : (0 + n1) * 24 ≤ 140737488355328 := by omega
          go_wp2_with (at_builtin; refine wpList_append_own _ rfl _ _ 79 rfl w.heap.size 22 i0 (.slice none 0 0) 1 24 Tryd.underlying79 hi hz0 hz1 hz2 rfl (by decide) _ _ _ rfl ho x1 n1 c1 v1 rfl hq1 hq2 HO1.out hq3 hq4 hzq ?_)
          intro v' w2 hown' hgrow _
          have hb2 := hbq.grown hgrow (by omega) (fun j hj => (ho.lt j hj).1)
          clear hgrow ho
          go_wp2
          exact ⟨⟨hb2, Or.inr (Or.inl ⟨by go_num, hown'⟩)⟩, by decide⟩
        · have hq1 : v2.length = n2 * 1 := by rw [HL2.out, Nat.mul_one]
          have hq2 : ∀ (j : Nat) (u : Value), v2[j]? = some u → wr.cell? (x2.add j) = some u := fun j u hu => (hbq.cell (p := x2.add j) (by rw [add_block]; exact y2)).trans (HK2.out j u hu)
          have hq3 : n1 + n2 ≤ maxLen := by unfold maxLen; omega
          have hq4 : (n1 + n2) * 24 ≤ 140737488355328 := by omega
          go_wp2_with (at_builtin; refine wpList_append_own _ rfl _ _ 79 rfl w.heap.size 22 i0 (.slice none 0 0) 1 24 Tryd.underlying79 hi hz0 hz1 hz2 rfl (by decide) _ _ _ rfl ho x2 n2 c2 v2 rfl hq1 hq2 HO2.out hq3 hq4 hzq ?_)
          intro v' w2 hown' hgrow _
          have hb2 := hbq.grown hgrow (by omega) (fun j hj => (ho.lt j hj).1)
          clear hgrow ho
          go_wp2
          exact ⟨⟨hb2, Or.inr (Or.inr ⟨by go_num, hown'⟩)⟩, by decide⟩
        · go_wp2
          go_ret
          exact ⟨_, rfl, ho, hbq⟩

end Go.Proofs.YtgnjicpmfpgdeaaDoor.Sh
