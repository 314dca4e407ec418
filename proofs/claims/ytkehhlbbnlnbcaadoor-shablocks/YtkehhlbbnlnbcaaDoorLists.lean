/-
  An argument of type [][]byte, and the statements' 'cut'.
-/
import Derived.Test.YtkehhlbbnlnbcaaDoorArgs
import Derived.Test.YtkehhlbbnlnbcaaDoorRefSumW
import Derived.Deep.Matrix
namespace Go.Proofs.YtkehhlbbnlnbcaaDoor
open Go.ChangeShapes Go.WideShapes Go.ChangeAt Go.RowKit Go.Deep Sha

theorem Tryd.cells35 : Tryd.prog.cellsOf 35 = 1 := by kernel_rfl
theorem Tryd.info35 : (Tryd.prog.info? 35).map (fun i => (i.zero, i.size, i.bytes)) = some (some (.slice none 0 0), 1, 24) := by kernel_rfl

theorem Ps.later {w w' : World} {a : Option Addr} {cap : Nat} {l : List (List Nat)} (h : Ps w a cap l) (hb : Below w.heap.size w w') : Ps w' a cap l := by
  refine ⟨h.room, h.most, fun h0 => ?_⟩
  obtain ⟨b, off, ha, hbw, hc⟩ := h.cells h0
  refine ⟨b, off, ha, Nat.lt_of_lt_of_le hbw hb.size, fun j hj => ?_⟩
  obtain ⟨v, a', cap', h1, h2⟩ := hc j hj
  exact ⟨v, a', cap', (hb.cell (p := ⟨b, off + j, none⟩) hbw).trans h1, h2.later hb⟩

/-- An argument of type [][]byte, as it is handed in. -/
theorem open_ps {H : Type} {enc : TypeId × Value → H} {W : World} {base : Nat} {v : Value} {d : DataW H} {p : List MemPlace} (hv : Value.okWide Tryd.prog W .any base 22 v)
    (h : DataW.Trod enc Tryd.prog W 0 (fun _ => true) true 22 v d p) (hlt : ∀ x ∈ p, x.block < W.heap.size) : ∃ a cap l, v = .slice a (l : List (List Nat)).length cap ∧ Ps W a cap l := by
  obtain ⟨a0, len, cap, rfl⟩ := okWide_slice Tryd.underlying22 hv
  obtain ⟨fuel, hf⟩ := h
  rcases open_int_rows Tryd.underlying22 Tryd.underlying35 Tryd.underlying5 Tryd.cells35 Tryd.cells5 hf with ⟨hcs, hx⟩ | ⟨a, len', cap', A, L, C, Z, hcs, _, hl, hm, hx, hrow⟩
  · simp [Value.cells] at hcs
    obtain ⟨rfl, rfl, rfl⟩ := hcs
    exact ⟨none, 0, [], rfl, Nat.le_refl _, by unfold maxLen; omega, fun h => absurd h (by simp)⟩
  · simp [Value.cells] at hcs
    obtain ⟨rfl, rfl, rfl⟩ := hcs
    have hp : p = MemPlace.row a cap ++ (List.range cap).flatMap fun r => intRowPlaces (A r) (Z r) := congrArg Prod.snd hx
    have hlen : ((List.range len).map fun r => ((Z r).take (L r)).map Int.toNat).length = len := by simp
    refine ⟨some a, cap, (List.range len).map fun r => ((Z r).take (L r)).map Int.toNat, by rw [hlen], by rw [hlen]; exact hl, hm, fun h0 => ?_⟩
    rw [hlen] at h0 ⊢
    obtain ⟨b, off, spot⟩ := a
    have hspot : spot = none := by simpa [Addr.add] using World.cell?_spot (hrow 0 (by omega)).1
    subst hspot
    have hbW : b < W.heap.size := hlt (.cell b off) (by rw [hp, List.mem_append]; exact Or.inl (MemPlace.mem_row.2 ⟨0, by omega, by simp⟩))
    refine ⟨b, off, rfl, hbW, fun j hj => ?_⟩
    obtain ⟨h1, h2, h3, h4, h5, h6, h7⟩ := hrow j (by omega)
    rw [add_plain] at h1
    have hgd : ((List.range len).map fun r => ((Z r).take (L r)).map Int.toNat).getD j [] = ((Z j).take (L j)).map Int.toNat := by
      simp [List.getD, hj]
    rw [hgd]
    have hln : (((Z j).take (L j)).map Int.toNat).length = L j := by simp; omega
    have hby : ∀ i, 0 ≤ ((Z j).take (L j)).getD i 0 ∧ ((Z j).take (L j)).getD i 0 ≤ 255 := by
      intro i
      by_cases hi : i < ((Z j).take (L j)).length
      · have hm : ((Z j).take (L j)).getD i 0 ∈ Z j := by
          simp only [List.getD, List.getElem?_eq_getElem hi, Option.getD_some]
          exact List.mem_of_mem_take (List.getElem_mem hi)
        exact wf_u8 (h5 _ hm)
      · simp [List.getD, List.getElem?_eq_none (show ((Z j).take (L j)).length ≤ i from by omega)]
    refine ⟨_, A j, C j, h1, by rw [hln], by rw [hln]; exact h2, h3, fun h0 => ?_, fun i => by rw [getD_nat]; have := hby i; omega, h6⟩
    rw [hln] at h0 ⊢
    cases hA : A j with
    | none => have := h6 hA; omega
    | some a' =>
      obtain ⟨_, hcell⟩ := h7 a' hA
      obtain ⟨b', off', spot'⟩ := a'
      have hspot' : spot' = none := by simpa [Addr.add] using World.cell?_spot (hcell 0 (by omega))
      subst hspot'
      have hbW' : b' < W.heap.size := hlt (.cell b' off') (by
        rw [hp, List.mem_append]
        refine Or.inr (List.mem_flatMap.2 ⟨j, List.mem_range.2 (by omega), ?_⟩)
        rw [hA]
        exact MemPlace.mem_row.2 ⟨0, by omega, by simp⟩)
      refine ⟨b', off', rfl, hbW', fun i hi => ?_⟩
      rw [getD_nat, Int.toNat_of_nonneg (hby i).1, ← add_plain]
      have e : ((Z j).take (L j)).getD i 0 = (Z j).getD i 0 := by simp [List.getD, List.getElem?_take_of_lt hi]
      rw [e]
      exact hcell i (by omega)

theorem Rd.take {w : World} {a : Option Addr} {cap : Nat} {zs : List Nat} (h : Rd w (.slice a zs.length cap) a cap zs) (n : Nat) : Rd w (.slice a (zs.take n).length cap) a cap (zs.take n) := by
  have hroom := h.room
  have hle : (zs.take n).length ≤ zs.length := by simp; omega
  refine ⟨rfl, by omega, h.most, fun h0 => ?_, ?_, h.nil⟩
  · obtain ⟨b, off, ha, hbw, hc⟩ := h.cells (by omega)
    refine ⟨b, off, ha, hbw, fun j hj => ?_⟩
    have e : (zs.take n).getD j 0 = zs.getD j 0 := by
      have : j < n := by simp at hj; omega
      simp [List.getD, List.getElem?_take_of_lt this]
    rw [e]
    exact hc j (by omega)
  · rw [all_lt]
    intro z hz
    exact (all_lt zs).1 h.hi z (List.mem_of_mem_take hz)

/-- Rows that were cut. -/
def cutL (l : List (List Nat)) : List (List Nat) := (l.take 20).map fun y => y.take 600
theorem cutL_length (l : List (List Nat)) : (cutL l).length = min 20 l.length := by simp [cutL]
theorem cutL_get (l : List (List Nat)) (j : Nat) (h1 : j < 20) (h2 : j < l.length) : (cutL l).getD j [] = (l.getD j []).take 600 := by
  simp [cutL, List.getD, List.getElem?_take_of_lt h1, List.getElem?_eq_getElem h2]
theorem cutL_flat (l : List (List Nat)) : (cutL l).flatten.length ≤ 12000 := by
  have key : ∀ m : List (List Nat), (m.map fun y => y.take 600).flatten.length ≤ m.length * 600 := by
    intro m
    induction m with
    | nil => simp
    | cons y m ih => simp only [List.map_cons, List.flatten_cons, List.length_append, List.length_cons, List.length_take]; omega
  have h := key (l.take 20)
  have h2 : (l.take 20).length ≤ 20 := by simp; omega
  have h3 : (l.take 20).length * 600 ≤ 20 * 600 := Nat.mul_le_mul_right _ h2
  exact Nat.le_trans h h3

theorem row_new (w : World) (v : Value) : ∀ (j : Nat) (u : Value), [v][j]? = some u → (w.alloc (.cells #[v] 35)).cell? (Addr.add ⟨w.heap.size, 0, none⟩ j) = some u := by
  intro j u h
  match j, h with
  | 0, h => simp at h; subst h; simp [Addr.add]
theorem row_cell (a : Option Addr) (n c : Nat) : ∀ u ∈ [Value.slice a n c], u.oneCell' = true := by
  intro u hu
  simp at hu
  subst hu
  rfl

/-- Rows of one's own that read so. -/
structure Vals (w : World) (vals : List Value) (m : List (List Nat)) : Prop where
  len : vals.length = m.length
  each : ∀ j, j < m.length → ∃ a cap, Rd w (vals.getD j undef) a cap (m.getD j [])

theorem Vals.snoc {w : World} {vals : List Value} {m : List (List Nat)} (h : Vals w vals m) {v : Value} {a : Option Addr} {cap : Nat} {y : List Nat} (hr : Rd w v a cap y) : Vals w (vals ++ [v]) (m ++ [y]) := by
  have hl := h.len
  refine ⟨by simp [hl], fun j hj => ?_⟩
  by_cases hjm : j < m.length
  · obtain ⟨a', cap', h'⟩ := h.each j hjm
    refine ⟨a', cap', ?_⟩
    rw [show (vals ++ [v]).getD j undef = vals.getD j undef from by simp [List.getD, List.getElem?_append_left (show j < vals.length by omega)], show (m ++ [y]).getD j [] = m.getD j [] from by simp [List.getD, List.getElem?_append_left hjm]]
    exact h'
  · have : j = m.length := by simp at hj; omega
    subst this
    refine ⟨a, cap, ?_⟩
    rw [show (vals ++ [v]).getD m.length undef = v from by simp [List.getD, ← hl], show (m ++ [y]).getD m.length [] = y from by simp [List.getD]]
    exact hr

theorem ps_own {w W : World} {vals : List Value} {m : List (List Nat)} {B : Nat} {v : Value} (h : Vals w vals m) (hown : W.ownsRow B 35 1 v m.length vals) (hb : Below w.heap.size w W) :
    ∃ a c, v = .slice a m.length c ∧ Ps W a c m := by
  have h' := hown
  obtain ⟨_, hcase⟩ := hown
  rcases hcase with ⟨rfl, h1⟩ | ⟨g, c, cur, rfl, hg, hh, hn, hcap, _, _⟩
  · exact ⟨none, 0, by rw [h1], by omega, by unfold maxLen; omega, fun h0 => by omega⟩
  · have hv := h.len
    refine ⟨_, c, rfl, hn, hcap, fun _ => ⟨g, 0, rfl, (Array.getElem?_eq_some_iff.1 hh).1, fun j hj => ?_⟩⟩
    obtain ⟨a', cap', hr⟩ := h.each j hj
    refine ⟨_, a', cap', ?_, hr.later hb⟩
    rw [Nat.zero_add, h'.cellAt j (by omega), List.getElem?_eq_getElem (show j < vals.length by omega)]
    simp [List.getD, List.getElem?_eq_getElem (show j < vals.length by omega)]

theorem cutL_take (l : List (List Nat)) (k : Nat) (h1 : k < 20) (h2 : k < l.length) : (cutL l).take (k + 1) = (cutL l).take k ++ [(l.getD k []).take 600] := by
  have hk : k < (cutL l).length := by rw [cutL_length]; omega
  rw [List.take_succ_eq_append_getElem hk]
  have := cutL_get l k h1 h2
  rw [List.getD, List.getElem?_eq_getElem hk, Option.getD_some] at this
  rw [this]

set_option maxHeartbeats 1600000 in
theorem cut_any (a : Option Addr) (cap : Nat) (l : List (List Nat)) (w : World) (hr : Ps w a cap l) :
    Calls Tryd.prog 9 #[.slice a l.length cap] w fun e w' => ∃ a' c, e = .returned (.slice a' (cutL l).length c) ∧ Ps w' a' c (cutL l) ∧ Below w.heap.size w w' := by
  obtain ⟨i0, hi, hz0, hz1, hz2⟩ := info_parts Tryd.info35
  have hroom := hr.room
  have hmost := hr.most
  unfold maxLen at hmost
  have HPS := hid hr
  have HCT := hid (cutL_take l)
  have HCL := hid (cutL_length l)
  clear hr
  generalize hnl : l.length = n at *
  have HNL := hid hnl
  clear hnl
  go_enter Tryd.func9, Tryd.ntmps9
  go_wp2_with fail
  go_loopw [3, 4] (fun v i wr => ∃ (k : Nat) (vals : List Value), k ≤ n ∧ k ≤ 20 ∧ i = .int .i64 k ∧ Vals w vals ((cutL l).take k) ∧ vals.length = k ∧ wr.ownsRow w.heap.size 35 1 v k vals ∧ Below w.heap.size w wr) (fun _ i _ => 20 - (intOf i).toNat)
  case atStart => exact ⟨0, [], by omega, by omega, rfl, ⟨rfl, fun j hj => by simp at hj⟩, rfl, World.ownsRow_nil _ _ _ _, Below.refl _ _⟩
  case round =>
    obtain ⟨k, vals, hk, hk20, rfl, hV, hvl, hown, hbel⟩ := hrel
    have hszr := hbel.size
    by_cases hlt : k < n
    · by_cases h20 : k < 20
      · have hkn : (k : Int) < (n : Int) := by omega
        have hk20' : (k : Int) < 20 := by omega
        obtain ⟨bb, off, rfl, hbb, hc⟩ := HPS.out.cells (by have := HNL.out; omega)
        obtain ⟨v, a', cap', hck, hrd⟩ := hc k (by have := HNL.out; omega)
        have hv := hrd.val
        subst hv
        have hck' : wr.cell? ⟨bb, off + k, none⟩ = some (.slice a' (l.getD k []).length cap') := (hbel.cell (p := ⟨bb, off + k, none⟩) hbb).trans hck
        have hrt := hrd.take 600
        have HT := hid (HCT.out k h20 hlt)
        have hcr := hrd.room
        have hcm := hrd.most
        unfold maxLen at hcm
        have hV1 := hV.snoc hrt
        rw [← HT.out] at hV1
        have HV1 := hid hV1
        have htl : (l.getD k []).length ≤ 600 → ((l.getD k []).take 600).length = (l.getD k []).length := fun h => by rw [List.length_take]; omega
        have htl2 : 600 < (l.getD k []).length → ((l.getD k []).take 600).length = 600 := fun h => by rw [List.length_take]; omega
        have ha' : 0 < (l.getD k []).length → ∃ b o, a' = some ⟨b, o, none⟩ := fun h => by obtain ⟨b, o, h1, _⟩ := hrd.cells h; exact ⟨b, o, h1⟩
        clear hc hck hrd hrt hV hV1 HT
        generalize hyy : (l.getD k []).length = yn at *
        clear hyy
        by_cases h600 : 600 < yn
        · have h600' : (600 : Int) < (yn : Int) := by omega
          rw [htl2 h600] at HV1
          obtain ⟨b', o', rfl⟩ := ha' (by omega)
          clear htl htl2 ha'
          go_wp2_with (at_builtin; refine wpList_append_own _ rfl _ _ 22 rfl w.heap.size 35 i0 (.slice none 0 0) 1 24 Tryd.underlying22 hi hz0 hz1 hz2 rfl (by decide) _ _ _ rfl (hown.alloc _) ⟨wr.heap.size, 0, none⟩ 1 1 [.slice (some ⟨b', o', none⟩) 600 cap'] rfl rfl (row_new wr _) (row_cell _ _ _) (by unfold maxLen; omega) (by omega) (by simp; omega) ?_)
          intro v' w1 hown' hgrow _
          have hb1 := (hbel.alloc hszr _).grown hgrow (by simp; omega) (fun j hj => (hown.lt j hj).1)
          clear hown hgrow
          go_wp2
          exact ⟨⟨k + 1, _, by omega, by omega, by go_num, HV1.out, by simp [hvl], hown', hb1⟩, by simp [intOf]; omega⟩
        · have h600' : ¬ (600 : Int) < (yn : Int) := by omega
          rw [htl (by omega)] at HV1
          clear htl htl2 ha'
          go_wp2_with (at_builtin; refine wpList_append_own _ rfl _ _ 22 rfl w.heap.size 35 i0 (.slice none 0 0) 1 24 Tryd.underlying22 hi hz0 hz1 hz2 rfl (by decide) _ _ _ rfl (hown.alloc _) ⟨wr.heap.size, 0, none⟩ 1 1 [.slice a' yn cap'] rfl rfl (row_new wr _) (row_cell _ _ _) (by unfold maxLen; omega) (by omega) (by simp; omega) ?_)
          intro v' w1 hown' hgrow _
          have hb1 := (hbel.alloc hszr _).grown hgrow (by simp; omega) (fun j hj => (hown.lt j hj).1)
          clear hown hgrow
          go_wp2
          exact ⟨⟨k + 1, _, by omega, by omega, by go_num, HV1.out, by simp [hvl], hown', hb1⟩, by simp [intOf]; omega⟩
      · have hkn : (k : Int) < (n : Int) := by omega
        have hk20' : ¬ (k : Int) < 20 := by omega
        have hfull : (cutL l).take k = cutL l := List.take_of_length_le (by rw [HCL.out]; omega)
        have hkl : k = (cutL l).length := by rw [HCL.out]; omega
        rw [hfull] at hV
        rw [hkl] at hown
        obtain ⟨a', c, rfl, hps⟩ := ps_own hV hown hbel
        clear hown hV hfull hkl
        go_wp2
        go_ret
        exact ⟨a', c, rfl, hps, hbel⟩
    · have hkn : ¬ (k : Int) < (n : Int) := by omega
      have hfull : (cutL l).take k = cutL l := List.take_of_length_le (by rw [HCL.out]; omega)
      have hkl : k = (cutL l).length := by rw [HCL.out]; omega
      rw [hfull] at hV
      rw [hkl] at hown
      obtain ⟨a', c, rfl, hps⟩ := ps_own hV hown hbel
      clear hown hV hfull hkl
      go_wp2
      go_ret
      exact ⟨a', c, rfl, hps, hbel⟩
end Go.Proofs.YtkehhlbbnlnbcaaDoor
