/-
  The contract of huff.Lengths at any counts of at most 60 symbols: the depths of counts that were halved as often as they were too deep.
-/
import Derived.Test.YtgecoiakhmnilaaLengths
import Derived.Test.YtgecoiakhmnilaaDeepMath
import Derived.Test.YtgecoiakhmnilaaFlat
namespace Go.Proofs.Ytgecoiakhmnilaa
open Go.RowKit Hf

namespace Hf
/-- Counts, halved k times. -/
def flats (cs : List Int) : Nat → List Int
  | 0 => cs
  | k + 1 => (flats cs k).map flatC
theorem flats_length (cs : List Int) : ∀ k, (flats cs k).length = cs.length
  | 0 => rfl
  | k + 1 => by rw [flats, List.length_map, flats_length cs k]
theorem flatC_map_getD (X : List Int) (p : Nat) : (X.map flatC).getD p 0 = flatC (X.getD p 0) := by
  simp only [List.getD, List.getElem?_map]
  cases X[p]? with
  | none => rfl
  | some x => rfl
theorem flats_rng {cs : List Int} (hc : ∀ k, 0 ≤ cs.getD k 0 ∧ cs.getD k 0 ≤ 1073741824) : ∀ k p, 0 ≤ (flats cs k).getD p 0 ∧ (flats cs k).getD p 0 ≤ 1073741824
  | 0, p => hc p
  | k + 1, p => by
    rw [flats, flatC_map_getD]
    have := flats_rng hc k p
    unfold flatC; split <;> omega
theorem flats_zero {cs : List Int} (hc : ∀ k, 0 ≤ cs.getD k 0 ∧ cs.getD k 0 ≤ 1073741824) : ∀ k p, (flats cs k).getD p 0 = 0 ↔ cs.getD p 0 = 0
  | 0, p => Iff.rfl
  | k + 1, p => by
    rw [flats, flatC_map_getD, ← flats_zero hc k p]
    have := flats_rng hc k p
    unfold flatC; split <;> omega
theorem flat_sum_le : ∀ (X : List Int), (∀ x ∈ X, 0 ≤ x) → (X.map flatC).sum ≤ X.sum
  | [], _ => by simp
  | x :: X, h => by
    rw [List.map_cons, List.sum_cons, List.sum_cons]
    have h1 := flat_sum_le X (fun y hy => h y (by simp [hy]))
    have h2 := h x (by simp)
    have : flatC x ≤ x := by unfold flatC; split <;> omega
    omega
theorem flat_sum_lt : ∀ (X : List Int), (∀ x ∈ X, 0 ≤ x) → (∃ x ∈ X, 3 ≤ x) → (X.map flatC).sum < X.sum
  | [], _, h => by obtain ⟨x, hx, _⟩ := h; simp at hx
  | x :: X, h, h3 => by
    rw [List.map_cons, List.sum_cons, List.sum_cons]
    have h1 := flat_sum_le X (fun y hy => h y (by simp [hy]))
    have h2 := h x (by simp)
    by_cases c : 3 ≤ x
    · have : flatC x < x := by unfold flatC; split <;> omega
      omega
    · have : flatC x ≤ x := by unfold flatC; split <;> omega
      obtain ⟨y, hy, hy3⟩ := h3
      rw [List.mem_cons] at hy
      have h4 := flat_sum_lt X (fun z hz => h z (by simp [hz])) ⟨y, by
        rcases hy with hy | hy
        · omega
        · exact hy, hy3⟩
      omega
theorem sum_nonneg : ∀ (X : List Int), (∀ x ∈ X, 0 ≤ x) → 0 ≤ X.sum
  | [], _ => by simp
  | x :: X, h => by
    rw [List.sum_cons]
    have h1 := sum_nonneg X (fun y hy => h y (by simp [hy]))
    have h2 := h x (by simp)
    omega
theorem flats_less {cs : List Int} (hn : cs.length ≤ 60) (hc : ∀ k, 0 ≤ cs.getD k 0 ∧ cs.getD k 0 ≤ 1073741824) (k : Nat) (hd : (depthsL (flats cs k)).any deepC = true) : (flats cs (k + 1)).sum.toNat < (flats cs k).sum.toNat := by
  have hp : ∀ x ∈ flats cs k, 0 ≤ x := fun x hx => by
    obtain ⟨p, _, e⟩ := mem_getD hx
    have := flats_rng hc k p
    omega
  have h3 : ∃ x ∈ flats cs k, 3 ≤ x := by
    apply Classical.byContradiction
    intro hno
    have := dep_flat (flats cs k) (by rw [flats_length]; exact hn) (fun p => ⟨(flats_rng hc k p).1, by
      by_cases hpl : p < (flats cs k).length
      · apply Classical.byContradiction
        intro hh
        exact hno ⟨_, getD_in p hpl, by omega⟩
      · have : (flats cs k).getD p 0 = 0 := by simp [List.getD, List.getElem?_eq_none (show (flats cs k).length ≤ p by omega)]
        omega⟩)
    rw [this] at hd
    exact Bool.noConfusion hd
  have h1 := flat_sum_lt _ hp h3
  have h2 := sum_nonneg ((flats cs k).map flatC) (fun y hy => by
    rw [List.mem_map] at hy
    obtain ⟨x, hx, rfl⟩ := hy
    have := hp x hx
    unfold flatC; split <;> omega)
  rw [flats]
  omega
theorem dep_top (cs : List Int) (hn : cs.length ≤ 512) (hc : ∀ k, 0 ≤ cs.getD k 0 ∧ cs.getD k 0 ≤ 1073741824) (u : Nat) : 0 ≤ (depthsL cs).getD u 0 ∧ (depthsL cs).getD u 0 ≤ 1024 := by
  by_cases hu : u < cs.length
  · refine ⟨by have := dep_cases cs hc u hu; omega, ?_⟩
    by_cases h : 0 < cs.getD u 0
    · obtain ⟨j, hj, e⟩ := srt_all cs u hu h
      by_cases hm : (srt cs).length = 1
      · obtain rfl : j = 0 := by omega
        rw [← e, dep_one cs hm]; omega
      · rw [← e, dep_at cs hc (by omega) j hj]
        have h1 := (treeN_ups cs hc (by omega)).2
        have h2 := dv_rng (treeN cs) j
        have h3 := srt_len cs
        have h4 := nz_len cs cs.length
        omega
    · have := dep_cases cs hc u hu
      omega
  · have : (depthsL cs).getD u 0 = 0 := by simp [List.getD, List.getElem?_eq_none (show (depthsL cs).length ≤ u by rw [dep_long]; omega)]
    omega
end Hf

/-- The numbers of a row in memory. -/
def rowOf (w : World) (g n : Nat) : List Int := (List.range n).map (fun j => match w.cell? ⟨g, j, none⟩ with | some (.int _ x) => x | _ => 0)
theorem rowOf_own {w : World} {B e g n cap : Nat} {X : List Int} (h : w.ownsRow B e 1 (.slice (some ⟨g, 0, none⟩) n cap) n (X.map (Value.int .i64))) (hl : X.length = n) : rowOf w g n = X := by
  refine li_ext (by simp [rowOf, hl]) (fun i hi => ?_)
  have hin : i < n := by simpa [rowOf] using hi
  have c := own_cell h hl i hin
  unfold rowOf
  simp [List.getD, hin, c]

set_option maxHeartbeats 1600000 in
theorem lengths_all (ad : Addr) (cap : Nat) (cs : List Int) (w : World) (hr : Ri w .i64 (some ad) cap cs) (hc : areC cs = true) (h60 : cs.length ≤ 60) (hne : 0 < cs.length) :
    Calls Try.prog 10 #[.slice (some ad) cs.length cap] w fun e w' => ∃ v k, e = .returned (.tuple #[v, .int .i64 0]) ∧ (∀ j, j < k → (depthsL (flats cs j)).any deepC = true) ∧ (depthsL (flats cs k)).any deepC = false ∧ w'.ownsRow w.heap.size 3 1 v cs.length ((depthsL (flats cs k)).map (Value.int .i64)) ∧ Below w.heap.size w w' := by
  have hcr := areC_rng hc
  have HA := hid (are_word (some ad) cap cs w hr)
  rw [hc] at HA
  have HC := hid (clone_word ad cap cs w hr (by omega))
  have HW : Hid (∀ k j, (Lit.int .i64 ((flats cs k).getD j 0)).wf = true) := fun k j => by have := flats_rng hcr.2 k j; exact wf_mk_i64 (by omega) (by omega)
  have HDW : Hid (∀ k j, (Lit.int .i64 ((depthsL (flats cs k)).getD j 0)).wf = true) := fun k j => by have := dep_top (flats cs k) (by rw [flats_length]; omega) (flats_rng hcr.2 k) j; exact wf_mk_i64 (by omega) (by omega)
  have HDL : Hid (∀ k, (depthsL (flats cs k)).length = cs.length) := fun k => by rw [dep_long, flats_length]
  have HFL : Hid (∀ k, (flats cs k).length = cs.length) := fun k => flats_length cs k
  have HD : Hid (∀ (k : Nat) (W : World) (g cp : Nat), W.ownsRow w.heap.size 3 1 (.slice (some ⟨g, 0, none⟩) cs.length cp) cs.length ((flats cs k).map (Value.int .i64)) → Calls Try.prog 27 #[.slice (some ⟨g, 0, none⟩) cs.length cp] W fun e w' => ∃ v, e = .returned v ∧ w'.ownsRow W.heap.size 3 1 v cs.length ((depthsL (flats cs k)).map (Value.int .i64)) ∧ Below W.heap.size W w') := by
    intro k W g cp ho
    have ho2 := ho
    rw [show W.ownsRow w.heap.size 3 1 (.slice (some ⟨g, 0, none⟩) cs.length cp) cs.length ((flats cs k).map (Value.int .i64)) = W.ownsRow w.heap.size 3 1 (.slice (some ⟨g, 0, none⟩) cs.length cp) (flats cs k).length ((flats cs k).map (Value.int .i64)) from by rw [flats_length]] at ho2
    obtain ⟨a1, c1, e, hr1⟩ := Ri.own ho2 (HW.out k)
    injection e with e1 e2 e3
    subst e1 e3
    have h := depths_word _ _ (flats cs k) W hr1 (by rw [flats_length]; omega) (flats_rng hcr.2 k) (by have := nz_len (flats cs k) (flats cs k).length; rw [flats_length] at this; unfold mostS; rw [flats_length]; omega)
    rw [flats_length] at h
    refine h.mono ?_
    rintro _ w' ⟨v, rfl, h1, h2⟩
    rw [dep_long, flats_length] at h1
    exact ⟨v, rfl, h1, h2⟩
  have HX : Hid (∀ (k : Nat) (W : World) (a2 : Option Addr) (c2 : Nat), W.ownsRow w.heap.size 3 1 (.slice a2 cs.length c2) cs.length ((depthsL (flats cs k)).map (Value.int .i64)) → Calls Try.prog 28 #[.slice a2 cs.length c2, .func (.func 29) #[] #[]] W fun e w' => e = .returned (.bool ((depthsL (flats cs k)).any deepC)) ∧ w' = W) := by
    intro k W a2 c2 ho
    have ho2 := ho
    rw [show W.ownsRow w.heap.size 3 1 (.slice a2 cs.length c2) cs.length ((depthsL (flats cs k)).map (Value.int .i64)) = W.ownsRow w.heap.size 3 1 (.slice a2 cs.length c2) (depthsL (flats cs k)).length ((depthsL (flats cs k)).map (Value.int .i64)) from by rw [HDL.out]] at ho2
    obtain ⟨a1, c1, e, hr1⟩ := Ri.own ho2 (HDW.out k)
    injection e with e1 e2 e3
    subst e1 e3
    have h := contains_29 _ _ (depthsL (flats cs k)) W hr1
    rwa [HDL.out] at h
  have HFT : Hid (∀ (k : Nat) (W : World) (g cp : Nat), W.ownsRow w.heap.size 3 1 (.slice (some ⟨g, 0, none⟩) cs.length cp) cs.length ((flats cs k).map (Value.int .i64)) → Calls Try.prog 30 #[.slice (some ⟨g, 0, none⟩) cs.length cp] W fun e w' => e = .returned (.tuple #[]) ∧ w'.ownsRow w.heap.size 3 1 (.slice (some ⟨g, 0, none⟩) cs.length cp) cs.length ((flats cs (k + 1)).map (Value.int .i64)) ∧ W.grownBy w' (some g)) := fun k W g cp ho => flatten_word cs.length cp w.heap.size g (flats cs k) W (by omega) (flats_length cs k) (fun j => (flats_rng hcr.2 k j).2) ho
  have HLS : Hid (∀ k, (depthsL (flats cs k)).any deepC = true → (flats cs (k + 1)).sum.toNat < (flats cs k).sum.toNat) := fun k => flats_less h60 hcr.2 k
  clear hr hc hcr
  obtain ⟨len, hl⟩ : ∃ n, n = cs.length := ⟨_, rfl⟩
  rw [← hl] at HA HC HD HX HFT HDL HFL h60 hne ⊢
  clear hl
  go_enter Try.func10, Try.ntmps10
  go_wp2_with fail
  refine HA.out.mono ?_
  rintro _ w1 ⟨rfl, hw⟩
  obtain rfl := hw.symm
  clear hw
  go_wp2_with fail
  refine HC.out.mono ?_
  rintro _ w1 ⟨v1, rfl, ho1, hb1⟩
  obtain ⟨g, cp, rfl, hg, _⟩ := own_some ho1 hne
  have HD1 := hid (HD.out 0 w1 g cp ho1)
  have HO1 := hid ho1
  have HB1 := hid hb1
  have HGE := hid hg
  clear ho1 hb1 hg HA HC
  go_wp2_with fail
  refine HD1.out.mono ?_
  rintro _ w2 ⟨v2, rfl, ho2, hb2⟩
  obtain ⟨g2, cp2, rfl, hg2, _⟩ := own_some ho2 hne
  have HO2 := hid (own_low ho2 HB1.out.size)
  have HOW2 := hid (own_later HO1.out hb2)
  have HB2 := hid (Bn HB1.out hb2)
  clear ho2 hb2 hg2 HD1 HO1 HB1
  go_wp2
  go_loopw [5] (fun y wr => ∃ k g3 cp3 : Nat, y = .slice (some ⟨g3, 0, none⟩) len cp3 ∧ Hid (∀ j, j < k → (depthsL (flats cs j)).any deepC = true) ∧ Hid (wr.ownsRow w.heap.size 3 1 (.slice (some ⟨g, 0, none⟩) len cp) len ((flats cs k).map (Value.int .i64))) ∧ Hid (wr.ownsRow w.heap.size 3 1 (.slice (some ⟨g3, 0, none⟩) len cp3) len ((depthsL (flats cs k)).map (Value.int .i64))) ∧ Hid (Below w.heap.size w wr)) (fun _ wr => (rowOf wr g len).sum.toNat)
  case atStart => exact ⟨0, g2, cp2, rfl, fun j hj => by omega, HOW2, HO2, HB2⟩
  case round =>
    clear HOW2 HO2 HB2
    obtain ⟨k, g3, cp3, rfl, HK, HOW, HO, HB⟩ := hrel
    have HXK := hid (HX.out k wr _ _ HO.out)
    have HM := hid (rowOf_own HOW.out (HFL.out k))
    cases hdk : (depthsL (flats cs k)).any deepC with
    | true =>
      rw [hdk] at HXK
      have HK2 : Hid (∀ j, j < k + 1 → (depthsL (flats cs j)).any deepC = true) := fun j hj => by
        by_cases e : j = k
        · rw [e]; exact hdk
        · exact HK.out j (by omega)
      have HLT := hid (HLS.out k hdk)
      clear hdk HK
      go_wp2_with fail
      refine HXK.out.mono ?_
      rintro _ w3 ⟨rfl, hw⟩
      obtain rfl := hw.symm
      clear hw
      have HF := hid (HFT.out k _ g cp HOW.out)
      clear HXK
      go_wp2_with fail
      refine HF.out.mono ?_
      rintro _ w4 ⟨rfl, ho4, hg4⟩
      have HB4 := hid (HB.out.grown hg4 HB.out.size (fun j hj => by injection hj with hj; have := HGE.out; omega))
      have HD4 := hid (HD.out (k + 1) w4 g cp ho4)
      have HO4 := hid ho4
      clear ho4 hg4 HF HOW HO HB
      go_wp2_with fail
      refine HD4.out.mono ?_
      rintro _ w5 ⟨v5, rfl, ho5, hb5⟩
      obtain ⟨g5, cp5, rfl, _, _⟩ := own_some ho5 hne
      have HO5 := hid (own_low ho5 HB4.out.size)
      have HOW5 := hid (own_later HO4.out hb5)
      have HB5 := hid (Bn HB4.out hb5)
      have HM5 := hid (rowOf_own HOW5.out (HFL.out (k + 1)))
      clear ho5 hb5 HD4 HO4 HB4
      go_wp2
      exact ⟨⟨k + 1, g5, cp5, rfl, HK2, HOW5, HO5, HB5⟩, by rw [HM.out, HM5.out]; exact HLT.out⟩
    | false =>
      rw [hdk] at HXK
      have HDK := hid hdk
      clear hdk
      go_wp2_with fail
      refine HXK.out.mono ?_
      rintro _ w3 ⟨rfl, hw⟩
      obtain rfl := hw.symm
      clear hw HXK
      go_wp2
      go_ret2
      exact ⟨_, k, rfl, HK.out, HDK.out, HO.out, HB.out⟩
end Go.Proofs.Ytgecoiakhmnilaa
