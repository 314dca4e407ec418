/-
  The contract of huff's flatten.
-/
import Derived.Test.YtgecoiakhmnilabPart07
import Derived.Test.YtgecoiakhmnilabPart18
import Derived.Test.YtgecoiakhmnilabPart16
namespace Go.Proofs.Ytgecoiakhmnilab
open Go.RowKit Hf

namespace Hf
def flatC (c : Int) : Int := if 0 < c then c / 2 + 1 else c
/-- The first k numbers flattened. -/
def flatK (X : List Int) : Nat → List Int
  | 0 => X
  | k + 1 => (flatK X k).set k (flatC (X.getD k 0))
theorem flatK_length (X : List Int) : ∀ k, (flatK X k).length = X.length
  | 0 => rfl
  | k + 1 => by rw [flatK, List.length_set, flatK_length X k]
theorem flatK_getD (X : List Int) : ∀ k, k ≤ X.length → ∀ p, (flatK X k).getD p 0 = if p < k then flatC (X.getD p 0) else X.getD p 0
  | 0, _, p => by rw [flatK, if_neg (by omega)]
  | k + 1, hk, p => by
    rw [flatK, sgetD_set _ _ _ _ (by rw [flatK_length]; omega), flatK_getD X k (by omega)]
    by_cases h : p = k
    · subst h; rw [if_pos rfl, if_pos (by omega)]
    · rw [if_neg h]
      by_cases h2 : p < k
      · rw [if_pos h2, if_pos (by omega)]
      · rw [if_neg h2, if_neg (by omega)]
theorem flatK_all (X : List Int) : flatK X X.length = X.map flatC := by
  refine List.ext_getElem (by rw [flatK_length, List.length_map]) (fun i h1 h2 => ?_)
  have h := flatK_getD X X.length (Nat.le_refl _) i
  rw [flatK_length] at h1
  rw [if_pos h1] at h
  simpa [List.getD, List.getElem?_eq_getElem h1, List.getElem?_eq_getElem (show i < (flatK X X.length).length from by rw [flatK_length]; exact h1)] using h
theorem flatK_keep (X : List Int) (k : Nat) (hk : k < X.length) (h : ¬ 0 < X.getD k 0) : flatK X (k + 1) = flatK X k := by
  rw [flatK]
  have e : flatC (X.getD k 0) = (flatK X k).getD k 0 := by rw [flatK_getD X k (by omega), if_neg (by omega)]; unfold flatC; rw [if_neg h]
  rw [e]
  refine List.ext_getElem (by simp) (fun i h1 h2 => ?_)
  rw [List.getElem_set]
  split
  · rename_i hi; subst hi; simp [List.getD, List.getElem?_eq_getElem h2]
  · rfl
end Hf

set_option maxHeartbeats 800000 in
set_option maxRecDepth 100000 in
theorem flatten_word (n cap B gs : Nat) (X : List Int) (w : World) (hn : n ≤ 100000) (hl : X.length = n) (hx : ∀ j, X.getD j 0 ≤ 1073741824)
    (hown : w.ownsRow B 3 1 (.slice (some ⟨gs, 0, none⟩) n cap) n (X.map (Value.int .i64))) :
    Calls Try.prog 23 #[.slice (some ⟨gs, 0, none⟩) n cap] w fun e w' => e = .returned (.tuple #[]) ∧ w'.ownsRow B 3 1 (.slice (some ⟨gs, 0, none⟩) n cap) n ((X.map flatC).map (Value.int .i64)) ∧ w.grownBy w' (some gs) := by
  have HO := hid hown
  have HL := hid hl
  have HX := hid hx
  clear hown hl hx
  go_enter Try.func23, Try.ntmps23
  go_wp2
  go_loopw [6] (fun y wr => ∃ k : Nat, k ≤ n ∧ y = .int .i64 k ∧ Hid (wr.ownsRow B 3 1 (.slice (some ⟨gs, 0, none⟩) n cap) n ((flatK X k).map (Value.int .i64))) ∧ Hid (w.grownBy wr (some gs))) (fun y _ => n - (intOf y).toNat)
  case atStart => exact ⟨0, by omega, rfl, HO, World.grownBy.refl _ _⟩
  case round =>
    clear HO
    obtain ⟨k, hk, rfl, HO, HG⟩ := hrel
    by_cases hlt : k < n
    · have hkz : (k : Int) < (n : Int) := by omega
      have HXL : Hid ((flatK X k).length = n) := by show _ = _; rw [flatK_length, HL.out]
      have c1 := own_cell HO.out HXL.out k hlt
      rw [flatK_getD X k (by rw [HL.out]; exact hk), if_neg (by omega)] at c1
      have f1 := HO.out.frozenAt k
      have h1 := HO.out.stored k (.int .i64 (flatC (X.getD k 0)))
      rw [← List.map_set] at h1
      have HS : Hid ((wr.setCell ⟨gs, k, none⟩ (.int .i64 (flatC (X.getD k 0)))).ownsRow B 3 1 (.slice (some ⟨gs, 0, none⟩) n cap) n ((flatK X (k + 1)).map (Value.int .i64)) ∧ w.grownBy (wr.setCell ⟨gs, k, none⟩ (.int .i64 (flatC (X.getD k 0)))) (some gs)) := ⟨h1.1, grown_trans HG.out h1.2⟩
      have HKP := hid (flatK_keep X k (by rw [HL.out]; exact hlt))
      have hub := HX.out k
      clear h1 HXL
      by_cases hz : 0 < X.getD k 0
      · obtain ⟨c, hc⟩ : ∃ c : Nat, X.getD k 0 = (c : Int) := ⟨(X.getD k 0).toNat, by omega⟩
        have hv : flatC (X.getD k 0) = (c : Int) / 2 + 1 := by unfold flatC; rw [if_pos hz, hc]
        rw [hv] at HS
        rw [hc] at c1 hz hub
        clear hv hc HKP HO HG
        obtain ⟨q, hq⟩ : ∃ q : Nat, (c : Int) / 2 = (q : Int) := ⟨c / 2, by omega⟩
        have hqb : q ≤ 1073741824 := by omega
        have htd : (c : Int).tdiv 2 = (q : Int) := by rw [Int.tdiv_eq_ediv_of_nonneg (by omega)]; exact hq
        rw [hq] at HS
        clear hq
        go_wp2
        exact ⟨⟨k + 1, by omega, by go_num, HS.out.1, HS.out.2⟩, by simp [intOf]; omega⟩
      · have hkp := HKP.out hz
        have HO2 : Hid (wr.ownsRow B 3 1 (.slice (some ⟨gs, 0, none⟩) n cap) n ((flatK X (k + 1)).map (Value.int .i64))) := by show World.ownsRow _ _ _ _ _ _ _; rw [hkp]; exact HO.out
        clear hkp HKP HS HO
        generalize X.getD k 0 = z at *
        go_wp2
        exact ⟨⟨k + 1, by omega, by go_num, HO2, HG⟩, by simp [intOf]; omega⟩
    · obtain hke : k = n := by omega
      have HO2 : Hid (wr.ownsRow B 3 1 (.slice (some ⟨gs, 0, none⟩) n cap) n ((X.map flatC).map (Value.int .i64))) := by
        show World.ownsRow _ _ _ _ _ _ _
        rw [← flatK_all, HL.out, ← hke]; rw [← hke] at HO; exact HO.out
      have hkz : ¬ (k : Int) < (n : Int) := by omega
      clear hke HO
      go_wp2
      go_end0
      exact ⟨rfl, by first | exact HO2.out | simpa using HO2.out, HG.out⟩
end Go.Proofs.Ytgecoiakhmnilab
/-
  The contract of huff.Lengths at any counts of at most 60 symbols: the depths of counts that were halved as often as they were too deep.
-/
namespace Go.Proofs.Ytgecoiakhmnilab
open Go.RowKit Hf

namespace Hf
/-- Counts, halved k times. -/
def flats (cs : List Int) : Nat → List Int
  | 0 => cs
  | k + 1 => (flats cs k).map flatC
theorem flats_length (cs : List Int) : ∀ k, (flats cs k).length = cs.length
  | 0 => rfl
  | k + 1 => by rw [flats, List.length_map, flats_length cs k]
theorem flatC_map_getD (X : List Int) (p : Nat) : (X.map flatC).getD p 0 = flatC (X.getD p 0) := by
  simp only [List.getD, List.getElem?_map]
  cases X[p]? with
  | none => rfl
  | some x => rfl
theorem flats_rng {cs : List Int} (hc : ∀ k, 0 ≤ cs.getD k 0 ∧ cs.getD k 0 ≤ 1073741824) : ∀ k p, 0 ≤ (flats cs k).getD p 0 ∧ (flats cs k).getD p 0 ≤ 1073741824
  | 0, p => hc p
  | k + 1, p => by
    rw [flats, flatC_map_getD]
    have := flats_rng hc k p
    unfold flatC; split <;> omega
theorem flats_zero {cs : List Int} (hc : ∀ k, 0 ≤ cs.getD k 0 ∧ cs.getD k 0 ≤ 1073741824) : ∀ k p, (flats cs k).getD p 0 = 0 ↔ cs.getD p 0 = 0
  | 0, p => Iff.rfl
  | k + 1, p => by
    rw [flats, flatC_map_getD, ← flats_zero hc k p]
    have := flats_rng hc k p
    unfold flatC; split <;> omega
theorem flat_sum_le : ∀ (X : List Int), (∀ x ∈ X, 0 ≤ x) → (X.map flatC).sum ≤ X.sum
  | [], _ => by simp
  | x :: X, h => by
    rw [List.map_cons, List.sum_cons, List.sum_cons]
    have h1 := flat_sum_le X (fun y hy => h y (by simp [hy]))
    have h2 := h x (by simp)
    have : flatC x ≤ x := by unfold flatC; split <;> omega
    omega
theorem flat_sum_lt : ∀ (X : List Int), (∀ x ∈ X, 0 ≤ x) → (∃ x ∈ X, 3 ≤ x) → (X.map flatC).sum < X.sum
  | [], _, h => by obtain ⟨x, hx, _⟩ := h; simp at hx
  | x :: X, h, h3 => by
    rw [List.map_cons, List.sum_cons, List.sum_cons]
    have h1 := flat_sum_le X (fun y hy => h y (by simp [hy]))
    have h2 := h x (by simp)
    by_cases c : 3 ≤ x
    · have : flatC x < x := by unfold flatC; split <;> omega
      omega
    · have : flatC x ≤ x := by unfold flatC; split <;> omega
      obtain ⟨y, hy, hy3⟩ := h3
      rw [List.mem_cons] at hy
      have h4 := flat_sum_lt X (fun z hz => h z (by simp [hz])) ⟨y, by
        rcases hy with hy | hy
        · omega
        · exact hy, hy3⟩
      omega
theorem sum_nonneg : ∀ (X : List Int), (∀ x ∈ X, 0 ≤ x) → 0 ≤ X.sum
  | [], _ => by simp
  | x :: X, h => by
    rw [List.sum_cons]
    have h1 := sum_nonneg X (fun y hy => h y (by simp [hy]))
    have h2 := h x (by simp)
    omega
theorem flats_less {cs : List Int} (hn : cs.length ≤ 60) (hc : ∀ k, 0 ≤ cs.getD k 0 ∧ cs.getD k 0 ≤ 1073741824) (k : Nat) (hd : (depthsL (flats cs k)).any deepC = true) : (flats cs (k + 1)).sum.toNat < (flats cs k).sum.toNat := by
  have hp : ∀ x ∈ flats cs k, 0 ≤ x := fun x hx => by
    obtain ⟨p, _, e⟩ := mem_getD hx
    have := flats_rng hc k p
    omega
  have h3 : ∃ x ∈ flats cs k, 3 ≤ x := by
    apply Classical.byContradiction
    intro hno
    have := dep_flat (flats cs k) (by rw [flats_length]; exact hn) (fun p => ⟨(flats_rng hc k p).1, by
      by_cases hpl : p < (flats cs k).length
      · apply Classical.byContradiction
        intro hh
        exact hno ⟨_, getD_in p hpl, by omega⟩
      · have : (flats cs k).getD p 0 = 0 := by simp [List.getD, List.getElem?_eq_none (show (flats cs k).length ≤ p by omega)]
        omega⟩)
    rw [this] at hd
    exact Bool.noConfusion hd
  have h1 := flat_sum_lt _ hp h3
  have h2 := sum_nonneg ((flats cs k).map flatC) (fun y hy => by
    rw [List.mem_map] at hy
    obtain ⟨x, hx, rfl⟩ := hy
    have := hp x hx
    unfold flatC; split <;> omega)
  rw [flats]
  omega
theorem dep_top (cs : List Int) (hn : cs.length ≤ 512) (hc : ∀ k, 0 ≤ cs.getD k 0 ∧ cs.getD k 0 ≤ 1073741824) (u : Nat) : 0 ≤ (depthsL cs).getD u 0 ∧ (depthsL cs).getD u 0 ≤ 1024 := by
  by_cases hu : u < cs.length
  · refine ⟨by have := dep_cases cs hc u hu; omega, ?_⟩
    by_cases h : 0 < cs.getD u 0
    · obtain ⟨j, hj, e⟩ := srt_all cs u hu h
      by_cases hm : (srt cs).length = 1
      · obtain rfl : j = 0 := by omega
        rw [← e, dep_one cs hm]; omega
      · rw [← e, dep_at cs hc (by omega) j hj]
        have h1 := (treeN_ups cs hc (by omega)).2
        have h2 := dv_rng (treeN cs) j
        have h3 := srt_len cs
        have h4 := nz_len cs cs.length
        omega
    · have := dep_cases cs hc u hu
      omega
  · have : (depthsL cs).getD u 0 = 0 := by simp [List.getD, List.getElem?_eq_none (show (depthsL cs).length ≤ u by rw [dep_long]; omega)]
    omega
end Hf

/-- The numbers of a row in memory. -/
def rowOf (w : World) (g n : Nat) : List Int := (List.range n).map (fun j => match w.cell? ⟨g, j, none⟩ with | some (.int _ x) => x | _ => 0)
theorem rowOf_own {w : World} {B e g n cap : Nat} {X : List Int} (h : w.ownsRow B e 1 (.slice (some ⟨g, 0, none⟩) n cap) n (X.map (Value.int .i64))) (hl : X.length = n) : rowOf w g n = X := by
  refine li_ext (by simp [rowOf, hl]) (fun i hi => ?_)
  have hin : i < n := by simpa [rowOf] using hi
  have c := own_cell h hl i hin
  unfold rowOf
  simp [List.getD, hin, c]

set_option maxHeartbeats 1600000 in
theorem lengths_all (ad : Addr) (cap : Nat) (cs : List Int) (w : World) (hr : Ri w .i64 (some ad) cap cs) (hc : areC cs = true) (h60 : cs.length ≤ 60) (hne : 0 < cs.length) :
    Calls Try.prog 10 #[.slice (some ad) cs.length cap] w fun e w' => ∃ v k, e = .returned (.tuple #[v, .int .i64 0]) ∧ (∀ j, j < k → (depthsL (flats cs j)).any deepC = true) ∧ (depthsL (flats cs k)).any deepC = false ∧ w'.ownsRow w.heap.size 3 1 v cs.length ((depthsL (flats cs k)).map (Value.int .i64)) ∧ Below w.heap.size w w' := by
  have hcr := areC_rng hc
  have HA := hid (are_word (some ad) cap cs w hr)
  rw [hc] at HA
  have HC := hid (clone_word ad cap cs w hr (by omega))
  have HW : Hid (∀ k j, (Lit.int .i64 ((flats cs k).getD j 0)).wf = true) := fun k j => by have := flats_rng hcr.2 k j; exact wf_mk_i64 (by omega) (by omega)
  have HDW : Hid (∀ k j, (Lit.int .i64 ((depthsL (flats cs k)).getD j 0)).wf = true) := fun k j => by have := dep_top (flats cs k) (by rw [flats_length]; omega) (flats_rng hcr.2 k) j; exact wf_mk_i64 (by omega) (by omega)
  have HDL : Hid (∀ k, (depthsL (flats cs k)).length = cs.length) := fun k => by rw [dep_long, flats_length]
  have HFL : Hid (∀ k, (flats cs k).length = cs.length) := fun k => flats_length cs k
  have HD : Hid (∀ (k : Nat) (W : World) (g cp : Nat), W.ownsRow w.heap.size 3 1 (.slice (some ⟨g, 0, none⟩) cs.length cp) cs.length ((flats cs k).map (Value.int .i64)) → Calls Try.prog 20 #[.slice (some ⟨g, 0, none⟩) cs.length cp] W fun e w' => ∃ v, e = .returned v ∧ w'.ownsRow W.heap.size 3 1 v cs.length ((depthsL (flats cs k)).map (Value.int .i64)) ∧ Below W.heap.size W w') := by
    intro k W g cp ho
    have ho2 := ho
    rw [show W.ownsRow w.heap.size 3 1 (.slice (some ⟨g, 0, none⟩) cs.length cp) cs.length ((flats cs k).map (Value.int .i64)) = W.ownsRow w.heap.size 3 1 (.slice (some ⟨g, 0, none⟩) cs.length cp) (flats cs k).length ((flats cs k).map (Value.int .i64)) from by rw [flats_length]] at ho2
    obtain ⟨a1, c1, e, hr1⟩ := Ri.own ho2 (HW.out k)
    injection e with e1 e2 e3
    subst e1 e3
    have h := depths_word _ _ (flats cs k) W hr1 (by rw [flats_length]; omega) (flats_rng hcr.2 k) (by have := nz_len (flats cs k) (flats cs k).length; rw [flats_length] at this; unfold mostS; rw [flats_length]; omega)
    rw [flats_length] at h
    refine h.mono ?_
    rintro _ w' ⟨v, rfl, h1, h2⟩
    rw [dep_long, flats_length] at h1
    exact ⟨v, rfl, h1, h2⟩
  have HX : Hid (∀ (k : Nat) (W : World) (a2 : Option Addr) (c2 : Nat), W.ownsRow w.heap.size 3 1 (.slice a2 cs.length c2) cs.length ((depthsL (flats cs k)).map (Value.int .i64)) → Calls Try.prog 21 #[.slice a2 cs.length c2, .func (.func 22) #[] #[]] W fun e w' => e = .returned (.bool ((depthsL (flats cs k)).any deepC)) ∧ w' = W) := by
    intro k W a2 c2 ho
    have ho2 := ho
    rw [show W.ownsRow w.heap.size 3 1 (.slice a2 cs.length c2) cs.length ((depthsL (flats cs k)).map (Value.int .i64)) = W.ownsRow w.heap.size 3 1 (.slice a2 cs.length c2) (depthsL (flats cs k)).length ((depthsL (flats cs k)).map (Value.int .i64)) from by rw [HDL.out]] at ho2
    obtain ⟨a1, c1, e, hr1⟩ := Ri.own ho2 (HDW.out k)
    injection e with e1 e2 e3
    subst e1 e3
    have h := contains_29 _ _ (depthsL (flats cs k)) W hr1
    rwa [HDL.out] at h
  have HFT : Hid (∀ (k : Nat) (W : World) (g cp : Nat), W.ownsRow w.heap.size 3 1 (.slice (some ⟨g, 0, none⟩) cs.length cp) cs.length ((flats cs k).map (Value.int .i64)) → Calls Try.prog 23 #[.slice (some ⟨g, 0, none⟩) cs.length cp] W fun e w' => e = .returned (.tuple #[]) ∧ w'.ownsRow w.heap.size 3 1 (.slice (some ⟨g, 0, none⟩) cs.length cp) cs.length ((flats cs (k + 1)).map (Value.int .i64)) ∧ W.grownBy w' (some g)) := fun k W g cp ho => flatten_word cs.length cp w.heap.size g (flats cs k) W (by omega) (flats_length cs k) (fun j => (flats_rng hcr.2 k j).2) ho
  have HLS : Hid (∀ k, (depthsL (flats cs k)).any deepC = true → (flats cs (k + 1)).sum.toNat < (flats cs k).sum.toNat) := fun k => flats_less h60 hcr.2 k
  clear hr hc hcr
  obtain ⟨len, hl⟩ : ∃ n, n = cs.length := ⟨_, rfl⟩
  rw [← hl] at HA HC HD HX HFT HDL HFL h60 hne ⊢
  clear hl
  go_enter Try.func10, Try.ntmps10
  go_wp2_with fail
  refine HA.out.mono ?_
  rintro _ w1 ⟨rfl, hw⟩
  obtain rfl := hw.symm
  clear hw
  go_wp2_with fail
  refine HC.out.mono ?_
  rintro _ w1 ⟨v1, rfl, ho1, hb1⟩
  obtain ⟨g, cp, rfl, hg, _⟩ := own_some ho1 hne
  have HD1 := hid (HD.out 0 w1 g cp ho1)
  have HO1 := hid ho1
  have HB1 := hid hb1
  have HGE := hid hg
  clear ho1 hb1 hg HA HC
  go_wp2_with fail
  refine HD1.out.mono ?_
  rintro _ w2 ⟨v2, rfl, ho2, hb2⟩
  obtain ⟨g2, cp2, rfl, hg2, _⟩ := own_some ho2 hne
  have HO2 := hid (own_low ho2 HB1.out.size)
  have HOW2 := hid (own_later HO1.out hb2)
  have HB2 := hid (Bn HB1.out hb2)
  clear ho2 hb2 hg2 HD1 HO1 HB1
  go_wp2
  go_loopw [5] (fun y wr => ∃ k g3 cp3 : Nat, y = .slice (some ⟨g3, 0, none⟩) len cp3 ∧ Hid (∀ j, j < k → (depthsL (flats cs j)).any deepC = true) ∧ Hid (wr.ownsRow w.heap.size 3 1 (.slice (some ⟨g, 0, none⟩) len cp) len ((flats cs k).map (Value.int .i64))) ∧ Hid (wr.ownsRow w.heap.size 3 1 (.slice (some ⟨g3, 0, none⟩) len cp3) len ((depthsL (flats cs k)).map (Value.int .i64))) ∧ Hid (Below w.heap.size w wr)) (fun _ wr => (rowOf wr g len).sum.toNat)
  case atStart => exact ⟨0, g2, cp2, rfl, fun j hj => by omega, HOW2, HO2, HB2⟩
  case round =>
    clear HOW2 HO2 HB2
    obtain ⟨k, g3, cp3, rfl, HK, HOW, HO, HB⟩ := hrel
    have HXK := hid (HX.out k wr _ _ HO.out)
    have HM := hid (rowOf_own HOW.out (HFL.out k))
    cases hdk : (depthsL (flats cs k)).any deepC with
    | true =>
      rw [hdk] at HXK
      have HK2 : Hid (∀ j, j < k + 1 → (depthsL (flats cs j)).any deepC = true) := fun j hj => by
        by_cases e : j = k
        · rw [e]; exact hdk
        · exact HK.out j (by omega)
      have HLT := hid (HLS.out k hdk)
      clear hdk HK
      go_wp2_with fail
      refine HXK.out.mono ?_
      rintro _ w3 ⟨rfl, hw⟩
      obtain rfl := hw.symm
      clear hw
      have HF := hid (HFT.out k _ g cp HOW.out)
      clear HXK
      go_wp2_with fail
      refine HF.out.mono ?_
      rintro _ w4 ⟨rfl, ho4, hg4⟩
      have HB4 := hid (HB.out.grown hg4 HB.out.size (fun j hj => by injection hj with hj; have := HGE.out; omega))
      have HD4 := hid (HD.out (k + 1) w4 g cp ho4)
      have HO4 := hid ho4
      clear ho4 hg4 HF HOW HO HB
      go_wp2_with fail
      refine HD4.out.mono ?_
      rintro _ w5 ⟨v5, rfl, ho5, hb5⟩
      obtain ⟨g5, cp5, rfl, _, _⟩ := own_some ho5 hne
      have HO5 := hid (own_low ho5 HB4.out.size)
      have HOW5 := hid (own_later HO4.out hb5)
      have HB5 := hid (Bn HB4.out hb5)
      have HM5 := hid (rowOf_own HOW5.out (HFL.out (k + 1)))
      clear ho5 hb5 HD4 HO4 HB4
      go_wp2
      exact ⟨⟨k + 1, g5, cp5, rfl, HK2, HOW5, HO5, HB5⟩, by rw [HM.out, HM5.out]; exact HLT.out⟩
    | false =>
      rw [hdk] at HXK
      have HDK := hid hdk
      clear hdk
      go_wp2_with fail
      refine HXK.out.mono ?_
      rintro _ w3 ⟨rfl, hw⟩
      obtain rfl := hw.symm
      clear hw HXK
      go_wp2
      go_ret2
      exact ⟨_, k, rfl, HK.out, HDK.out, HO.out, HB.out⟩
end Go.Proofs.Ytgecoiakhmnilab
/-
  append onto a row of one's own of the document's nodes, as an operation: what stood where the row lay stays there.
-/
namespace Go.Proofs.Ytgecoiakhmnilab
open Go.RowKit Hf

theorem run_app_stays {P : Program} (w : World) (base : Nat) (t ty e : TypeId) (i : TypeInfo) (z : Value) (size bytes : Nat) (ht : P.underlying t = some (.slice e)) (hi : P.info? e = some i) (hz : i.zero = some z)
    (hsize : i.size = size) (hby : i.bytes = bytes) (hzs : z.cells.size = size) (hsz : 0 < size)
    (g n cap : Nat) (xs : List Value) (hown : w.ownsRow base e size (.slice (some ⟨g, 0, none⟩) n cap) n xs)
    (a : Addr) (m c : Nat) (news : List Value) (hl : news.length = m * size) (hnews : ∀ j u, news[j]? = some u → w.cell? (a.add j) = some u) (h1 : ∀ u ∈ news, u.oneCell' = true)
    (h63 : n + m ≤ maxLen) (hbytes : (n + m) * bytes ≤ 140737488355328) (hbase : base ≤ w.heap.size) :
    ∃ v' w', (Builtin.append_ #[t, t] ty #[.slice (some ⟨g, 0, none⟩) n cap, .slice (some a) m c]).run P w = .ok v' w' ∧ w'.ownsRow base e size v' (n + m) (xs ++ news) ∧ w.grownBy w' (some g) ∧
      ∀ j u, xs[j]? = some u → w'.cell? ⟨g, j, none⟩ = some u := by
  obtain ⟨v', w', hr, h2, h3, _⟩ := run_append_own (P := P) w base t ty e i z size bytes ht hi hz hsize hby hzs hsz _ n xs hown a m c news hl hnews h1 h63 hbytes hbase
  refine ⟨v', w', hr, h2, h3, fun j u hj => ?_⟩
  have hold := hown.cells (g := g) rfl j u hj
  have hadd : ∀ k, (⟨g, 0, none⟩ : Addr).add k = ⟨g, k, none⟩ := fun k => by rw [Go.WideShapes.add_plain, Nat.zero_add]
  rw [hadd] at hold
  by_cases hroom : n + m ≤ cap
  · obtain ⟨w2, hr2, h4, _⟩ := run_append_fits (P := P) w base t ty e i size ht hi hsize g n cap xs hown a m c news hl hnews h1 hroom
    rw [hr] at hr2
    injection hr2 with e1 e2
    subst e1 e2
    have hlt := (List.getElem?_eq_some_iff.1 hj).1
    have := h4.cells (g := g) rfl j u (by rw [List.getElem?_append_left hlt]; exact hj)
    rwa [hadd] at this
  · subst hsize
    subst hby
    have hmx : n + m ≤ 9223372036854775807 := by simp only [maxLen] at h63; omega
    have hr2 := run_append_grow (P := P) w t ty e i z ht hi hz ⟨g, 0, none⟩ n cap xs hown.1 (hown.cells (g := g) rfl) a m c news hl hnews (by omega) (by omega) (growslice_fits (by omega) hbytes)
    rw [hr] at hr2
    injection hr2 with e1 e2
    subst e1 e2
    have hg0 : w.grownBy (w.drew.alloc (.cells (xs.toArray ++ news.toArray ++ Builtin.zeroCells z.cells (grownCap w (n + m) cap e - (n + m))) e)) none := ⟨rfl, rfl, rfl, by simp, fun k hk _ => (bel_alloc w.drew _).block k hk⟩
    exact hg0.cell hold (by simp)

theorem Try.info43 : (Try.prog.info? 43).map (fun i => (i.zero, i.size, i.bytes)) = some (some (.agg #[.int .i64 0, .int .i64 0, .int .i64 0]), 3, 24) := by kernel_rfl

theorem wp_app3 (w w0 : World) {o : Oper} {ac : Act} {K : Act → World → Prop} {Q : Exit → Act → World → Prop} (s x : Operand)
    (ho : o.op = .call { callee := .builtin .append, args := #[s, x], argTypes := #[41, 41] }) (B g n cap : Nat) (X : List Int) (a b c : Int) (hs : ac.eval s = .slice (some ⟨g, 0, none⟩) n cap) (hown : w0.ownsRow B 43 3 (.slice (some ⟨g, 0, none⟩) n cap) n (X.map (Value.int .i64)))
    (hw : w = w0.alloc (.cells #[.int .i64 a, .int .i64 b, .int .i64 c] 43)) (hx : ac.eval x = .slice (some ⟨w0.heap.size, 0, none⟩) 1 1) (hbd : n + 1 ≤ 100000) (hB : B ≤ w0.heap.size)
    (h : ∀ v' w', w'.ownsRow B 43 3 v' (n + 1) ((X ++ [a, b, c]).map (Value.int .i64)) → w.grownBy w' (some g) → (∀ j, j < X.length → w'.cell? ⟨g, j, none⟩ = some (.int .i64 (X.getD j 0))) → K (ac.put o.dst v') w') : o.wp Try.prog ac w K Q := by
  obtain ⟨i0, hi, hz0, hz1, hz2⟩ := info_parts Try.info43
  subst hw
  obtain ⟨v', w', hr, h2, h3, h4⟩ := run_app_stays (P := Try.prog) (w0.alloc (.cells #[.int .i64 a, .int .i64 b, .int .i64 c] 43)) B 41 o.type 43 i0 _ 3 24 Try.underlying41 hi hz0 hz1 hz2 rfl (by decide) g n cap _ (hown.alloc _) ⟨w0.heap.size, 0, none⟩ 1 1 [.int .i64 a, .int .i64 b, .int .i64 c] rfl (by
    intro j u hj
    match j, hj with
    | 0, hj => simp at hj; subst hj; simp [Addr.add]
    | 1, hj => simp at hj; subst hj; simp [Addr.add]
    | 2, hj => simp at hj; subst hj; simp [Addr.add]) (by
    intro u hu
    simp at hu
    rcases hu with rfl | rfl | rfl <;> rfl) (by unfold maxLen; omega) (by omega) (by simp; omega)
  unfold Oper.wp execOp
  simp only [ho, resolve, invoke, builtin, Sem.run_bind, Sem.run_pure, Result.andThen_ok, List.map_toArray, List.map_cons, List.map_nil, hs, hx, hr]
  refine h v' w' (by rw [List.map_append]; exact h2) h3 (fun j hj => h4 j _ ?_)
  rw [List.getElem?_map]
  simp [List.getD, List.getElem?_eq_getElem hj]
end Go.Proofs.Ytgecoiakhmnilab
/-
  Plain facts on the document's row in the end.
-/
namespace Go.Proofs.Ytgecoiakhmnilab
namespace Hf

theorem doc_up (cs : List Int) (hc : ∀ k, 0 ≤ cs.getD k 0 ∧ cs.getD k 0 ≤ 1073741824) (q : Nat) (hq : q < (srt cs).length + ((srt cs).length - 1)) :
    (endD cs).I.getD q 0 = -1 ∨ ((q : Int) < (endD cs).I.getD q 0 ∧ (endD cs).I.getD q 0 < (((srt cs).length + ((srt cs).length - 1) : Nat) : Int)) := by
  have hR := end_rd cs hc (by omega)
  obtain ⟨C, hI, _, hf⟩ := doc_state cs hc ((srt cs).length - 1) (by omega)
  obtain ⟨j, e, h1, h2⟩ := hf.sur' q
  have hj : j < (srt cs).length + ((srt cs).length - 1) := by
    by_cases c : q < (srt cs).length
    · have := h1 c; omega
    · have := h2 (by omega); omega
  by_cases c : j < (treeT (wsOf cs (srt cs)) ((srt cs).length - 1)).l ∨ ((srt cs).length ≤ j ∧ j < (treeT (wsOf cs (srt cs)) ((srt cs).length - 1)).p)
  · have e1 := hR.taken j c
    have e2 := hR.par j c
    have e3 := hI.par j c
    rw [e] at e1
    right
    by_cases c2 : q < (srt cs).length
    · omega
    · have := h2 (by omega); omega
  · have e1 := hR.free j (by omega)
    rw [e] at e1
    exact Or.inl e1
theorem chn_neg (I : List Int) (f : Nat) (q : Int) (h : q < 0) : chn I f q = 0 := by
  cases f with
  | zero => rfl
  | succ f => rw [chn, if_neg (by omega)]
theorem docB_getD (cs : List Int) (p : Nat) (hp : p < (srt cs).length) : (docB cs).getD p 0 = max (chn (endD cs).I (2 * (srt cs).length) ((endD cs).I.getD p 0)) 1 := by
  unfold docB; simp [List.getD, hp]
theorem end_len (cs : List Int) (hc : ∀ k, 0 ≤ cs.getD k 0 ∧ cs.getD k 0 ≤ 1073741824) : (endD cs).W.length = (srt cs).length + ((srt cs).length - 1) ∧ (endD cs).I.length = (srt cs).length + ((srt cs).length - 1) := by
  by_cases h : 1 ≤ (srt cs).length
  · exact ⟨(end_rd cs hc h).lw, (end_rd cs hc h).li⟩
  · have h0 : (srt cs).length = 0 := by omega
    have hl := srt_len cs
    have eW : (runD cs 0).W = (nz cs cs.length).map (key cs) := rfl
    have eI : (runD cs 0).I = List.replicate (nz cs cs.length).length (-1) := rfl
    unfold endD
    rw [h0]
    exact ⟨by rw [show (0 : Nat) - 1 = 0 from rfl, eW, List.length_map]; omega, by rw [show (0 : Nat) - 1 = 0 from rfl, eI, List.length_replicate]; omega⟩
end Hf
end Go.Proofs.Ytgecoiakhmnilab
