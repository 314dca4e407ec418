/-
  The contracts of the document's Deep and Lengths.
-/
import Derived.Test.YtgecoiakhmnilaaDepR
import Derived.Test.YtgecoiakhmnilaaLenAny
namespace Go.Proofs.Ytgecoiakhmnilaa
open Go.RowKit Hf

set_option maxHeartbeats 800000 in
theorem deep_ref (a : Option Addr) (cap : Nat) (cs : List Int) (w : World) (hr : Ri w .i64 a cap cs) :
    Calls Try.prog 33 #[.slice a cs.length cap] w fun e w' => e = .returned (.bool (cs.any deepC)) ∧ w' = w := by
  have HR := hid hr
  have hmax := hr.most
  have hroom := hr.room
  unfold maxLen at hmax
  obtain ⟨len, hl⟩ : ∃ n, n = cs.length := ⟨_, rfl⟩
  have HL := hid hl
  rw [← hl] at hroom ⊢
  clear hr hl
  go_enter Try.func33, Try.ntmps33
  go_wp2
  go_loop [3] (fun i => ∃ k : Nat, k ≤ len ∧ i = .int .i64 k ∧ Hid (∀ j, j < k → ¬ 15 < cs.getD j 0)) (fun i => len - (intOf i).toNat)
  case atStart => exact ⟨0, by omega, rfl, fun j hj => absurd hj (by omega)⟩
  case round =>
    obtain ⟨k, hk, rfl, HA⟩ := hrel
    by_cases hlt : k < len
    · have hkl : (k : Int) < (len : Int) := by omega
      have HZ : Hid (k < cs.length) := by show _ < _; rw [← HL.out]; exact hlt
      obtain ⟨b, off, rfl, hbw, hc⟩ := (HR.out).cells (by rw [← HL.out]; omega)
      have ck := hc k HZ.out
      clear hc
      have HB : Hid (15 < cs.getD k 0 → cs.any deepC = true) := fun h => by
        rw [List.any_eq_true]
        exact ⟨_, getD_in k HZ.out, by unfold deepC; rw [decide_eq_true_eq]; exact h⟩
      have HA2 : Hid (¬ 15 < cs.getD k 0 → ∀ j, j < k + 1 → ¬ 15 < cs.getD j 0) := fun hn j hj => by
        by_cases e : j = k
        · subst e; exact hn
        · exact HA.out j (by omega)
      generalize cs.getD k 0 = z at *
      by_cases h2 : 15 < z
      · have E := hid (HB.out h2)
        go_wp2
        go_ret
        exact ⟨by rw [E.out]; rfl, rfl⟩
      · have HA3 := hid (HA2.out h2)
        go_wp2
        exact ⟨⟨k + 1, by omega, by go_num, HA3⟩, by simp [intOf]; omega⟩
    · obtain rfl : k = len := by omega
      have E : Hid (cs.any deepC = false) := by
        show _ = _
        rw [List.any_eq_false]
        intro z hz
        obtain ⟨p, hp, e⟩ := mem_getD hz
        unfold deepC
        rw [decide_eq_true_eq, ← e]
        exact HA.out p (by rw [HL.out]; exact hp)
      go_wp2
      go_ret
      exact ⟨by rw [E.out]; rfl, rfl⟩

theorem lenr_no (a : Option Addr) (cap : Nat) (cs : List Int) (w : World) (hr : Ri w .i64 a cap cs) (hc : areC cs = false) :
    Calls Try.prog 11 #[.slice a cs.length cap] w fun e w' => e = .returned (.tuple #[.slice none 0 0, .int .i64 50]) ∧ w' = w := by
  have HA := hid (counted_ref a cap cs w hr)
  rw [hc] at HA
  clear hr hc
  generalize cs.length = len at *
  go_enter Try.func11, Try.ntmps11
  go_wp2_with fail
  refine HA.out.mono ?_
  rintro _ w1 ⟨rfl, hw⟩
  obtain rfl := hw.symm
  clear hw
  go_wp2
  go_ret2
  exact ⟨rfl, rfl⟩

/-- The numbers of a row in memory, by its slice. -/
def rowS (w : World) : Value → List Int
  | .slice (some a) n _ => (List.range n).map (fun j => match w.cell? ⟨a.block, a.off + j, none⟩ with | some (.int _ x) => x | _ => 0)
  | _ => []
theorem rowS_ri {w : World} {a : Option Addr} {c : Nat} {X : List Int} (h : Ri w .i64 a c X) : rowS w (.slice a X.length c) = X := by
  by_cases h0 : 0 < X.length
  · obtain ⟨b, off, rfl, _, hc⟩ := h.cells h0
    refine li_ext (by simp [rowS]) (fun i hi => ?_)
    have hin : i < X.length := by simpa [rowS] using hi
    have := hc i hin
    simp [rowS, List.getD, hin] at this ⊢
    simp [this]
  · have : X = [] := List.length_eq_zero_iff.1 (by omega)
    subst this
    cases a <;> simp [rowS]
/-- The first p numbers, halved. -/
def halfL (X : List Int) (p : Nat) : List Int := (X.take p).map flatC
theorem halfL_succ (X : List Int) (p : Nat) (h : p < X.length) : halfL X (p + 1) = halfL X p ++ [flatC (X.getD p 0)] := by
  unfold halfL
  rw [take_snoc X p h, List.map_append]
  rfl
theorem halfL_length (X : List Int) (p : Nat) (h : p ≤ X.length) : (halfL X p).length = p := by simp [halfL]; omega
theorem halfL_all (X : List Int) : halfL X X.length = X.map flatC := by simp [halfL]

set_option maxHeartbeats 1600000 in
theorem lenr_yes (a : Option Addr) (cap : Nat) (cs : List Int) (w : World) (hr : Ri w .i64 a cap cs) (hc : areC cs = true) (h60 : cs.length ≤ 60) :
    Calls Try.prog 11 #[.slice a cs.length cap] w fun e w' => ∃ k a2 c2, e = .returned (.tuple #[.slice a2 cs.length c2, .int .i64 0]) ∧ (∀ j, j < k → (depthsL (flats cs j)).any deepC = true) ∧ (depthsL (flats cs k)).any deepC = false ∧ Ri w' .i64 a2 c2 (depthsL (flats cs k)) ∧ Below w.heap.size w w' := by
  have hcr := areC_rng hc
  obtain ⟨i0, hi, hz0, hz1, hz2⟩ := info_parts Try.info3'
  have HA := hid (counted_ref a cap cs w hr)
  rw [hc] at HA
  have HFL : Hid (∀ k, (flats cs k).length = cs.length) := fun k => flats_length cs k
  have HDL : Hid (∀ k, (depthsL (flats cs k)).length = cs.length) := fun k => by rw [dep_long, flats_length]
  have HD : Hid (∀ (k : Nat) (W : World) (a1 : Option Addr) (c1 : Nat), Ri W .i64 a1 c1 (flats cs k) → Calls Try.prog 32 #[.slice a1 cs.length c1] W fun e w' => ∃ a2 c2, e = .returned (.slice a2 cs.length c2) ∧ Ri w' .i64 a2 c2 (depthsL (flats cs k)) ∧ Below W.heap.size W w') := by
    intro k W a1 c1 hr1
    have h := depths_ref a1 c1 (flats cs k) W hr1 (by rw [flats_length]; omega) (flats_rng hcr.2 k)
    rw [doc_eq _ (flats_rng hcr.2 k), flats_length] at h
    refine h.mono ?_
    rintro _ w' ⟨v, rfl, ho, hb⟩
    rw [← HDL.out k] at ho
    obtain ⟨a2, c2, rfl, hr2⟩ := Ri.own ho (fun j => by have := dep_top (flats cs k) (by rw [flats_length]; omega) (flats_rng hcr.2 k) j; exact wf_mk_i64 (by omega) (by omega))
    exact ⟨a2, c2, by rw [HDL.out k], hr2, hb⟩
  have HX : Hid (∀ (k : Nat) (W : World) (a2 : Option Addr) (c2 : Nat), Ri W .i64 a2 c2 (depthsL (flats cs k)) → Calls Try.prog 33 #[.slice a2 cs.length c2] W fun e w' => e = .returned (.bool ((depthsL (flats cs k)).any deepC)) ∧ w' = W) := fun k W a2 c2 h2 => by
    have h := deep_ref a2 c2 (depthsL (flats cs k)) W h2
    rwa [HDL.out k] at h
  have HRG := hid (fun k => flats_rng hcr.2 k)
  have HLS : Hid (∀ k, (depthsL (flats cs k)).any deepC = true → (flats cs (k + 1)).sum.toNat < (flats cs k).sum.toNat) := fun k => flats_less h60 hcr.2 k
  have HR := hid hr
  clear hr hc hcr
  obtain ⟨len, hl⟩ : ∃ n, n = cs.length := ⟨_, rfl⟩
  rw [← hl] at HA HD HX HDL HFL h60 ⊢
  clear hl
  have HD0 := hid (HD.out 0 w a cap HR.out)
  go_enter Try.func11, Try.ntmps11
  go_wp2_with fail
  refine HA.out.mono ?_
  rintro _ w1 ⟨rfl, hw⟩
  obtain rfl := hw.symm
  clear hw HA
  go_wp2_with fail
  refine HD0.out.mono ?_
  rintro _ w2 ⟨a2, c2, rfl, hr2, hb2⟩
  have HR2 := hid hr2
  have HB2 := hid hb2
  have HR0 := hid (HR.out.later hb2)
  clear hr2 hb2 HD0 HR
  go_wp2_with fail
  go_loopw [0, 4] (fun x y wr => ∃ (k : Nat) (a1 : Option Addr) (c1 : Nat) (a2 : Option Addr) (c2 : Nat), x = .slice a1 len c1 ∧ y = .slice a2 len c2 ∧ Hid (∀ j, j < k → (depthsL (flats cs j)).any deepC = true) ∧ Hid (Ri wr .i64 a1 c1 (flats cs k)) ∧ Hid (Ri wr .i64 a2 c2 (depthsL (flats cs k))) ∧ Hid (Below w.heap.size w wr)) (fun x _ wr => (rowS wr x).sum.toNat)
  case atStart => exact ⟨0, a, cap, a2, c2, rfl, rfl, fun j hj => by omega, HR0, HR2, HB2⟩
  case round =>
    clear HR0 HR2 HB2
    obtain ⟨k, a1, c1, a3, c3, rfl, rfl, HK, HRK, HRD, HB⟩ := hrel
    have HXK := hid (HX.out k wr a3 c3 HRD.out)
    have HM : Hid (rowS wr (.slice a1 len c1) = flats cs k) := by
      have h := rowS_ri HRK.out
      rw [HFL.out k] at h
      exact h
    cases hdk : (depthsL (flats cs k)).any deepC with
    | true =>
      rw [hdk] at HXK
      have HK2 : Hid (∀ j, j < k + 1 → (depthsL (flats cs j)).any deepC = true) := fun j hj => by
        by_cases e : j = k
        · rw [e]; exact hdk
        · exact HK.out j (by omega)
      have HLT := hid (HLS.out k hdk)
      clear hdk HK
      go_wp2_with fail
      refine HXK.out.mono ?_
      rintro _ w3 ⟨rfl, hw⟩
      obtain rfl := hw
      clear HXK
      go_wp2_with fail
      go_loopw [5, 6] (fun v y wq => ∃ p : Nat, p ≤ len ∧ y = .int .i64 p ∧ Hid (wq.ownsRow w3.heap.size 3 1 v (halfL (flats cs k) p).length ((halfL (flats cs k) p).map (Value.int .i64))) ∧ Hid (Below w3.heap.size w3 wq)) (fun _ y _ => len - (intOf y).toNat)
      case atStart => exact ⟨0, by omega, rfl, World.ownsRow_nil _ _ _ _, Below.refl _ _⟩
      case round =>
        obtain ⟨p, hp, rfl, HOW, HBQ⟩ := hrel
        have hsz : w3.heap.size ≤ wr.heap.size := HBQ.out.size
        have HHL : Hid ((halfL (flats cs k) p).length = p) := halfL_length _ _ (by rw [HFL.out]; exact hp)
        by_cases hlt : p < len
        · have hkl : (p : Int) < (len : Int) := by omega
          have K1 : Hid (p < (flats cs k).length) := by show _ < _; rw [HFL.out]; exact hlt
          obtain ⟨b, off, rfl, hbw, hcl⟩ := (HRK.out).cells (by rw [HFL.out]; omega)
          have ck : wr.cell? ⟨b, off + p, none⟩ = some (.int .i64 ((flats cs k).getD p 0)) := (HBQ.out.cell (p := ⟨b, off + p, none⟩) hbw).trans (hcl p K1.out)
          clear hcl
          have hrg := HRG.out k p
          have HN2 := hid (halfL_succ (flats cs k) p K1.out)
          generalize (flats cs k).getD p 0 = c at *
          by_cases hc0 : c = 0
          · subst hc0
            have ef : flatC 0 = 0 := rfl
            rw [ef] at HN2
            clear ef
            go_wp2_with (at_builtin; refine wpList_append_own _ rfl _ _ 22 rfl w3.heap.size 3 i0 (.int .i64 0) 1 8 Try.underlying22 hi hz0 hz1 hz2 rfl (by decide) _ _ _ rfl (HOW.out.alloc _) ⟨wr.heap.size, 0, none⟩ 1 1 [.int .i64 0] rfl rfl ?c1 ?c2 ?c3 ?c4 ?c5 ?_)
            case c1 =>
              intro j u hj
              match j, hj with
              | 0, hj => simp at hj; subst hj; simp [Addr.add]
            case c2 => intro u hu; simp at hu; subst hu; rfl
            case c3 => unfold maxLen; have := HHL.out; omega
            case c4 => have := HHL.out; omega
            case c5 => simp; omega
            intro v1 w5 hown0 hgrow _
            have HB1 := hid ((HBQ.out.alloc hsz _).grown hgrow (by simp; omega) (fun j hj => (HOW.out.lt j hj).1))
            have HO1 : Hid (w5.ownsRow w3.heap.size 3 1 v1 (halfL (flats cs k) (p + 1)).length ((halfL (flats cs k) (p + 1)).map (Value.int .i64))) := by
              show World.ownsRow _ _ _ _ _ _ _
              rw [HN2.out]; simpa using hown0
            clear hown0 hgrow ck HOW HBQ HN2
            go_wp2
            exact ⟨⟨p + 1, by omega, by go_num, HO1, HB1⟩, by simp [intOf]; omega⟩
          · obtain ⟨cn, rfl⟩ : ∃ cn : Nat, c = (cn : Int) := ⟨c.toNat, by omega⟩
            obtain ⟨q, hq⟩ : ∃ q : Nat, (cn : Int) / 2 = (q : Int) := ⟨cn / 2, by omega⟩
            have ef : flatC (cn : Int) = (q : Int) + 1 := by unfold flatC; rw [if_pos (by omega), hq]
            rw [ef] at HN2
            have hqb : q ≤ 1073741824 := by omega
            have htd : (cn : Int).tdiv 2 = (q : Int) := by rw [Int.tdiv_eq_ediv_of_nonneg (by omega)]; exact hq
            have hcn : ((cn : Int) != 0) = true := by simp; omega
            clear hq ef hc0
            go_wp2_with (at_builtin; refine wpList_append_own _ rfl _ _ 22 rfl w3.heap.size 3 i0 (.int .i64 0) 1 8 Try.underlying22 hi hz0 hz1 hz2 rfl (by decide) _ _ _ rfl (HOW.out.alloc _) ⟨wr.heap.size, 0, none⟩ 1 1 [.int .i64 ((q : Int) + 1)] rfl rfl ?c1 ?c2 ?c3 ?c4 ?c5 ?_)
            case c1 =>
              intro j u hj
              match j, hj with
              | 0, hj => simp at hj; subst hj; simp [Addr.add]
            case c2 => intro u hu; simp at hu; subst hu; rfl
            case c3 => unfold maxLen; have := HHL.out; omega
            case c4 => have := HHL.out; omega
            case c5 => simp; omega
            intro v1 w5 hown0 hgrow _
            have HB1 := hid ((HBQ.out.alloc hsz _).grown hgrow (by simp; omega) (fun j hj => (HOW.out.lt j hj).1))
            have HO1 : Hid (w5.ownsRow w3.heap.size 3 1 v1 (halfL (flats cs k) (p + 1)).length ((halfL (flats cs k) (p + 1)).map (Value.int .i64))) := by
              show World.ownsRow _ _ _ _ _ _ _
              rw [HN2.out]; simpa using hown0
            clear hown0 hgrow ck HOW HBQ HN2
            go_wp2
            exact ⟨⟨p + 1, by omega, by go_num, HO1, HB1⟩, by simp [intOf]; omega⟩
        · have hkl : ¬ (p : Int) < (len : Int) := by omega
          have HFK : Hid (halfL (flats cs k) p = flats cs (k + 1)) := by
            show _ = _
            rw [show p = (flats cs k).length from by rw [HFL.out]; omega, halfL_all]; rfl
          have ho := HOW.out
          rw [HFK.out] at ho
          obtain ⟨a5, c5, e5, hr5⟩ := Ri.own ho (fun j => by have := HRG.out (k + 1) j; exact wf_mk_i64 (by omega) (by omega))
          rw [HFL.out] at e5
          subst e5
          have HR5 := hid hr5
          have HD5 := hid (HD.out (k + 1) wr a5 c5 hr5)
          clear ho hr5 HOW HFK
          go_wp2_with fail
          refine HD5.out.mono ?_
          rintro _ w6 ⟨a6, c6, rfl, hr6, hb6⟩
          have HR6 := hid hr6
          have HR7 := hid (HR5.out.later hb6)
          have HB6 := hid (Bn HB.out (Bn HBQ.out hb6))
          have HM6 : Hid (rowS w6 (.slice a5 len c5) = flats cs (k + 1)) := by
            have h := rowS_ri HR7.out
            rw [HFL.out] at h
            exact h
          clear hr6 hb6 HD5 HR5
          go_wp2
          exact ⟨⟨k + 1, a5, c5, a6, c6, rfl, rfl, HK2, HR7, HR6, HB6⟩, by rw [HM.out, HM6.out]; exact HLT.out⟩
    | false =>
      rw [hdk] at HXK
      have HDK := hid hdk
      clear hdk
      go_wp2_with fail
      refine HXK.out.mono ?_
      rintro _ w3 ⟨rfl, hw⟩
      obtain rfl := hw.symm
      clear hw HXK
      go_wp2
      go_ret2
      exact ⟨k, a3, c3, rfl, HK.out, HDK.out, HRD.out, HB.out⟩
end Go.Proofs.Ytgecoiakhmnilaa
