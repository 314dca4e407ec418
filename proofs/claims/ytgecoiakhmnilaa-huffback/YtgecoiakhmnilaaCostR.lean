/-
  The contracts of Cost, the code's and the document's.
-/
import Derived.Test.YtgecoiakhmnilaaCost
namespace Go.Proofs.Ytgecoiakhmnilaa
open Go.RowKit Hf

theorem cost_ref_51 (a : Option Addr) (cap : Nat) (zs : List Int) (b : Option Addr) (cap2 : Nat) (cs : List Int) (w : World) (hr : Ri w .i64 a cap zs) (h : checkB zs = false) :
    Calls Try.prog 19 #[.slice a zs.length cap, .slice b cs.length cap2] w fun e w' => e = .returned (.tuple #[.int .i64 (costV zs cs).1, .int .i64 (costV zs cs).2]) ∧ Below w.heap.size w w' := by
  have HK := hid (check_ref a cap zs w hr)
  have e : checkF zs = 51 := by unfold checkF; rw [h]; rfl
  rw [e] at HK
  rw [costV_51 h]
  clear hr e h
  generalize zs.length = len at *
  generalize cs.length = len2 at *
  go_enter Try.func19, Try.ntmps19
  go_wp2_with fail
  refine HK.out.mono ?_
  rintro _ w1 ⟨rfl, hw⟩
  obtain rfl := hw.symm
  clear hw
  go_wp2
  go_ret2
  exact ⟨rfl, Below.refl _ _⟩

theorem cost_ref_50 (a : Option Addr) (cap : Nat) (zs : List Int) (b : Option Addr) (cap2 : Nat) (cs : List Int) (w : World) (hr : Ri w .i64 a cap zs) (hr2 : Ri w .i64 b cap2 cs) (h : checkB zs = true) (h2 : areC cs = false ∨ cs.length ≠ zs.length) :
    Calls Try.prog 19 #[.slice a zs.length cap, .slice b cs.length cap2] w fun e w' => e = .returned (.tuple #[.int .i64 (costV zs cs).1, .int .i64 (costV zs cs).2]) ∧ Below w.heap.size w w' := by
  have HK := hid (check_ref a cap zs w hr)
  have HA : Hid (∀ W, Below w.heap.size w W → Calls Try.prog 31 #[.slice b cs.length cap2] W fun e w' => e = .returned (.bool (areC cs)) ∧ w' = W) := fun W hW => counted_ref b cap2 cs W (hr2.later hW)
  have e : checkF zs = 0 := by unfold checkF; rw [h]; rfl
  rw [e] at HK
  rw [costV_50 h h2]
  have hmax := hr.most
  have hroom := hr.room
  have hmax2 := hr2.most
  have hroom2 := hr2.room
  unfold maxLen at hmax hmax2
  clear hr hr2 e h
  generalize zs.length = len at *
  generalize cs.length = len2 at *
  generalize areC cs = q at *
  go_enter Try.func19, Try.ntmps19
  go_wp2_with fail
  refine HK.out.mono ?_
  rintro _ w1 ⟨rfl, hw⟩
  obtain rfl := hw.symm
  clear hw
  go_wp2_with fail
  refine (HA.out w (Below.refl _ _)).mono ?_
  rintro _ w2 ⟨rfl, hw⟩
  obtain rfl := hw.symm
  clear hw
  cases q with
  | false =>
    go_wp2
    go_ret2
    exact ⟨rfl, Below.refl _ _⟩
  | true =>
    have hne : len2 ≠ len := by
      rcases h2 with h | h
      · cases h
      · exact h
    have hb : ((len2 : Int) != (len : Int)) = true := by simp; omega
    clear h2
    go_wp2
    go_ret2
    exact ⟨rfl, Below.refl _ _⟩

set_option maxHeartbeats 1600000 in
set_option maxRecDepth 100000 in
theorem cost_ref_go (a : Option Addr) (cap : Nat) (zs : List Int) (b : Option Addr) (cap2 : Nat) (cs : List Int) (w : World) (hr : Ri w .i64 a cap zs) (hr2 : Ri w .i64 b cap2 cs) (h : checkB zs = true) (h2 : areC cs = true) (h3 : cs.length = zs.length) :
    Calls Try.prog 19 #[.slice a zs.length cap, .slice b cs.length cap2] w fun e w' => e = .returned (.tuple #[.int .i64 (costV zs cs).1, .int .i64 (costV zs cs).2]) ∧ Below w.heap.size w w' := by
  have HK := hid (check_ref a cap zs w hr)
  have HA : Hid (∀ W, Below w.heap.size w W → Calls Try.prog 31 #[.slice b cs.length cap2] W fun e w' => e = .returned (.bool (areC cs)) ∧ w' = W) := fun W hW => counted_ref b cap2 cs W (hr2.later hW)
  have e : checkF zs = 0 := by unfold checkF; rw [h]; rfl
  rw [e] at HK
  rw [h2] at HA
  have HV := hid (costV_go h h2 h3)
  have hlen := (len_rng h).1
  have HZ := hid (len_rng h).2
  have HC := hid (areC_rng h2).2
  have HCR := hid (fun k => costS_rng zs cs (areC_rng h2).2 (len_rng h).2 k)
  have HR := hid hr
  have HR2 := hid hr2
  obtain ⟨len, hl⟩ : ∃ n, n = zs.length := ⟨_, rfl⟩
  have HL := hid hl
  have HL2 : Hid (len = cs.length) := by show _ = _; rw [h3]; exact hl
  rw [h3] at HA
  rw [h3, ← hl] at HV
  rw [h3]
  rw [← hl] at hlen HK HA ⊢
  clear hr hr2 e h h2 h3 hl
  have hb00 : ((len : Int) != (len : Int)) = false := by simp
  go_enter Try.func19, Try.ntmps19
  go_wp2_with fail
  refine HK.out.mono ?_
  rintro _ w1 ⟨rfl, hw⟩
  obtain rfl := hw.symm
  clear hw
  go_wp2_with fail
  refine (HA.out w (Below.refl _ _)).mono ?_
  rintro _ w2 ⟨rfl, hw⟩
  obtain rfl := hw.symm
  clear hw
  have HB0 := hid (Below.refl w.heap.size w)
  go_wp2_with fail
  go_loopw [7, 8] (fun s i wr => ∃ k : Nat, k ≤ len ∧ i = .int .i64 k ∧ s = .int .i64 (costS zs cs k) ∧ Below w.heap.size w wr ∧ Hid (∀ j, j < k → ¬ (cs.getD j 0 ≠ 0 ∧ zs.getD j 0 = 0))) (fun _ i _ => len - (intOf i).toNat)
  case atStart => exact ⟨0, by omega, rfl, rfl, HB0.out, fun j hj => absurd hj (by omega)⟩
  case round =>
    clear HB0
    obtain ⟨k, hk, rfl, rfl, hbel, HN⟩ := hrel
    by_cases hlt : k < len
    · have hkl : (k : Int) < (len : Int) := by omega
      have K1 : Hid (k < zs.length) := by show _ < _; rw [← HL.out]; exact hlt
      have K2 : Hid (k < cs.length) := by show _ < _; rw [← HL2.out]; exact hlt
      obtain ⟨g1, o1, rfl, hg1, hc1⟩ := (HR.out).cells (by rw [← HL.out]; omega)
      obtain ⟨g2, o2, rfl, hg2, hc2⟩ := (HR2.out).cells (by rw [← HL2.out]; omega)
      have c1 : wr.cell? ⟨g1, o1 + k, none⟩ = some (.int .i64 (zs.getD k 0)) := (hbel.cell (p := ⟨g1, o1 + k, none⟩) hg1).trans (hc1 k K1.out)
      have c2 : wr.cell? ⟨g2, o2 + k, none⟩ = some (.int .i64 (cs.getD k 0)) := (hbel.cell (p := ⟨g2, o2 + k, none⟩) hg2).trans (hc2 k K2.out)
      clear hc1 hc2
      have hz := HZ.out k
      have hc := HC.out k
      have ht := term_rng hc hz
      have hcr := HCR.out k
      have HX := hid (noCode_hit zs cs k K2.out)
      have HCS : Hid (Value.int .i64 (costS zs cs k + cs.getD k 0 * zs.getD k 0) = Value.int .i64 (costS zs cs (k + 1))) := rfl
      have HA2 : Hid (¬ (cs.getD k 0 ≠ 0 ∧ zs.getD k 0 = 0) → ∀ j, j < k + 1 → ¬ (cs.getD j 0 ≠ 0 ∧ zs.getD j 0 = 0)) := fun hn j hj => by
        by_cases e : j = k
        · subst e; exact hn
        · exact HN.out j (by omega)
      have HB := hid hbel
      clear hbel K1 K2
      generalize cs.getD k 0 = c at *
      generalize zs.getD k 0 = z at *
      generalize hp : c * z = p at *
      generalize costS zs cs k = s at *
      by_cases hc0 : c = 0
      · have hnc : ¬ (c ≠ 0 ∧ z = 0) := fun h => h.1 hc0
        have hpos : ¬ (0 : Int) < c := by omega
        have hb0 : (c != 0) = false := by simp [hc0]
        clear hc0
        go_wp2_with fail
        go_region
        have HB1 := hid HB.out.drew
        generalize wr.drew = W1 at *
        go_wp2
        go_roundw
        case rel => exact ⟨k + 1, by omega, by go_num, HCS.out, HB1.out, HA2.out hnc⟩
        case measure => simp [intOf]; omega
      · have hpos : (0 : Int) < c := by omega
        have hb0 : (c != 0) = true := by simp [hc0]
        by_cases hz0 : z = 0
        · have E := hid (HX.out hc0 hz0)
          have hb1 : (z == 0) = true := by simp [hz0]
          go_wp2
          go_ret2
          exact ⟨by rw [HV.out, E.out]; rfl, HB.out⟩
        · have hnc : ¬ (c ≠ 0 ∧ z = 0) := fun h => hz0 h.2
          have hb1 : (z == 0) = false := by simp [hz0]
          clear hz0 hc0
          go_wp2_with fail
          go_region
          have HB1 := hid HB.out.drew
          generalize wr.drew = W1 at *
          go_wp2
          go_roundw
          case rel => exact ⟨k + 1, by omega, by go_num, HCS.out, HB1.out, HA2.out hnc⟩
          case measure => simp [intOf]; omega
    · obtain rfl : k = len := by omega
      have E := hid (noCode_miss zs cs (fun j hj => HN.out j (by rw [HL2.out]; exact hj)))
      go_wp2
      go_ret2
      exact ⟨by rw [HV.out, E.out]; rfl, hbel⟩

theorem cost_ref (a : Option Addr) (cap : Nat) (zs : List Int) (b : Option Addr) (cap2 : Nat) (cs : List Int) (w : World) (hr : Ri w .i64 a cap zs) (hr2 : Ri w .i64 b cap2 cs) :
    Calls Try.prog 19 #[.slice a zs.length cap, .slice b cs.length cap2] w fun e w' => e = .returned (.tuple #[.int .i64 (costV zs cs).1, .int .i64 (costV zs cs).2]) ∧ Below w.heap.size w w' := by
  cases h : checkB zs with
  | false => exact cost_ref_51 a cap zs b cap2 cs w hr h
  | true =>
    by_cases h2 : areC cs = false ∨ cs.length ≠ zs.length
    · exact cost_ref_50 a cap zs b cap2 cs w hr hr2 h h2
    · refine cost_ref_go a cap zs b cap2 cs w hr hr2 h ?_ ?_
      · cases hq : areC cs with
        | true => rfl
        | false => exact absurd (Or.inl hq) h2
      · exact Classical.not_not.1 (fun hn => h2 (Or.inr hn))

end Go.Proofs.Ytgecoiakhmnilaa
