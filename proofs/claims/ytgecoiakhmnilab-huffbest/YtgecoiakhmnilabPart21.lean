/-
  The contract of huff.Lengths at any counts of at most 60 symbols, nil among them.
-/
import Derived.Test.YtgecoiakhmnilabPart19
import Derived.Test.YtgecoiakhmnilabPart20
import Derived.Test.YtgecoiakhmnilabPart06
import Derived.Test.YtgecoiakhmnilabPart18
import Derived.Test.YtgecoiakhmnilabPart13
namespace Go.Proofs.Ytgecoiakhmnilab
open Go.RowKit Hf

theorem clone_nil (cap : Nat) (w : World) : Calls Try.prog 19 #[.slice none 0 cap] w fun e w' => (∃ c, e = .returned (.slice none 0 c) ∧ c ≤ cap) ∧ w' = w := by
  have q22 : ∀ (w : World) (a : Option Addr) (n c n' c' : Nat), (binOp .eql 22 (.slice a n c) (.slice none n' c')).run Try.prog w = .ok (.bool a.isNone) w := fun w a n c n' c' => Lib.run_eql_slice_nil w _ _ a n c n' c' Try.underlying22
  go_enter Try.func19, Try.ntmps19
  go_wp2
  go_ret
  exact ⟨⟨_, rfl, by omega⟩, rfl⟩

theorem ri_nil (W : World) (c : Nat) (h : c ≤ maxLen) : Ri W .i64 none c [] := ⟨Nat.zero_le _, h, fun h => absurd h (by simp), fun j => by simp; exact wf_zero .i64⟩
theorem dep_nil : depthsL [] = [] := by decide

set_option maxHeartbeats 800000 in
theorem lengths_nil (cap : Nat) (w : World) (hm : cap ≤ maxLen) :
    Calls Try.prog 10 #[.slice none 0 cap] w fun e w' => ∃ a2 c2, e = .returned (.tuple #[.slice a2 0 c2, .int .i64 0]) ∧ c2 ≤ maxLen ∧ Below w.heap.size w w' := by
  have HA := hid (are_word none cap [] w (ri_nil w cap hm))
  rw [show areC [] = true from by decide] at HA
  have HC := hid (clone_nil cap w)
  have HD : Hid (∀ c, c ≤ maxLen → Calls Try.prog 20 #[.slice none 0 c] w fun e w' => ∃ v, e = .returned v ∧ w'.ownsRow w.heap.size 3 1 v 0 [] ∧ Below w.heap.size w w') := fun c hcm => by
    have h := depths_word none c [] w (ri_nil w c hcm) (by simp) (fun k => by simp) (by unfold mostS; simp [nz])
    rw [dep_nil] at h
    exact h
  have HX : Hid (∀ W c a2, Ri W .i64 a2 c [] → Calls Try.prog 21 #[.slice a2 0 c, .func (.func 22) #[] #[]] W fun e w' => e = .returned (.bool false) ∧ w' = W) := fun W c a2 h2 => contains_29 a2 c [] W h2
  have HM := hid hm
  clear hm
  go_enter Try.func10, Try.ntmps10
  go_wp2_with fail
  refine HA.out.mono ?_
  rintro _ w1 ⟨rfl, hw⟩
  obtain rfl := hw.symm
  clear hw
  go_wp2_with fail
  refine HC.out.mono ?_
  rintro _ w1 ⟨⟨c1, rfl, hc1⟩, hw⟩
  obtain rfl := hw.symm
  have HD1 := hid (HD.out c1 (Nat.le_trans hc1 HM.out))
  clear hw hc1 HD HA HC
  go_wp2_with fail
  refine HD1.out.mono ?_
  rintro _ w2 ⟨v2, rfl, ho2, hb2⟩
  obtain ⟨a2, c2, rfl, hr2⟩ := Ri.own (zs := []) (kd := .i64) ho2 (fun j => by simp; exact wf_zero .i64)
  have HX2 := hid (HX.out w2 c2 a2 hr2)
  have HB2 := hid hb2
  have HC2 := hid hr2.most
  clear ho2 hb2 hr2 HD1 HX
  go_wp2
  refine wp_loop_rounds 1 ?_
  rw [rounds_succ]
  go_wp2_with fail
  refine HX2.out.mono ?_
  rintro _ w3 ⟨rfl, hw⟩
  obtain rfl := hw.symm
  clear hw
  go_wp2
  go_ret2
  exact ⟨_, _, rfl, HC2.out, HB2.out⟩

/-- What huff.Lengths leaves. -/
def LenPost (cs : List Int) (w : World) (e : Ending) (w' : World) : Prop :=
  (areC cs = false ∧ e = .returned (.tuple #[.slice none 0 0, .int .i64 50]) ∧ Below w.heap.size w w') ∨
  (areC cs = true ∧ ∃ k a2 c2, e = .returned (.tuple #[.slice a2 cs.length c2, .int .i64 0]) ∧ (∀ j, j < k → (depthsL (flats cs j)).any deepC = true) ∧ (depthsL (flats cs k)).any deepC = false ∧ Ri w' .i64 a2 c2 (depthsL (flats cs k)) ∧ Below w.heap.size w w')

theorem lengths_any (a : Option Addr) (cap : Nat) (cs : List Int) (w : World) (hr : Ri w .i64 a cap cs) (h60 : cs.length ≤ 60) :
    Calls Try.prog 10 #[.slice a cs.length cap] w (LenPost cs w) := by
  cases hc : areC cs with
  | false =>
    refine (lengths_no a cap cs w hr hc).mono ?_
    rintro e w' ⟨he, rfl⟩
    exact Or.inl ⟨hc, he, Below.refl _ _⟩
  | true =>
    have hcr := areC_rng hc
    by_cases h0 : 0 < cs.length
    · obtain ⟨b, off, rfl, _, _⟩ := hr.cells h0
      refine (lengths_all _ cap cs w hr hc h60 h0).mono ?_
      rintro e w' ⟨v, k, he, h1, h2, ho, hb⟩
      have hdl : (depthsL (flats cs k)).length = cs.length := by rw [dep_long, flats_length]
      rw [← hdl] at ho
      obtain ⟨a2, c2, rfl, hr2⟩ := Ri.own ho (fun j => by have := dep_top (flats cs k) (by rw [flats_length]; omega) (flats_rng hcr.2 k) j; exact wf_mk_i64 (by omega) (by omega))
      rw [hdl] at he
      exact Or.inr ⟨hc, k, a2, c2, he, h1, h2, hr2, hb⟩
    · have hnil : cs = [] := List.length_eq_zero_iff.1 (by omega)
      subst hnil
      have hd0 : (depthsL ([] : List Int)).any deepC = false := by rw [dep_nil]; rfl
      cases a with
      | none =>
        refine (lengths_nil cap w hr.most).mono ?_
        rintro e w' ⟨a2, c2, he, hm2, hb⟩
        refine Or.inr ⟨hc, 0, a2, c2, he, fun j hj => by omega, hd0, ?_, hb⟩
        show Ri w' .i64 a2 c2 (depthsL [])
        rw [dep_nil]
        exact ⟨Nat.zero_le _, hm2, fun h => absurd h (by simp), fun j => by simp; exact wf_zero .i64⟩
      | some ad =>
        refine (lengths_flat ad cap [] w hr hc (by unfold mostS; simp [nz]) hd0 (fun j => by rw [dep_nil]; simp; exact wf_zero .i64)).mono ?_
        rintro e w' ⟨v, he, ho, hb⟩
        obtain ⟨a2, c2, rfl, hr2⟩ := Ri.own ho (fun j => by rw [dep_nil]; simp; exact wf_zero .i64)
        exact Or.inr ⟨hc, 0, a2, c2, he, fun j hj => by omega, hd0, hr2, hb⟩
end Go.Proofs.Ytgecoiakhmnilab
/-
  The contracts of the document's Deep and Lengths.
-/
namespace Go.Proofs.Ytgecoiakhmnilab
open Go.RowKit Hf

set_option maxHeartbeats 800000 in
theorem deep_ref (a : Option Addr) (cap : Nat) (cs : List Int) (w : World) (hr : Ri w .i64 a cap cs) :
    Calls Try.prog 7 #[.slice a cs.length cap] w fun e w' => e = .returned (.bool (cs.any deepC)) ∧ w' = w := by
  have HR := hid hr
  have hmax := hr.most
  have hroom := hr.room
  unfold maxLen at hmax
  obtain ⟨len, hl⟩ : ∃ n, n = cs.length := ⟨_, rfl⟩
  have HL := hid hl
  rw [← hl] at hroom ⊢
  clear hr hl
  go_enter Try.func7, Try.ntmps7
  go_wp2
  go_loop [3] (fun i => ∃ k : Nat, k ≤ len ∧ i = .int .i64 k ∧ Hid (∀ j, j < k → ¬ 15 < cs.getD j 0)) (fun i => len - (intOf i).toNat)
  case atStart => exact ⟨0, by omega, rfl, fun j hj => absurd hj (by omega)⟩
  case round =>
    obtain ⟨k, hk, rfl, HA⟩ := hrel
    by_cases hlt : k < len
    · have hkl : (k : Int) < (len : Int) := by omega
      have HZ : Hid (k < cs.length) := by show _ < _; rw [← HL.out]; exact hlt
      obtain ⟨b, off, rfl, hbw, hc⟩ := (HR.out).cells (by rw [← HL.out]; omega)
      have ck := hc k HZ.out
      clear hc
      have HB : Hid (15 < cs.getD k 0 → cs.any deepC = true) := fun h => by
        rw [List.any_eq_true]
        exact ⟨_, getD_in k HZ.out, by unfold deepC; rw [decide_eq_true_eq]; exact h⟩
      have HA2 : Hid (¬ 15 < cs.getD k 0 → ∀ j, j < k + 1 → ¬ 15 < cs.getD j 0) := fun hn j hj => by
        by_cases e : j = k
        · subst e; exact hn
        · exact HA.out j (by omega)
      generalize cs.getD k 0 = z at *
      by_cases h2 : 15 < z
      · have E := hid (HB.out h2)
        go_wp2
        go_ret
        exact ⟨by rw [E.out]; rfl, rfl⟩
      · have HA3 := hid (HA2.out h2)
        go_wp2
        exact ⟨⟨k + 1, by omega, by go_num, HA3⟩, by simp [intOf]; omega⟩
    · obtain rfl : k = len := by omega
      have E : Hid (cs.any deepC = false) := by
        show _ = _
        rw [List.any_eq_false]
        intro z hz
        obtain ⟨p, hp, e⟩ := mem_getD hz
        unfold deepC
        rw [decide_eq_true_eq, ← e]
        exact HA.out p (by rw [HL.out]; exact hp)
      go_wp2
      go_ret
      exact ⟨by rw [E.out]; rfl, rfl⟩

/-- The numbers of a row in memory, by its slice. -/
def rowS (w : World) : Value → List Int
  | .slice (some a) n _ => (List.range n).map (fun j => match w.cell? ⟨a.block, a.off + j, none⟩ with | some (.int _ x) => x | _ => 0)
  | _ => []
theorem rowS_ri {w : World} {a : Option Addr} {c : Nat} {X : List Int} (h : Ri w .i64 a c X) : rowS w (.slice a X.length c) = X := by
  by_cases h0 : 0 < X.length
  · obtain ⟨b, off, rfl, _, hc⟩ := h.cells h0
    refine li_ext (by simp [rowS]) (fun i hi => ?_)
    have hin : i < X.length := by simpa [rowS] using hi
    have := hc i hin
    simp [rowS, List.getD, hin] at this ⊢
    simp [this]
  · have : X = [] := List.length_eq_zero_iff.1 (by omega)
    subst this
    cases a <;> simp [rowS]
/-- The first p numbers, halved. -/
def halfL (X : List Int) (p : Nat) : List Int := (X.take p).map flatC
theorem halfL_succ (X : List Int) (p : Nat) (h : p < X.length) : halfL X (p + 1) = halfL X p ++ [flatC (X.getD p 0)] := by
  unfold halfL
  rw [take_snoc X p h, List.map_append]
  rfl
theorem halfL_length (X : List Int) (p : Nat) (h : p ≤ X.length) : (halfL X p).length = p := by simp [halfL]; omega
theorem halfL_all (X : List Int) : halfL X X.length = X.map flatC := by simp [halfL]

end Go.Proofs.Ytgecoiakhmnilab
/-
  The contracts of Cost, the code's and the document's.
-/
namespace Go.Proofs.Ytgecoiakhmnilab
open Go.RowKit Hf

theorem cost_word_51 (a : Option Addr) (cap : Nat) (zs : List Int) (b : Option Addr) (cap2 : Nat) (cs : List Int) (w : World) (hr : Ri w .i64 a cap zs) (h : checkB zs = false) :
    Calls Try.prog 11 #[.slice a zs.length cap, .slice b cs.length cap2] w fun e w' => e = .returned (.tuple #[.int .i64 (costV zs cs).1, .int .i64 (costV zs cs).2]) ∧ Below w.heap.size w w' := by
  have HK := hid (check_word a cap zs w hr)
  have e : checkF zs = 51 := by unfold checkF; rw [h]; rfl
  rw [e] at HK
  rw [costV_51 h]
  clear hr e h
  generalize zs.length = len at *
  generalize cs.length = len2 at *
  go_enter Try.func11, Try.ntmps11
  go_wp2_with fail
  refine HK.out.mono ?_
  rintro _ w1 ⟨rfl, hb1⟩
  go_wp2
  go_ret2
  exact ⟨rfl, hb1⟩

theorem cost_word_50 (a : Option Addr) (cap : Nat) (zs : List Int) (b : Option Addr) (cap2 : Nat) (cs : List Int) (w : World) (hr : Ri w .i64 a cap zs) (hr2 : Ri w .i64 b cap2 cs) (h : checkB zs = true) (h2 : areC cs = false ∨ cs.length ≠ zs.length) :
    Calls Try.prog 11 #[.slice a zs.length cap, .slice b cs.length cap2] w fun e w' => e = .returned (.tuple #[.int .i64 (costV zs cs).1, .int .i64 (costV zs cs).2]) ∧ Below w.heap.size w w' := by
  have HK := hid (check_word a cap zs w hr)
  have HA : Hid (∀ W, Below w.heap.size w W → Calls Try.prog 18 #[.slice b cs.length cap2] W fun e w' => e = .returned (.bool (areC cs)) ∧ w' = W) := fun W hW => are_word b cap2 cs W (hr2.later hW)
  have e : checkF zs = 0 := by unfold checkF; rw [h]; rfl
  rw [e] at HK
  rw [costV_50 h h2]
  have hmax := hr.most
  have hroom := hr.room
  have hmax2 := hr2.most
  have hroom2 := hr2.room
  unfold maxLen at hmax hmax2
  clear hr hr2 e h
  generalize zs.length = len at *
  generalize cs.length = len2 at *
  generalize areC cs = q at *
  go_enter Try.func11, Try.ntmps11
  go_wp2_with fail
  refine HK.out.mono ?_
  rintro _ w1 ⟨rfl, hb1⟩
  go_wp2_with fail
  refine (HA.out w1 hb1).mono ?_
  rintro _ w2 ⟨rfl, hw⟩
  obtain rfl := hw.symm
  clear hw
  cases q with
  | false =>
    go_wp2
    go_ret2
    exact ⟨rfl, hb1⟩
  | true =>
    have hne : len2 ≠ len := by
      rcases h2 with h | h
      · cases h
      · exact h
    have hb : ((len2 : Int) != (len : Int)) = true := by simp; omega
    clear h2
    go_wp2
    go_ret2
    exact ⟨rfl, hb1⟩

set_option maxHeartbeats 1600000 in
set_option maxRecDepth 100000 in
theorem cost_word_go (a : Option Addr) (cap : Nat) (zs : List Int) (b : Option Addr) (cap2 : Nat) (cs : List Int) (w : World) (hr : Ri w .i64 a cap zs) (hr2 : Ri w .i64 b cap2 cs) (h : checkB zs = true) (h2 : areC cs = true) (h3 : cs.length = zs.length) :
    Calls Try.prog 11 #[.slice a zs.length cap, .slice b cs.length cap2] w fun e w' => e = .returned (.tuple #[.int .i64 (costV zs cs).1, .int .i64 (costV zs cs).2]) ∧ Below w.heap.size w w' := by
  have HK := hid (check_word a cap zs w hr)
  have HA : Hid (∀ W, Below w.heap.size w W → Calls Try.prog 18 #[.slice b cs.length cap2] W fun e w' => e = .returned (.bool (areC cs)) ∧ w' = W) := fun W hW => are_word b cap2 cs W (hr2.later hW)
  have e : checkF zs = 0 := by unfold checkF; rw [h]; rfl
  rw [e] at HK
  rw [h2] at HA
  have HV := hid (costV_go h h2 h3)
  have hlen := (len_rng h).1
  have HZ := hid (len_rng h).2
  have HC := hid (areC_rng h2).2
  have HCR := hid (fun k => costS_rng zs cs (areC_rng h2).2 (len_rng h).2 k)
  have HR := hid hr
  have HR2 := hid hr2
  obtain ⟨len, hl⟩ : ∃ n, n = zs.length := ⟨_, rfl⟩
  have HL := hid hl
  have HL2 : Hid (len = cs.length) := by show _ = _; rw [h3]; exact hl
  rw [h3] at HA
  rw [h3, ← hl] at HV
  rw [h3]
  rw [← hl] at hlen HK HA ⊢
  clear hr hr2 e h h2 h3 hl
  have hb00 : ((len : Int) != (len : Int)) = false := by simp
  go_enter Try.func11, Try.ntmps11
  go_wp2_with fail
  refine HK.out.mono ?_
  rintro _ w1 ⟨rfl, hb1⟩
  go_wp2_with fail
  refine (HA.out w1 hb1).mono ?_
  rintro _ w2 ⟨rfl, hw⟩
  obtain rfl := hw.symm
  clear hw
  have HB0 := hid hb1
  go_wp2_with fail
  go_loopw [7, 27] (fun s i wr => ∃ k : Nat, k ≤ len ∧ i = .int .i64 k ∧ s = .int .i64 (costS zs cs k) ∧ Below w.heap.size w wr ∧ Hid (∀ j, j < k → ¬ (cs.getD j 0 ≠ 0 ∧ zs.getD j 0 = 0))) (fun _ i _ => len - (intOf i).toNat)
  case atStart => exact ⟨0, by omega, rfl, rfl, HB0.out, fun j hj => absurd hj (by omega)⟩
  case round =>
    clear HB0
    obtain ⟨k, hk, rfl, rfl, hbel, HN⟩ := hrel
    by_cases hlt : k < len
    · have hkl : (k : Int) < (len : Int) := by omega
      have K1 : Hid (k < zs.length) := by show _ < _; rw [← HL.out]; exact hlt
      have K2 : Hid (k < cs.length) := by show _ < _; rw [← HL2.out]; exact hlt
      obtain ⟨g1, o1, rfl, hg1, hc1⟩ := (HR.out).cells (by rw [← HL.out]; omega)
      obtain ⟨g2, o2, rfl, hg2, hc2⟩ := (HR2.out).cells (by rw [← HL2.out]; omega)
      have c1 : wr.cell? ⟨g1, o1 + k, none⟩ = some (.int .i64 (zs.getD k 0)) := (hbel.cell (p := ⟨g1, o1 + k, none⟩) hg1).trans (hc1 k K1.out)
      have c2 : wr.cell? ⟨g2, o2 + k, none⟩ = some (.int .i64 (cs.getD k 0)) := (hbel.cell (p := ⟨g2, o2 + k, none⟩) hg2).trans (hc2 k K2.out)
      clear hc1 hc2
      have hz := HZ.out k
      have hc := HC.out k
      have ht := term_rng hc hz
      have hcr := HCR.out k
      have HX := hid (noCode_hit zs cs k K2.out)
      have HCS : Hid (Value.int .i64 (costS zs cs k + cs.getD k 0 * zs.getD k 0) = Value.int .i64 (costS zs cs (k + 1))) := rfl
      have HA2 : Hid (¬ (cs.getD k 0 ≠ 0 ∧ zs.getD k 0 = 0) → ∀ j, j < k + 1 → ¬ (cs.getD j 0 ≠ 0 ∧ zs.getD j 0 = 0)) := fun hn j hj => by
        by_cases e : j = k
        · subst e; exact hn
        · exact HN.out j (by omega)
      have HB := hid hbel
      clear hbel K1 K2
      generalize cs.getD k 0 = c at *
      generalize zs.getD k 0 = z at *
      generalize hp : c * z = p at *
      generalize costS zs cs k = s at *
      by_cases hc0 : c = 0
      · have hnc : ¬ (c ≠ 0 ∧ z = 0) := fun h => h.1 hc0
        have hpos : ¬ (0 : Int) < c := by omega
        have hb0 : (c != 0) = false := by simp [hc0]
        clear hc0
        go_wp2
        go_roundw
        case rel => exact ⟨k + 1, by omega, by go_num, HCS.out, HB.out, HA2.out hnc⟩
        case measure => simp [intOf]; omega
      · have hpos : (0 : Int) < c := by omega
        have hb0 : (c != 0) = true := by simp [hc0]
        by_cases hz0 : z = 0
        · have E := hid (HX.out hc0 hz0)
          have hb1 : (z == 0) = true := by simp [hz0]
          go_wp2
          go_ret2
          exact ⟨by rw [HV.out, E.out]; rfl, HB.out⟩
        · have hnc : ¬ (c ≠ 0 ∧ z = 0) := fun h => hz0 h.2
          have hb1 : (z == 0) = false := by simp [hz0]
          clear hz0 hc0
          go_wp2
          go_roundw
          case rel => exact ⟨k + 1, by omega, by go_num, HCS.out, HB.out, HA2.out hnc⟩
          case measure => simp [intOf]; omega
    · obtain rfl : k = len := by omega
      have E := hid (noCode_miss zs cs (fun j hj => HN.out j (by rw [HL2.out]; exact hj)))
      go_wp2
      go_ret2
      exact ⟨by rw [HV.out, E.out]; rfl, hbel⟩

theorem cost_word (a : Option Addr) (cap : Nat) (zs : List Int) (b : Option Addr) (cap2 : Nat) (cs : List Int) (w : World) (hr : Ri w .i64 a cap zs) (hr2 : Ri w .i64 b cap2 cs) :
    Calls Try.prog 11 #[.slice a zs.length cap, .slice b cs.length cap2] w fun e w' => e = .returned (.tuple #[.int .i64 (costV zs cs).1, .int .i64 (costV zs cs).2]) ∧ Below w.heap.size w w' := by
  cases h : checkB zs with
  | false => exact cost_word_51 a cap zs b cap2 cs w hr h
  | true =>
    by_cases h2 : areC cs = false ∨ cs.length ≠ zs.length
    · exact cost_word_50 a cap zs b cap2 cs w hr hr2 h h2
    · refine cost_word_go a cap zs b cap2 cs w hr hr2 h ?_ ?_
      · cases hq : areC cs with
        | true => rfl
        | false => exact absurd (Or.inl hq) h2
      · exact Classical.not_not.1 (fun hn => h2 (Or.inr hn))

end Go.Proofs.Ytgecoiakhmnilab
/-
  The contracts of Cost, the code's and the document's.
-/
namespace Go.Proofs.Ytgecoiakhmnilab
open Go.RowKit Hf

theorem cost_ref_51 (a : Option Addr) (cap : Nat) (zs : List Int) (b : Option Addr) (cap2 : Nat) (cs : List Int) (w : World) (hr : Ri w .i64 a cap zs) (h : checkB zs = false) :
    Calls Try.prog 12 #[.slice a zs.length cap, .slice b cs.length cap2] w fun e w' => e = .returned (.tuple #[.int .i64 (costV zs cs).1, .int .i64 (costV zs cs).2]) ∧ Below w.heap.size w w' := by
  have HK := hid (check_ref a cap zs w hr)
  have e : checkF zs = 51 := by unfold checkF; rw [h]; rfl
  rw [e] at HK
  rw [costV_51 h]
  clear hr e h
  generalize zs.length = len at *
  generalize cs.length = len2 at *
  go_enter Try.func12, Try.ntmps12
  go_wp2_with fail
  refine HK.out.mono ?_
  rintro _ w1 ⟨rfl, hw⟩
  obtain rfl := hw.symm
  clear hw
  go_wp2
  go_ret2
  exact ⟨rfl, Below.refl _ _⟩

theorem cost_ref_50 (a : Option Addr) (cap : Nat) (zs : List Int) (b : Option Addr) (cap2 : Nat) (cs : List Int) (w : World) (hr : Ri w .i64 a cap zs) (hr2 : Ri w .i64 b cap2 cs) (h : checkB zs = true) (h2 : areC cs = false ∨ cs.length ≠ zs.length) :
    Calls Try.prog 12 #[.slice a zs.length cap, .slice b cs.length cap2] w fun e w' => e = .returned (.tuple #[.int .i64 (costV zs cs).1, .int .i64 (costV zs cs).2]) ∧ Below w.heap.size w w' := by
  have HK := hid (check_ref a cap zs w hr)
  have HA : Hid (∀ W, Below w.heap.size w W → Calls Try.prog 6 #[.slice b cs.length cap2] W fun e w' => e = .returned (.bool (areC cs)) ∧ w' = W) := fun W hW => counted_ref b cap2 cs W (hr2.later hW)
  have e : checkF zs = 0 := by unfold checkF; rw [h]; rfl
  rw [e] at HK
  rw [costV_50 h h2]
  have hmax := hr.most
  have hroom := hr.room
  have hmax2 := hr2.most
  have hroom2 := hr2.room
  unfold maxLen at hmax hmax2
  clear hr hr2 e h
  generalize zs.length = len at *
  generalize cs.length = len2 at *
  generalize areC cs = q at *
  go_enter Try.func12, Try.ntmps12
  go_wp2_with fail
  refine HK.out.mono ?_
  rintro _ w1 ⟨rfl, hw⟩
  obtain rfl := hw.symm
  clear hw
  go_wp2_with fail
  refine (HA.out w (Below.refl _ _)).mono ?_
  rintro _ w2 ⟨rfl, hw⟩
  obtain rfl := hw.symm
  clear hw
  cases q with
  | false =>
    go_wp2
    go_ret2
    exact ⟨rfl, Below.refl _ _⟩
  | true =>
    have hne : len2 ≠ len := by
      rcases h2 with h | h
      · cases h
      · exact h
    have hb : ((len2 : Int) != (len : Int)) = true := by simp; omega
    clear h2
    go_wp2
    go_ret2
    exact ⟨rfl, Below.refl _ _⟩

set_option maxHeartbeats 1600000 in
set_option maxRecDepth 100000 in
theorem cost_ref_go (a : Option Addr) (cap : Nat) (zs : List Int) (b : Option Addr) (cap2 : Nat) (cs : List Int) (w : World) (hr : Ri w .i64 a cap zs) (hr2 : Ri w .i64 b cap2 cs) (h : checkB zs = true) (h2 : areC cs = true) (h3 : cs.length = zs.length) :
    Calls Try.prog 12 #[.slice a zs.length cap, .slice b cs.length cap2] w fun e w' => e = .returned (.tuple #[.int .i64 (costV zs cs).1, .int .i64 (costV zs cs).2]) ∧ Below w.heap.size w w' := by
  have HK := hid (check_ref a cap zs w hr)
  have HA : Hid (∀ W, Below w.heap.size w W → Calls Try.prog 6 #[.slice b cs.length cap2] W fun e w' => e = .returned (.bool (areC cs)) ∧ w' = W) := fun W hW => counted_ref b cap2 cs W (hr2.later hW)
  have e : checkF zs = 0 := by unfold checkF; rw [h]; rfl
  rw [e] at HK
  rw [h2] at HA
  have HV := hid (costV_go h h2 h3)
  have hlen := (len_rng h).1
  have HZ := hid (len_rng h).2
  have HC := hid (areC_rng h2).2
  have HCR := hid (fun k => costS_rng zs cs (areC_rng h2).2 (len_rng h).2 k)
  have HR := hid hr
  have HR2 := hid hr2
  obtain ⟨len, hl⟩ : ∃ n, n = zs.length := ⟨_, rfl⟩
  have HL := hid hl
  have HL2 : Hid (len = cs.length) := by show _ = _; rw [h3]; exact hl
  rw [h3] at HA
  rw [h3, ← hl] at HV
  rw [h3]
  rw [← hl] at hlen HK HA ⊢
  clear hr hr2 e h h2 h3 hl
  have hb00 : ((len : Int) != (len : Int)) = false := by simp
  go_enter Try.func12, Try.ntmps12
  go_wp2_with fail
  refine HK.out.mono ?_
  rintro _ w1 ⟨rfl, hw⟩
  obtain rfl := hw.symm
  clear hw
  go_wp2_with fail
  refine (HA.out w (Below.refl _ _)).mono ?_
  rintro _ w2 ⟨rfl, hw⟩
  obtain rfl := hw.symm
  clear hw
  have HB0 := hid (Below.refl w.heap.size w)
  go_wp2_with fail
  go_loopw [7, 8] (fun s i wr => ∃ k : Nat, k ≤ len ∧ i = .int .i64 k ∧ s = .int .i64 (costS zs cs k) ∧ Below w.heap.size w wr ∧ Hid (∀ j, j < k → ¬ (cs.getD j 0 ≠ 0 ∧ zs.getD j 0 = 0))) (fun _ i _ => len - (intOf i).toNat)
  case atStart => exact ⟨0, by omega, rfl, rfl, HB0.out, fun j hj => absurd hj (by omega)⟩
  case round =>
    clear HB0
    obtain ⟨k, hk, rfl, rfl, hbel, HN⟩ := hrel
    by_cases hlt : k < len
    · have hkl : (k : Int) < (len : Int) := by omega
      have K1 : Hid (k < zs.length) := by show _ < _; rw [← HL.out]; exact hlt
      have K2 : Hid (k < cs.length) := by show _ < _; rw [← HL2.out]; exact hlt
      obtain ⟨g1, o1, rfl, hg1, hc1⟩ := (HR.out).cells (by rw [← HL.out]; omega)
      obtain ⟨g2, o2, rfl, hg2, hc2⟩ := (HR2.out).cells (by rw [← HL2.out]; omega)
      have c1 : wr.cell? ⟨g1, o1 + k, none⟩ = some (.int .i64 (zs.getD k 0)) := (hbel.cell (p := ⟨g1, o1 + k, none⟩) hg1).trans (hc1 k K1.out)
      have c2 : wr.cell? ⟨g2, o2 + k, none⟩ = some (.int .i64 (cs.getD k 0)) := (hbel.cell (p := ⟨g2, o2 + k, none⟩) hg2).trans (hc2 k K2.out)
      clear hc1 hc2
      have hz := HZ.out k
      have hc := HC.out k
      have ht := term_rng hc hz
      have hcr := HCR.out k
      have HX := hid (noCode_hit zs cs k K2.out)
      have HCS : Hid (Value.int .i64 (costS zs cs k + cs.getD k 0 * zs.getD k 0) = Value.int .i64 (costS zs cs (k + 1))) := rfl
      have HA2 : Hid (¬ (cs.getD k 0 ≠ 0 ∧ zs.getD k 0 = 0) → ∀ j, j < k + 1 → ¬ (cs.getD j 0 ≠ 0 ∧ zs.getD j 0 = 0)) := fun hn j hj => by
        by_cases e : j = k
        · subst e; exact hn
        · exact HN.out j (by omega)
      have HB := hid hbel
      clear hbel K1 K2
      generalize cs.getD k 0 = c at *
      generalize zs.getD k 0 = z at *
      generalize hp : c * z = p at *
      generalize costS zs cs k = s at *
      by_cases hc0 : c = 0
      · have hnc : ¬ (c ≠ 0 ∧ z = 0) := fun h => h.1 hc0
        have hpos : ¬ (0 : Int) < c := by omega
        have hb0 : (c != 0) = false := by simp [hc0]
        clear hc0
        go_wp2_with fail
        go_region
        have HB1 := hid HB.out.drew
        generalize wr.drew = W1 at *
        go_wp2
        go_roundw
        case rel => exact ⟨k + 1, by omega, by go_num, HCS.out, HB1.out, HA2.out hnc⟩
        case measure => simp [intOf]; omega
      · have hpos : (0 : Int) < c := by omega
        have hb0 : (c != 0) = true := by simp [hc0]
        by_cases hz0 : z = 0
        · have E := hid (HX.out hc0 hz0)
          have hb1 : (z == 0) = true := by simp [hz0]
          go_wp2
          go_ret2
          exact ⟨by rw [HV.out, E.out]; rfl, HB.out⟩
        · have hnc : ¬ (c ≠ 0 ∧ z = 0) := fun h => hz0 h.2
          have hb1 : (z == 0) = false := by simp [hz0]
          clear hz0 hc0
          go_wp2_with fail
          go_region
          have HB1 := hid HB.out.drew
          generalize wr.drew = W1 at *
          go_wp2
          go_roundw
          case rel => exact ⟨k + 1, by omega, by go_num, HCS.out, HB1.out, HA2.out hnc⟩
          case measure => simp [intOf]; omega
    · obtain rfl : k = len := by omega
      have E := hid (noCode_miss zs cs (fun j hj => HN.out j (by rw [HL2.out]; exact hj)))
      go_wp2
      go_ret2
      exact ⟨by rw [HV.out, E.out]; rfl, hbel⟩

theorem cost_ref (a : Option Addr) (cap : Nat) (zs : List Int) (b : Option Addr) (cap2 : Nat) (cs : List Int) (w : World) (hr : Ri w .i64 a cap zs) (hr2 : Ri w .i64 b cap2 cs) :
    Calls Try.prog 12 #[.slice a zs.length cap, .slice b cs.length cap2] w fun e w' => e = .returned (.tuple #[.int .i64 (costV zs cs).1, .int .i64 (costV zs cs).2]) ∧ Below w.heap.size w w' := by
  cases h : checkB zs with
  | false => exact cost_ref_51 a cap zs b cap2 cs w hr h
  | true =>
    by_cases h2 : areC cs = false ∨ cs.length ≠ zs.length
    · exact cost_ref_50 a cap zs b cap2 cs w hr hr2 h h2
    · refine cost_ref_go a cap zs b cap2 cs w hr hr2 h ?_ ?_
      · cases hq : areC cs with
        | true => rfl
        | false => exact absurd (Or.inl hq) h2
      · exact Classical.not_not.1 (fun hn => h2 (Or.inr hn))

end Go.Proofs.Ytgecoiakhmnilab
/-
  The contracts of the statements' 'same' and 'alive'.
-/
namespace Go.Proofs.Ytgecoiakhmnilab
open Go.RowKit Hf

/-- Bytes as a string, in whatever later world. -/
theorem Ri.text {w : World} {a : Option Addr} {cap : Nat} {zs : List Int} (h : Ri w .u8 a cap zs) (W : World) (hb : Below w.heap.size w W) :
    (convert 45 9 (.slice a zs.length cap)).run Try.prog W = .ok (.string (strOfNums zs)) W := by
  have h' := h.later hb
  by_cases h0 : 0 < zs.length
  · obtain ⟨b, off, rfl, _, hc⟩ := h'.cells h0
    exact run_convert_bytes_arg (P := Try.prog) W 45 5 Try.underlying45 Try.underlying5 b off zs.length cap zs rfl hc 9 Try.underlying9
  · have hz : zs = [] := List.length_eq_zero_iff.1 (by omega)
    subst hz
    rw [run_convert_bytes_string W 45 9 5 a _ cap Try.underlying45 Try.underlying5 Try.underlying9]
    cases a with
    | none => rfl
    | some ad =>
      rw [show ([] : List Int).length = 0 from rfl]
      rw [run_bytesToString W ad 0 cap [] (by simpa using run_loadCells_list (P := Try.prog) W ad [] (by intro j v hj; simp at hj))]
      rfl

/-- Numbers written out as a slice. -/
theorem lit_ri (w : World) (zs : List Int) (n : Nat) (hn : n = zs.length) (hm : n ≤ 1000) (hf : ∀ z ∈ zs, -1000 ≤ z ∧ z ≤ 1000) : Ri (w.alloc (.cells (zs.map (Value.int .i64)).toArray 3)) .i64 (some ⟨w.heap.size, 0, none⟩) n zs := by
  subst hn
  refine ⟨Nat.le_refl _, by unfold maxLen; omega, fun _ => ⟨w.heap.size, 0, rfl, by simp, fun j hj => ?_⟩, fun j => ?_⟩
  · have := World.cell?_alloc_mark w (zs.map (Value.int .i64)).toArray 3 (0, 0) j
    rw [Nat.zero_add]
    refine this.trans ?_
    simp [List.getD, List.getElem?_eq_getElem hj]
  · by_cases hj : j < zs.length
    · have := hf _ (getD_mem zs j hj)
      exact wf_mk_i64 (by omega) (by omega)
    · rw [getD_out _ _ (by omega)]; exact wf_zero _

set_option maxHeartbeats 800000 in
set_option maxRecDepth 100000 in
theorem same_any (a : Option Addr) (cap : Nat) (zs : List Int) (b : Option Addr) (cap2 : Nat) (ys : List Int) (w : World) (hr : Ri w .i64 a cap zs) (hr2 : Ri w .i64 b cap2 ys) :
    Calls Try.prog 17 #[.slice a zs.length cap, .slice b ys.length cap2] w fun e w' => e = .returned (.bool (zs == ys)) ∧ Below w.heap.size w w' := by
  have hm := hr.most
  have hm1 := hr.room
  have hm2 := hr2.most
  have hm3 := hr2.room
  unfold maxLen at hm hm2
  by_cases hl : zs.length = ys.length
  · have HR := hid hr
    have HR2 := hid hr2
    obtain ⟨len, hle⟩ : ∃ n, n = zs.length := ⟨_, rfl⟩
    have HL := hid hle
    have HL2 : Hid (len = ys.length) := by show _ = _; rw [hle]; exact hl
    rw [← hl, ← hle]
    rw [← hle] at hm1
    have hb0 : ((len : Int) != (len : Int)) = false := by simp
    clear hr hr2 hl hle hm3
    go_enter Try.func17, Try.ntmps17
    go_wp2
    go_loopw [5] (fun y wr => ∃ k : Nat, k ≤ len ∧ y = .int .i64 k ∧ Below w.heap.size w wr ∧ Hid (∀ j, j < k → zs.getD j 0 = ys.getD j 0)) (fun y _ => len - (intOf y).toNat)
    case atStart => exact ⟨0, by omega, rfl, Below.refl _ _, fun j hj => absurd hj (by omega)⟩
    case round =>
      obtain ⟨k, hk, rfl, hbel, HA⟩ := hrel
      by_cases hlt : k < len
      · have hkl : (k : Int) < (len : Int) := by omega
        obtain ⟨g1, o1, rfl, hg1, hc1⟩ := (HR.out).cells (by rw [← HL.out]; omega)
        obtain ⟨g2, o2, rfl, hg2, hc2⟩ := (HR2.out).cells (by rw [← HL2.out]; omega)
        have c1 : wr.cell? ⟨g1, o1 + k, none⟩ = some (.int .i64 (zs.getD k 0)) := (hbel.cell (p := ⟨g1, o1 + k, none⟩) hg1).trans (hc1 k (by rw [← HL.out]; exact hlt))
        have c2 : wr.cell? ⟨g2, o2 + k, none⟩ = some (.int .i64 (ys.getD k 0)) := (hbel.cell (p := ⟨g2, o2 + k, none⟩) hg2).trans (hc2 k (by rw [← HL2.out]; exact hlt))
        have HB := hid hbel.drew
        clear hc1 hc2 hbel
        by_cases he : zs.getD k 0 = ys.getD k 0
        · have HA2 : Hid (∀ j, j < k + 1 → zs.getD j 0 = ys.getD j 0) := fun j hj => by
            by_cases e : j = k
            · subst e; exact he
            · exact HA.out j (by omega)
          rw [← he] at c2
          clear he
          generalize zs.getD k 0 = z at *
          have hbz : (z != z) = false := by simp
          go_wp2_with fail
          go_region
          clear c1 c2
          generalize wr.drew = W at *
          go_wp2
          exact ⟨⟨k + 1, by omega, by go_num, HB.out, HA2⟩, by simp [intOf]; omega⟩
        · have HF : Hid ((zs == ys) = false) := by
            show _ = _
            cases hq : zs == ys with
            | false => rfl
            | true =>
              have : zs = ys := by simpa using hq
              rw [this] at he
              exact absurd rfl he
          generalize zs.getD k 0 = z at *
          generalize ys.getD k 0 = y at *
          have hbz : (z != y) = true := by simp [he]
          go_wp2_with fail
          go_region
          clear c1 c2
          generalize wr.drew = W at *
          go_wp2
          go_ret
          exact ⟨by rw [HF.out]; rfl, HB.out⟩
      · have HT : Hid ((zs == ys) = true) := by
          show _ = _
          rw [beq_iff_eq]
          refine List.ext_getElem (by rw [← HL.out, ← HL2.out]) (fun i h1 h2 => ?_)
          have := HA.out i (by rw [← HL.out] at h1; omega)
          simpa [List.getD, List.getElem?_eq_getElem h1, List.getElem?_eq_getElem h2] using this
        go_wp2
        go_ret
        exact ⟨by rw [HT.out]; rfl, hbel⟩
  · have hf : (zs == ys) = false := by
      cases hq : zs == ys with
      | false => rfl
      | true =>
        have : zs = ys := by simpa using hq
        rw [this] at hl
        exact absurd rfl hl
    rw [hf]
    have hb0 : ((zs.length : Int) != (ys.length : Int)) = true := by simp; omega
    clear hr hr2 hf
    generalize zs.length = l1 at *
    generalize ys.length = l2 at *
    go_enter Try.func17, Try.ntmps17
    go_wp2
    go_ret
    exact ⟨rfl, Below.refl _ _⟩

theorem dep5 : depthsL [5, 2, 1, 0, 1] = [1, 2, 3, 0, 3] := by decide +kernel
theorem enc5 : packN (encN [1, 2, 3, 0, 3] [0, 4, 1] 3) (encL [1, 2, 3, 0, 3] [0, 4, 1] 3) = [120] ∧ encL [1, 2, 3, 0, 3] [0, 4, 1] 3 = 6 := by decide +kernel

theorem wf5 : ∀ j, (Lit.int .i64 (([1, 2, 3, 0, 3] : List Int).getD j 0)).wf = true := by
  intro j
  by_cases hj : j < 5
  · have : ∀ j, j < 5 → (Lit.int .i64 (([1, 2, 3, 0, 3] : List Int).getD j 0)).wf = true := by decide
    exact this j hj
  · rw [getD_out _ _ (by simp; omega)]; exact wf_zero _

theorem len5 (w : World) : Calls Try.prog 10 #[.slice (some ⟨w.heap.size, 0, none⟩) 5 5] (w.alloc (.cells #[.int .i64 5, .int .i64 2, .int .i64 1, .int .i64 0, .int .i64 1] 3)) fun e w' => ∃ v, e = .returned (.tuple #[v, .int .i64 0]) ∧ w'.ownsRow w.heap.size 3 1 v 5 (([1, 2, 3, 0, 3] : List Int).map (Value.int .i64)) ∧ Below w.heap.size w w' := by
  have hr := lit_ri w [5, 2, 1, 0, 1] 5 rfl (by omega) (by decide)
  have h := lengths_flat ⟨w.heap.size, 0, none⟩ 5 [5, 2, 1, 0, 1] _ hr (by decide) (by decide) (by rw [dep5]; decide) (by rw [dep5]; exact wf5)
  rw [dep5] at h
  refine h.mono ?_
  rintro e w' ⟨v, he, ho, hb⟩
  refine ⟨v, he, own_low ho (by simp), Bn (bel_alloc w _) hb⟩

theorem enc3 (w : World) : Calls Try.prog 16 #[.slice (some ⟨w.heap.size, 0, none⟩) 5 5, .slice (some ⟨w.heap.size + 1, 0, none⟩) 3 3] ((w.alloc (.cells #[.int .i64 1, .int .i64 2, .int .i64 3, .int .i64 0, .int .i64 3] 3)).alloc (.cells #[.int .i64 0, .int .i64 4, .int .i64 1] 3)) fun e w' => ∃ v, e = .returned (.tuple #[v, .int .i64 6, .int .i64 0]) ∧ w'.ownsRow w.heap.size 5 1 v 1 (([120] : List Int).map (Value.int .u8)) ∧ Below w.heap.size w w' := by
  have hr := lit_ri w [1, 2, 3, 0, 3] 5 rfl (by omega) (by decide)
  have hr2 := lit_ri (w.alloc (.cells (([1, 2, 3, 0, 3] : List Int).map (Value.int .i64)).toArray 3)) [0, 4, 1] 3 rfl (by omega) (by decide)
  have hb := bel_alloc (w.alloc (.cells (([1, 2, 3, 0, 3] : List Int).map (Value.int .i64)).toArray 3)) (.cells (([0, 4, 1] : List Int).map (Value.int .i64)).toArray 3)
  have hs : (w.alloc (.cells (([1, 2, 3, 0, 3] : List Int).map (Value.int .i64)).toArray 3)).heap.size = w.heap.size + 1 := by simp
  rw [hs] at hr2
  have h := encode_word (some ⟨w.heap.size, 0, none⟩) 5 [1, 2, 3, 0, 3] (some ⟨w.heap.size + 1, 0, none⟩) 3 [0, 4, 1] _ (hr.later hb) hr2 (by decide +kernel) (by decide)
  refine h.mono ?_
  intro e w' hp
  unfold EncPost at hp
  rw [if_pos (by decide)] at hp
  obtain ⟨⟨v, he, ho⟩, hbw⟩ := hp
  rw [show ([0, 4, 1] : List Int).length = 3 from rfl, enc5.1] at ho
  rw [show ([0, 4, 1] : List Int).length = 3 from rfl, enc5.2] at he
  exact ⟨v, he, own_low ho (by simp; omega), Bn (Bn (bel_alloc w _) hb) hbw⟩

set_option maxHeartbeats 800000 in
set_option maxRecDepth 100000 in
theorem alive_any (w : World) : Calls Try.prog 9 #[] w fun e w' => e = .returned (.bool true) ∧ Below w.heap.size w w' := by
  have HL := hid (len5 w)
  have HE := hid enc3
  go_enter Try.func9, Try.ntmps9
  go_wp2_with fail
  refine HL.out.mono ?_
  rintro _ w1 ⟨v1, rfl, ho1, hb1⟩
  obtain ⟨a1, c1, rfl, hr1⟩ := Ri.own (zs := [1, 2, 3, 0, 3]) ho1 wf5
  have HR1 := hid hr1
  have HB1 := hid hb1
  clear ho1 hr1 hb1 HL
  go_wp2_with fail
  refine (HE.out w1).mono ?_
  rintro _ w2 ⟨v2, rfl, ho2, hb2⟩
  have wf1 : ∀ j, (Lit.int .u8 (([120] : List Int).getD j 0)).wf = true := by
    intro j
    by_cases hj : j < 1
    · obtain rfl : j = 0 := by omega
      decide
    · rw [getD_out _ _ (by simp; omega)]; exact wf_zero _
  obtain ⟨a2, c2, rfl, hr2⟩ := Ri.own (zs := [120]) ho2 wf1
  have HT := hid (hr2.text)
  have HS : Hid (∀ W, W = w2 → Calls Try.prog 17 #[.slice a1 5 c1, .slice (some ⟨W.heap.size, 0, none⟩) 5 5] (W.alloc (.cells #[.int .i64 1, .int .i64 2, .int .i64 3, .int .i64 0, .int .i64 3] 3)) fun e w' => e = .returned (.bool true) ∧ Below W.heap.size W w') := by
    intro W hW
    subst hW
    have hl := lit_ri W [1, 2, 3, 0, 3] 5 rfl (by omega) (by decide)
    have hb3 := bel_alloc W (.cells (([1, 2, 3, 0, 3] : List Int).map (Value.int .i64)).toArray 3)
    have h := same_any a1 c1 [1, 2, 3, 0, 3] (some ⟨W.heap.size, 0, none⟩) 5 [1, 2, 3, 0, 3] _ ((HR1.out.later hb2).later hb3) hl
    refine h.mono ?_
    rintro e w' ⟨he, hbb⟩
    exact ⟨by rw [he]; rfl, Bn hb3 hbb⟩
  have HB2 := hid (Bn HB1.out hb2)
  have HS2 := hid (HS.out w2 rfl)
  clear ho2 hr2 hb2 HE HR1 HB1 wf1 HS
  rw [show ([120] : List Int).length = 1 from rfl]
  go_wp2_with fail
  refine HS2.out.mono ?_
  rintro _ w3 ⟨rfl, hb3⟩
  have ht := HT.out w3 hb3
  have ht2 : (convert 45 9 (.slice a2 1 c2)).run Try.prog w3 = .ok (.string ⟨#[120]⟩) w3 := ht
  have HB3 := hid (Bn HB2.out hb3)
  clear ht hb3 HT HS2
  go_wp2
  go_ret
  exact ⟨rfl, HB3.out⟩
end Go.Proofs.Ytgecoiakhmnilab
