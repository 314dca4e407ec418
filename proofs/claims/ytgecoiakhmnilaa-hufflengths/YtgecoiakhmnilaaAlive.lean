/-
  The contracts of the statements' 'same' and 'alive'.
-/
import Derived.Test.YtgecoiakhmnilaaLengths
import Derived.Test.YtgecoiakhmnilaaEncodeW
namespace Go.Proofs.Ytgecoiakhmnilaa
open Go.RowKit Hf

/-- Bytes as a string, in whatever later world. -/
theorem Ri.text {w : World} {a : Option Addr} {cap : Nat} {zs : List Int} (h : Ri w .u8 a cap zs) (W : World) (hb : Below w.heap.size w W) :
    (convert 44 9 (.slice a zs.length cap)).run Try.prog W = .ok (.string (strOfNums zs)) W := by
  have h' := h.later hb
  by_cases h0 : 0 < zs.length
  · obtain ⟨b, off, rfl, _, hc⟩ := h'.cells h0
    exact run_convert_bytes_arg (P := Try.prog) W 44 5 Try.underlying44 Try.underlying5 b off zs.length cap zs rfl hc 9 Try.underlying9
  · have hz : zs = [] := List.length_eq_zero_iff.1 (by omega)
    subst hz
    rw [run_convert_bytes_string W 44 9 5 a _ cap Try.underlying44 Try.underlying5 Try.underlying9]
    cases a with
    | none => rfl
    | some ad =>
      rw [show ([] : List Int).length = 0 from rfl]
      rw [run_bytesToString W ad 0 cap [] (by simpa using run_loadCells_list (P := Try.prog) W ad [] (by intro j v hj; simp at hj))]
      rfl

/-- Numbers written out as a slice. -/
theorem lit_ri (w : World) (zs : List Int) (n : Nat) (hn : n = zs.length) (hm : n ≤ 1000) (hf : ∀ z ∈ zs, -1000 ≤ z ∧ z ≤ 1000) : Ri (w.alloc (.cells (zs.map (Value.int .i64)).toArray 3)) .i64 (some ⟨w.heap.size, 0, none⟩) n zs := by
  subst hn
  refine ⟨Nat.le_refl _, by unfold maxLen; omega, fun _ => ⟨w.heap.size, 0, rfl, by simp, fun j hj => ?_⟩, fun j => ?_⟩
  · have := World.cell?_alloc_mark w (zs.map (Value.int .i64)).toArray 3 (0, 0) j
    rw [Nat.zero_add]
    refine this.trans ?_
    simp [List.getD, List.getElem?_eq_getElem hj]
  · by_cases hj : j < zs.length
    · have := hf _ (getD_mem zs j hj)
      exact wf_mk_i64 (by omega) (by omega)
    · rw [getD_out _ _ (by omega)]; exact wf_zero _

set_option maxHeartbeats 800000 in
set_option maxRecDepth 100000 in
theorem same_any (a : Option Addr) (cap : Nat) (zs : List Int) (b : Option Addr) (cap2 : Nat) (ys : List Int) (w : World) (hr : Ri w .i64 a cap zs) (hr2 : Ri w .i64 b cap2 ys) :
    Calls Try.prog 12 #[.slice a zs.length cap, .slice b ys.length cap2] w fun e w' => e = .returned (.bool (zs == ys)) ∧ Below w.heap.size w w' := by
  have hm := hr.most
  have hm1 := hr.room
  have hm2 := hr2.most
  have hm3 := hr2.room
  unfold maxLen at hm hm2
  by_cases hl : zs.length = ys.length
  · have HR := hid hr
    have HR2 := hid hr2
    obtain ⟨len, hle⟩ : ∃ n, n = zs.length := ⟨_, rfl⟩
    have HL := hid hle
    have HL2 : Hid (len = ys.length) := by show _ = _; rw [hle]; exact hl
    rw [← hl, ← hle]
    rw [← hle] at hm1
    have hb0 : ((len : Int) != (len : Int)) = false := by simp
    clear hr hr2 hl hle hm3
    go_enter Try.func12, Try.ntmps12
    go_wp2
    go_loopw [5] (fun y wr => ∃ k : Nat, k ≤ len ∧ y = .int .i64 k ∧ Below w.heap.size w wr ∧ Hid (∀ j, j < k → zs.getD j 0 = ys.getD j 0)) (fun y _ => len - (intOf y).toNat)
    case atStart => exact ⟨0, by omega, rfl, Below.refl _ _, fun j hj => absurd hj (by omega)⟩
    case round =>
      obtain ⟨k, hk, rfl, hbel, HA⟩ := hrel
      by_cases hlt : k < len
      · have hkl : (k : Int) < (len : Int) := by omega
        obtain ⟨g1, o1, rfl, hg1, hc1⟩ := (HR.out).cells (by rw [← HL.out]; omega)
        obtain ⟨g2, o2, rfl, hg2, hc2⟩ := (HR2.out).cells (by rw [← HL2.out]; omega)
        have c1 : wr.cell? ⟨g1, o1 + k, none⟩ = some (.int .i64 (zs.getD k 0)) := (hbel.cell (p := ⟨g1, o1 + k, none⟩) hg1).trans (hc1 k (by rw [← HL.out]; exact hlt))
        have c2 : wr.cell? ⟨g2, o2 + k, none⟩ = some (.int .i64 (ys.getD k 0)) := (hbel.cell (p := ⟨g2, o2 + k, none⟩) hg2).trans (hc2 k (by rw [← HL2.out]; exact hlt))
        have HB := hid hbel.drew
        clear hc1 hc2 hbel
        by_cases he : zs.getD k 0 = ys.getD k 0
        · have HA2 : Hid (∀ j, j < k + 1 → zs.getD j 0 = ys.getD j 0) := fun j hj => by
            by_cases e : j = k
            · subst e; exact he
            · exact HA.out j (by omega)
          rw [← he] at c2
          clear he
          generalize zs.getD k 0 = z at *
          have hbz : (z != z) = false := by simp
          go_wp2_with fail
          go_region
          clear c1 c2
          generalize wr.drew = W at *
          go_wp2
          exact ⟨⟨k + 1, by omega, by go_num, HB.out, HA2⟩, by simp [intOf]; omega⟩
        · have HF : Hid ((zs == ys) = false) := by
            show _ = _
            cases hq : zs == ys with
            | false => rfl
            | true =>
              have : zs = ys := by simpa using hq
              rw [this] at he
              exact absurd rfl he
          generalize zs.getD k 0 = z at *
          generalize ys.getD k 0 = y at *
          have hbz : (z != y) = true := by simp [he]
          go_wp2_with fail
          go_region
          clear c1 c2
          generalize wr.drew = W at *
          go_wp2
          go_ret
          exact ⟨by rw [HF.out]; rfl, HB.out⟩
      · have HT : Hid ((zs == ys) = true) := by
          show _ = _
          rw [beq_iff_eq]
          refine List.ext_getElem (by rw [← HL.out, ← HL2.out]) (fun i h1 h2 => ?_)
          have := HA.out i (by rw [← HL.out] at h1; omega)
          simpa [List.getD, List.getElem?_eq_getElem h1, List.getElem?_eq_getElem h2] using this
        go_wp2
        go_ret
        exact ⟨by rw [HT.out]; rfl, hbel⟩
  · have hf : (zs == ys) = false := by
      cases hq : zs == ys with
      | false => rfl
      | true =>
        have : zs = ys := by simpa using hq
        rw [this] at hl
        exact absurd rfl hl
    rw [hf]
    have hb0 : ((zs.length : Int) != (ys.length : Int)) = true := by simp; omega
    clear hr hr2 hf
    generalize zs.length = l1 at *
    generalize ys.length = l2 at *
    go_enter Try.func12, Try.ntmps12
    go_wp2
    go_ret
    exact ⟨rfl, Below.refl _ _⟩

theorem dep5 : depthsL [5, 2, 1, 0, 1] = [1, 2, 3, 0, 3] := by decide +kernel
theorem enc5 : packN (encN [1, 2, 3, 0, 3] [0, 4, 1] 3) (encL [1, 2, 3, 0, 3] [0, 4, 1] 3) = [120] ∧ encL [1, 2, 3, 0, 3] [0, 4, 1] 3 = 6 := by decide +kernel

theorem wf5 : ∀ j, (Lit.int .i64 (([1, 2, 3, 0, 3] : List Int).getD j 0)).wf = true := by
  intro j
  by_cases hj : j < 5
  · have : ∀ j, j < 5 → (Lit.int .i64 (([1, 2, 3, 0, 3] : List Int).getD j 0)).wf = true := by decide
    exact this j hj
  · rw [getD_out _ _ (by simp; omega)]; exact wf_zero _

theorem len5 (w : World) : Calls Try.prog 10 #[.slice (some ⟨w.heap.size, 0, none⟩) 5 5] (w.alloc (.cells #[.int .i64 5, .int .i64 2, .int .i64 1, .int .i64 0, .int .i64 1] 3)) fun e w' => ∃ v, e = .returned (.tuple #[v, .int .i64 0]) ∧ w'.ownsRow w.heap.size 3 1 v 5 (([1, 2, 3, 0, 3] : List Int).map (Value.int .i64)) ∧ Below w.heap.size w w' := by
  have hr := lit_ri w [5, 2, 1, 0, 1] 5 rfl (by omega) (by decide)
  have h := lengths_flat ⟨w.heap.size, 0, none⟩ 5 [5, 2, 1, 0, 1] _ hr (by decide) (by decide) (by rw [dep5]; decide) (by rw [dep5]; exact wf5)
  rw [dep5] at h
  refine h.mono ?_
  rintro e w' ⟨v, he, ho, hb⟩
  refine ⟨v, he, own_low ho (by simp), Bn (bel_alloc w _) hb⟩

theorem enc3 (w : World) : Calls Try.prog 21 #[.slice (some ⟨w.heap.size, 0, none⟩) 5 5, .slice (some ⟨w.heap.size + 1, 0, none⟩) 3 3] ((w.alloc (.cells #[.int .i64 1, .int .i64 2, .int .i64 3, .int .i64 0, .int .i64 3] 3)).alloc (.cells #[.int .i64 0, .int .i64 4, .int .i64 1] 3)) fun e w' => ∃ v, e = .returned (.tuple #[v, .int .i64 6, .int .i64 0]) ∧ w'.ownsRow w.heap.size 5 1 v 1 (([120] : List Int).map (Value.int .u8)) ∧ Below w.heap.size w w' := by
  have hr := lit_ri w [1, 2, 3, 0, 3] 5 rfl (by omega) (by decide)
  have hr2 := lit_ri (w.alloc (.cells (([1, 2, 3, 0, 3] : List Int).map (Value.int .i64)).toArray 3)) [0, 4, 1] 3 rfl (by omega) (by decide)
  have hb := bel_alloc (w.alloc (.cells (([1, 2, 3, 0, 3] : List Int).map (Value.int .i64)).toArray 3)) (.cells (([0, 4, 1] : List Int).map (Value.int .i64)).toArray 3)
  have hs : (w.alloc (.cells (([1, 2, 3, 0, 3] : List Int).map (Value.int .i64)).toArray 3)).heap.size = w.heap.size + 1 := by simp
  rw [hs] at hr2
  have h := encode_word (some ⟨w.heap.size, 0, none⟩) 5 [1, 2, 3, 0, 3] (some ⟨w.heap.size + 1, 0, none⟩) 3 [0, 4, 1] _ (hr.later hb) hr2 (by decide +kernel) (by decide)
  refine h.mono ?_
  intro e w' hp
  unfold EncPost at hp
  rw [if_pos (by decide)] at hp
  obtain ⟨⟨v, he, ho⟩, hbw⟩ := hp
  rw [show ([0, 4, 1] : List Int).length = 3 from rfl, enc5.1] at ho
  rw [show ([0, 4, 1] : List Int).length = 3 from rfl, enc5.2] at he
  exact ⟨v, he, own_low ho (by simp; omega), Bn (Bn (bel_alloc w _) hb) hbw⟩

set_option maxHeartbeats 800000 in
set_option maxRecDepth 100000 in
theorem alive_any (w : World) : Calls Try.prog 13 #[] w fun e w' => e = .returned (.bool true) ∧ Below w.heap.size w w' := by
  have HL := hid (len5 w)
  have HE := hid enc3
  go_enter Try.func13, Try.ntmps13
  go_wp2_with fail
  refine HL.out.mono ?_
  rintro _ w1 ⟨v1, rfl, ho1, hb1⟩
  obtain ⟨a1, c1, rfl, hr1⟩ := Ri.own (zs := [1, 2, 3, 0, 3]) ho1 wf5
  have HR1 := hid hr1
  have HB1 := hid hb1
  clear ho1 hr1 hb1 HL
  go_wp2_with fail
  refine (HE.out w1).mono ?_
  rintro _ w2 ⟨v2, rfl, ho2, hb2⟩
  have wf1 : ∀ j, (Lit.int .u8 (([120] : List Int).getD j 0)).wf = true := by
    intro j
    by_cases hj : j < 1
    · obtain rfl : j = 0 := by omega
      decide
    · rw [getD_out _ _ (by simp; omega)]; exact wf_zero _
  obtain ⟨a2, c2, rfl, hr2⟩ := Ri.own (zs := [120]) ho2 wf1
  have HT := hid (hr2.text)
  have HS : Hid (∀ W, W = w2 → Calls Try.prog 12 #[.slice a1 5 c1, .slice (some ⟨W.heap.size, 0, none⟩) 5 5] (W.alloc (.cells #[.int .i64 1, .int .i64 2, .int .i64 3, .int .i64 0, .int .i64 3] 3)) fun e w' => e = .returned (.bool true) ∧ Below W.heap.size W w') := by
    intro W hW
    subst hW
    have hl := lit_ri W [1, 2, 3, 0, 3] 5 rfl (by omega) (by decide)
    have hb3 := bel_alloc W (.cells (([1, 2, 3, 0, 3] : List Int).map (Value.int .i64)).toArray 3)
    have h := same_any a1 c1 [1, 2, 3, 0, 3] (some ⟨W.heap.size, 0, none⟩) 5 [1, 2, 3, 0, 3] _ ((HR1.out.later hb2).later hb3) hl
    refine h.mono ?_
    rintro e w' ⟨he, hbb⟩
    exact ⟨by rw [he]; rfl, Bn hb3 hbb⟩
  have HB2 := hid (Bn HB1.out hb2)
  have HS2 := hid (HS.out w2 rfl)
  clear ho2 hr2 hb2 HE HR1 HB1 wf1 HS
  rw [show ([120] : List Int).length = 1 from rfl]
  go_wp2_with fail
  refine HS2.out.mono ?_
  rintro _ w3 ⟨rfl, hb3⟩
  have ht := HT.out w3 hb3
  have ht2 : (convert 44 9 (.slice a2 1 c2)).run Try.prog w3 = .ok (.string ⟨#[120]⟩) w3 := ht
  have HB3 := hid (Bn HB2.out hb3)
  clear ht hb3 HT HS2
  go_wp2
  go_ret
  exact ⟨rfl, HB3.out⟩
end Go.Proofs.Ytgecoiakhmnilaa
