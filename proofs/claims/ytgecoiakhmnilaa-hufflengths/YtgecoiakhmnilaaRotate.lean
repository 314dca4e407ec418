/-
  The contract of slices' rotate: two stretches that stand side by side are exchanged, as rotG says step by step.
-/
import Derived.Test.YtgecoiakhmnilaaSwapR
namespace Go.Proofs.Ytgecoiakhmnilaa
open Go.RowKit Hf

namespace Hf
/-- The steps of rotate: i numbers ahead of the place m, j from it on (fuel: at least i + j). -/
def rotG (m : Nat) : Nat → List Int → Nat → Nat → List Int
  | 0, X, _, _ => X
  | f + 1, X, i, j => if i = j then swapR X (m - i) m i else if j < i then rotG m f (swapR X (m - i) m j) (i - j) j else rotG m f (swapR X (m - i) (m + j - i) i) i (j - i)
end Hf

set_option maxHeartbeats 1600000 in
set_option maxRecDepth 100000 in
theorem rotate_word (a m b n cap B gs : Nat) (f : Value) (X : List Int) (w : World) (ham : a < m) (hmb : m < b) (hb : b ≤ n) (hn : n ≤ 100000) (hl : X.length = n)
    (hown : w.ownsRow B 3 1 (.slice (some ⟨gs, 0, none⟩) n cap) n (X.map (Value.int .i64))) :
    Calls Try.prog 59 #[.slice (some ⟨gs, 0, none⟩) n cap, .int .i64 (a : Int), .int .i64 (m : Int), .int .i64 (b : Int), f] w fun e w' => e = .returned (.tuple #[]) ∧ w'.ownsRow B 3 1 (.slice (some ⟨gs, 0, none⟩) n cap) n ((rotG m (b - a) X (m - a) (b - m)).map (Value.int .i64)) ∧ w.grownBy w' (some gs) := by
  have HO := hid hown
  have HL := hid hl
  have HSR : Hid (∀ (x y k : Nat) (Y : List Int) (W : World), x ≠ y → x + k ≤ n → y + k ≤ n → Y.length = n → W.ownsRow B 3 1 (.slice (some ⟨gs, 0, none⟩) n cap) n (Y.map (Value.int .i64)) → Calls Try.prog 60 #[.slice (some ⟨gs, 0, none⟩) n cap, .int .i64 (x : Int), .int .i64 (y : Int), .int .i64 (k : Int), f] W fun e w' => e = .returned (.tuple #[]) ∧ w'.ownsRow B 3 1 (.slice (some ⟨gs, 0, none⟩) n cap) n ((swapR Y x y k).map (Value.int .i64)) ∧ W.grownBy w' (some gs)) := fun x y k Y W h1 h2 h3 h4 h5 => swapRange_word x y k n cap B gs f Y W h1 h2 h3 hn h4 h5
  have hi0 : (m : Int) - (a : Int) = ((m - a : Nat) : Int) := by omega
  have hj0 : (b : Int) - (m : Int) = ((b - m : Nat) : Int) := by omega
  have HI0 := hid hi0
  have HJ0 := hid hj0
  clear hown hl hi0 hj0
  go_enter Try.func59, Try.ntmps59
  go_wp2
  go_loopw [10, 11] (fun x y wr => ∃ (i j g : Nat) (Y : List Int), 0 < i ∧ 0 < j ∧ i ≤ m ∧ m + j ≤ n ∧ Hid (i + j ≤ g) ∧ x = .int .i64 i ∧ y = .int .i64 j ∧ Hid (Y.length = n) ∧ Hid (rotG m (b - a) X (m - a) (b - m) = rotG m g Y i j) ∧ Hid (wr.ownsRow B 3 1 (.slice (some ⟨gs, 0, none⟩) n cap) n (Y.map (Value.int .i64))) ∧ Hid (w.grownBy wr (some gs))) (fun x y _ => (intOf x).toNat + (intOf y).toNat)
  case atStart => exact ⟨m - a, b - m, b - a, X, by omega, by omega, by omega, by omega, (by show _ ≤ _; omega), by rw [HI0.out], by rw [HJ0.out], HL, hid rfl, HO, World.grownBy.refl _ _⟩
  case round =>
    clear HO HI0 HJ0
    obtain ⟨i, j, g, Y, hi, hj, him, hjn, HF, rfl, rfl, HYL, HR, HO, HG⟩ := hrel
    obtain ⟨g', hg'⟩ : ∃ g', g = g' + 1 := ⟨g - 1, by have := HF.out; omega⟩
    subst hg'
    have HE := hid (show rotG m (g' + 1) Y i j = if i = j then swapR Y (m - i) m i else if j < i then rotG m g' (swapR Y (m - i) m j) (i - j) j else rotG m g' (swapR Y (m - i) (m + j - i) i) i (j - i) from rfl)
    have hmi : (m : Int) - (i : Int) = ((m - i : Nat) : Int) := by omega
    by_cases hij : i = j
    · have hq : ((i : Int) != (j : Int)) = false := by simp [hij]
      have HC := hid (HSR.out (m - i) m i Y wr (by omega) (by omega) (by omega) HYL.out HO.out)
      rw [if_pos hij] at HE
      have HIJ := hid hij
      clear hij
      go_wp2_with fail
      refine HC.out.mono ?_
      rintro _ w2 ⟨rfl, hown2, hg2⟩
      have HO2 := hid hown2
      have HG2 := hid (grown_trans HG.out hg2)
      clear hown2 hg2
      go_wp2
      go_end0
      exact ⟨rfl, by rw [HR.out, HE.out]; exact HO2.out, HG2.out⟩
    · have hq : ((i : Int) != (j : Int)) = true := by simp; omega
      rw [if_neg hij] at HE
      by_cases hji : j < i
      · have hjz : (j : Int) < (i : Int) := by omega
        have HC := hid (HSR.out (m - i) m j Y wr (by omega) (by omega) (by omega) HYL.out HO.out)
        rw [if_pos hji] at HE
        clear hij
        go_wp2_with fail
        refine HC.out.mono ?_
        rintro _ w2 ⟨rfl, hown2, hg2⟩
        have HO2 := hid hown2
        have HG2 := hid (grown_trans HG.out hg2)
        have HYL2 : Hid ((swapR Y (m - i) m j).length = n) := by show _ = _; rw [swapR_length, HYL.out]
        clear hown2 hg2
        go_wp2
        exact ⟨⟨i - j, j, g', swapR Y (m - i) m j, by omega, by omega, by omega, by omega, (by show _ ≤ _; have := HF.out; omega), by go_num, rfl, HYL2, hid (HR.out.trans HE.out), HO2, HG2⟩, by simp [intOf]; omega⟩
      · have hjz : ¬ (j : Int) < (i : Int) := by omega
        have hlt : i < j := by omega
        have hmj : (m : Int) + (j : Int) - (i : Int) = ((m + j - i : Nat) : Int) := by omega
        have HC := hid (HSR.out (m - i) (m + j - i) i Y wr (by omega) (by omega) (by omega) HYL.out HO.out)
        rw [if_neg hji] at HE
        clear hij
        go_wp2_with fail
        refine HC.out.mono ?_
        rintro _ w2 ⟨rfl, hown2, hg2⟩
        have HO2 := hid hown2
        have HG2 := hid (grown_trans HG.out hg2)
        have HYL2 : Hid ((swapR Y (m - i) (m + j - i) i).length = n) := by show _ = _; rw [swapR_length, HYL.out]
        clear hown2 hg2
        go_wp2
        exact ⟨⟨i, j - i, g', swapR Y (m - i) (m + j - i) i, by omega, by omega, by omega, by omega, (by show _ ≤ _; have := HF.out; omega), rfl, by go_num, HYL2, hid (HR.out.trans HE.out), HO2, HG2⟩, by simp [intOf]; omega⟩
end Go.Proofs.Ytgecoiakhmnilaa
