/-
  The contract of slices' swapRange: two stretches of a row of one's own are exchanged.
-/
import Derived.Test.YtgecoiakhmnilaaIns
namespace Go.Proofs.Ytgecoiakhmnilaa
open Go.RowKit Hf

namespace Hf
/-- The first k numbers of two stretches, exchanged. -/
def swapR (X : List Int) (a b : Nat) : Nat → List Int
  | 0 => X
  | k + 1 => swapL (swapR X a b k) (a + k) (b + k)
theorem swapR_length (X : List Int) (a b : Nat) : ∀ k, (swapR X a b k).length = X.length
  | 0 => rfl
  | k + 1 => by rw [swapR, swapL_length, swapR_length X a b k]
end Hf

set_option maxHeartbeats 1600000 in
set_option maxRecDepth 100000 in
theorem swapRange_word (a b m n cap B gs : Nat) (f : Value) (X : List Int) (w : World) (hne : a ≠ b) (ha : a + m ≤ n) (hb : b + m ≤ n) (hn : n ≤ 100000) (hl : X.length = n)
    (hown : w.ownsRow B 3 1 (.slice (some ⟨gs, 0, none⟩) n cap) n (X.map (Value.int .i64))) :
    Calls Try.prog 60 #[.slice (some ⟨gs, 0, none⟩) n cap, .int .i64 (a : Int), .int .i64 (b : Int), .int .i64 (m : Int), f] w fun e w' => e = .returned (.tuple #[]) ∧ w'.ownsRow B 3 1 (.slice (some ⟨gs, 0, none⟩) n cap) n ((swapR X a b m).map (Value.int .i64)) ∧ w.grownBy w' (some gs) := by
  have HO := hid hown
  have HL := hid hl
  clear hown hl
  go_enter Try.func60, Try.ntmps60
  go_wp2
  go_loopw [10] (fun y wr => ∃ k : Nat, k ≤ m ∧ y = .int .i64 k ∧ Hid (wr.ownsRow B 3 1 (.slice (some ⟨gs, 0, none⟩) n cap) n ((swapR X a b k).map (Value.int .i64))) ∧ Hid (w.grownBy wr (some gs))) (fun y _ => m - (intOf y).toNat)
  case atStart => exact ⟨0, by omega, rfl, HO, World.grownBy.refl _ _⟩
  case round =>
    clear HO
    obtain ⟨k, hk, rfl, HO, HG⟩ := hrel
    by_cases hlt : k < m
    · have hkz : (k : Int) < (m : Int) := by omega
      have HXL : Hid ((swapR X a b k).length = n) := by show _ = _; rw [swapR_length, HL.out]
      have c1 := own_cell HO.out HXL.out (a + k) (by omega)
      have c2 := own_cell HO.out HXL.out (b + k) (by omega)
      have f1 := HO.out.frozenAt (a + k)
      have f2 := HO.out.frozenAt (b + k)
      have h1 := own_swap HO.out (a + k) (b + k)
      have HS : Hid (((wr.setCell ⟨gs, a + k, none⟩ (.int .i64 ((swapR X a b k).getD (b + k) 0))).setCell ⟨gs, b + k, none⟩ (.int .i64 ((swapR X a b k).getD (a + k) 0))).drew.ownsRow B 3 1 (.slice (some ⟨gs, 0, none⟩) n cap) n ((swapR X a b (k + 1)).map (Value.int .i64)) ∧ w.grownBy ((wr.setCell ⟨gs, a + k, none⟩ (.int .i64 ((swapR X a b k).getD (b + k) 0))).setCell ⟨gs, b + k, none⟩ (.int .i64 ((swapR X a b k).getD (a + k) 0))).drew (some gs)) := ⟨h1.1.drew, grown_drew (grown_trans HG.out h1.2)⟩
      have hak : (a : Int) + (k : Int) < (n : Int) := by omega
      have hbk : (b : Int) + (k : Int) < (n : Int) := by omega
      have h2 := (HO.out.stored (a + k) (.int .i64 ((swapR X a b k).getD (b + k) 0))).1
      rw [← List.map_set] at h2
      have d1 := own_cell h2 (by rw [List.length_set, HXL.out]) (b + k) (by omega)
      rw [sgetD_set _ _ _ _ (by rw [HXL.out]; omega), if_neg (by omega)] at d1
      clear h1 h2 HO HG HXL
      generalize (swapR X a b k).getD (a + k) 0 = u at *
      generalize (swapR X a b k).getD (b + k) 0 = v at *
      go_wp2_with fail
      go_region
      clear c1 c2 f1 f2 d1
      generalize ((wr.setCell ⟨gs, a + k, none⟩ (.int .i64 v)).setCell ⟨gs, b + k, none⟩ (.int .i64 u)).drew = W3 at *
      go_wp2
      go_roundw
      case rel => exact ⟨k + 1, by omega, by go_num, HS.out.1, HS.out.2⟩
      case measure => simp [intOf]; omega
    · obtain hke : k = m := by omega
      subst hke
      have hkz : ¬ (k : Int) < (k : Int) := by omega
      go_wp2
      go_end0
      exact ⟨rfl, HO.out, HG.out⟩
end Go.Proofs.Ytgecoiakhmnilaa
