/-
  The contract of huff's flatten.
-/
import Derived.Test.YtgecoiakhmnilaaIns
namespace Go.Proofs.Ytgecoiakhmnilaa
open Go.RowKit Hf

namespace Hf
def flatC (c : Int) : Int := if 0 < c then c / 2 + 1 else c
/-- The first k numbers flattened. -/
def flatK (X : List Int) : Nat → List Int
  | 0 => X
  | k + 1 => (flatK X k).set k (flatC (X.getD k 0))
theorem flatK_length (X : List Int) : ∀ k, (flatK X k).length = X.length
  | 0 => rfl
  | k + 1 => by rw [flatK, List.length_set, flatK_length X k]
theorem flatK_getD (X : List Int) : ∀ k, k ≤ X.length → ∀ p, (flatK X k).getD p 0 = if p < k then flatC (X.getD p 0) else X.getD p 0
  | 0, _, p => by rw [flatK, if_neg (by omega)]
  | k + 1, hk, p => by
    rw [flatK, sgetD_set _ _ _ _ (by rw [flatK_length]; omega), flatK_getD X k (by omega)]
    by_cases h : p = k
    · subst h; rw [if_pos rfl, if_pos (by omega)]
    · rw [if_neg h]
      by_cases h2 : p < k
      · rw [if_pos h2, if_pos (by omega)]
      · rw [if_neg h2, if_neg (by omega)]
theorem flatK_all (X : List Int) : flatK X X.length = X.map flatC := by
  refine List.ext_getElem (by rw [flatK_length, List.length_map]) (fun i h1 h2 => ?_)
  have h := flatK_getD X X.length (Nat.le_refl _) i
  rw [flatK_length] at h1
  rw [if_pos h1] at h
  simpa [List.getD, List.getElem?_eq_getElem h1, List.getElem?_eq_getElem (show i < (flatK X X.length).length from by rw [flatK_length]; exact h1)] using h
theorem flatK_keep (X : List Int) (k : Nat) (hk : k < X.length) (h : ¬ 0 < X.getD k 0) : flatK X (k + 1) = flatK X k := by
  rw [flatK]
  have e : flatC (X.getD k 0) = (flatK X k).getD k 0 := by rw [flatK_getD X k (by omega), if_neg (by omega)]; unfold flatC; rw [if_neg h]
  rw [e]
  refine List.ext_getElem (by simp) (fun i h1 h2 => ?_)
  rw [List.getElem_set]
  split
  · rename_i hi; subst hi; simp [List.getD, List.getElem?_eq_getElem h2]
  · rfl
end Hf

set_option maxHeartbeats 800000 in
set_option maxRecDepth 100000 in
theorem flatten_word (n cap B gs : Nat) (X : List Int) (w : World) (hn : n ≤ 100000) (hl : X.length = n) (hx : ∀ j, X.getD j 0 ≤ 1073741824)
    (hown : w.ownsRow B 3 1 (.slice (some ⟨gs, 0, none⟩) n cap) n (X.map (Value.int .i64))) :
    Calls Try.prog 30 #[.slice (some ⟨gs, 0, none⟩) n cap] w fun e w' => e = .returned (.tuple #[]) ∧ w'.ownsRow B 3 1 (.slice (some ⟨gs, 0, none⟩) n cap) n ((X.map flatC).map (Value.int .i64)) ∧ w.grownBy w' (some gs) := by
  have HO := hid hown
  have HL := hid hl
  have HX := hid hx
  clear hown hl hx
  go_enter Try.func30, Try.ntmps30
  go_wp2
  go_loopw [6] (fun y wr => ∃ k : Nat, k ≤ n ∧ y = .int .i64 k ∧ Hid (wr.ownsRow B 3 1 (.slice (some ⟨gs, 0, none⟩) n cap) n ((flatK X k).map (Value.int .i64))) ∧ Hid (w.grownBy wr (some gs))) (fun y _ => n - (intOf y).toNat)
  case atStart => exact ⟨0, by omega, rfl, HO, World.grownBy.refl _ _⟩
  case round =>
    clear HO
    obtain ⟨k, hk, rfl, HO, HG⟩ := hrel
    by_cases hlt : k < n
    · have hkz : (k : Int) < (n : Int) := by omega
      have HXL : Hid ((flatK X k).length = n) := by show _ = _; rw [flatK_length, HL.out]
      have c1 := own_cell HO.out HXL.out k hlt
      rw [flatK_getD X k (by rw [HL.out]; exact hk), if_neg (by omega)] at c1
      have f1 := HO.out.frozenAt k
      have h1 := HO.out.stored k (.int .i64 (flatC (X.getD k 0)))
      rw [← List.map_set] at h1
      have HS : Hid ((wr.setCell ⟨gs, k, none⟩ (.int .i64 (flatC (X.getD k 0)))).ownsRow B 3 1 (.slice (some ⟨gs, 0, none⟩) n cap) n ((flatK X (k + 1)).map (Value.int .i64)) ∧ w.grownBy (wr.setCell ⟨gs, k, none⟩ (.int .i64 (flatC (X.getD k 0)))) (some gs)) := ⟨h1.1, grown_trans HG.out h1.2⟩
      have HKP := hid (flatK_keep X k (by rw [HL.out]; exact hlt))
      have hub := HX.out k
      clear h1 HXL
      by_cases hz : 0 < X.getD k 0
      · obtain ⟨c, hc⟩ : ∃ c : Nat, X.getD k 0 = (c : Int) := ⟨(X.getD k 0).toNat, by omega⟩
        have hv : flatC (X.getD k 0) = (c : Int) / 2 + 1 := by unfold flatC; rw [if_pos hz, hc]
        rw [hv] at HS
        rw [hc] at c1 hz hub
        clear hv hc HKP HO HG
        obtain ⟨q, hq⟩ : ∃ q : Nat, (c : Int) / 2 = (q : Int) := ⟨c / 2, by omega⟩
        have hqb : q ≤ 1073741824 := by omega
        have htd : (c : Int).tdiv 2 = (q : Int) := by rw [Int.tdiv_eq_ediv_of_nonneg (by omega)]; exact hq
        rw [hq] at HS
        clear hq
        go_wp2
        exact ⟨⟨k + 1, by omega, by go_num, HS.out.1, HS.out.2⟩, by simp [intOf]; omega⟩
      · have hkp := HKP.out hz
        have HO2 : Hid (wr.ownsRow B 3 1 (.slice (some ⟨gs, 0, none⟩) n cap) n ((flatK X (k + 1)).map (Value.int .i64))) := by show World.ownsRow _ _ _ _ _ _ _; rw [hkp]; exact HO.out
        clear hkp HKP HS HO
        generalize X.getD k 0 = z at *
        go_wp2
        exact ⟨⟨k + 1, by omega, by go_num, HO2, HG⟩, by simp [intOf]; omega⟩
    · obtain hke : k = n := by omega
      have HO2 : Hid (wr.ownsRow B 3 1 (.slice (some ⟨gs, 0, none⟩) n cap) n ((X.map flatC).map (Value.int .i64))) := by
        show World.ownsRow _ _ _ _ _ _ _
        rw [← flatK_all, HL.out, ← hke]; rw [← hke] at HO; exact HO.out
      have hkz : ¬ (k : Int) < (n : Int) := by omega
      clear hke HO
      go_wp2
      go_end0
      exact ⟨rfl, by first | exact HO2.out | simpa using HO2.out, HG.out⟩
end Go.Proofs.Ytgecoiakhmnilaa
