/-
  The contract of the document's One.
-/
import Derived.Test.YtgecoiakhmnilaaDecG
namespace Go.Proofs.Ytgecoiakhmnilaa
open Go.RowKit Hf

theorem code_val {zs : List Int} (h : checkB zs = true) (s l : Nat) (hs : s < zs.length) (hz : zs.getD s 0 = (l : Int)) (h0 : 0 < l) (hl : l ≤ 15) : (codesL zs).getD s 0 = ((codeN zs s : Nat) : Int) := by
  have h1 := first_lt h l hl
  have h2 := cnt_take_lt zs s l hs hz h0
  have h3 := codeN_eq zs s l hz
  rw [codesL_getD zs s hs]; unfold codeF; rw [if_pos (by omega), Nat.mod_eq_of_lt (by omega)]

set_option maxHeartbeats 1600000 in
set_option maxRecDepth 100000 in
theorem one_ref (a : Option Addr) (cap : Nat) (zs : List Int) (ac : Option Addr) (cc : Nat) (a2 : Option Addr) (cap2 : Nat) (b : List Int) (at' : Nat) (w : World) (hr : Ri w .i64 a cap zs) (hrc : Ri w .u16 ac cc (codesL zs)) (hr2 : Ri w .u8 a2 cap2 b) (hc : checkB zs = true) (hn : b.length ≤ 1000) (hat : at' ≤ 100000) :
    Calls Try.prog 42 #[.slice a zs.length cap, .slice ac zs.length cc, .slice a2 b.length cap2, .int .i64 (at' : Int)] w fun e w' => e = .returned (.tuple #[.int .i64 (oneF zs b at').1, .int .i64 (oneF zs b at').2]) ∧ w' = w := by
  have HCV := hid (fun s l => code_val hc s l)
  have HRC := hid hrc
  have HR := hid hr
  have HCL := hid (codesL_length zs)
  have HFN := hid (show oneF zs b at' = oneG zs b at' 16 1 from rfl)
  have HZL := hid (len_rng hc).1
  obtain ⟨len, hl⟩ : ∃ n, n = zs.length := ⟨_, rfl⟩
  obtain ⟨len2, hl2⟩ : ∃ n, n = b.length := ⟨_, rfl⟩
  have HL := hid hl
  have HL2 := hid hl2
  have HBT : Hid (∀ p, p < 8 * len2 → Calls Try.prog 50 #[.slice a2 len2 cap2, .int .i64 (p : Int)] w fun e w' => e = .returned (.int .i64 ((bitV b p : Nat) : Int)) ∧ w' = w) := fun p hp => by
    rw [hl2]
    exact bit_ref a2 cap2 b p _ hr2 (by rw [← hl2]; exact hp) hn
  rw [← hl2] at hn ⊢
  rw [← hl]
  have hlen : len ≤ 512 := by rw [hl]; exact HZL.out
  clear hr hr2 hrc hc hl hl2
  go_enter Try.func42, Try.ntmps42
  go_wp2
  go_loop [10, 11] (fun x10 x11 => ∃ l : Nat, 1 ≤ l ∧ l ≤ 16 ∧ x11 = .int .i64 l ∧ x10 = .int .i64 ((vb b at' (l - 1) : Nat) : Int) ∧ Hid (oneF zs b at' = oneG zs b at' (17 - l) l)) (fun _ x11 => 16 - (intOf x11).toNat)
  case atStart => exact ⟨1, by omega, by omega, rfl, by simp [vb], HFN⟩
  case round =>
    clear HFN
    obtain ⟨l, hl1, hl2, rfl, rfl, HFN⟩ := hrel
    by_cases hlt : l ≤ 15
    · have hlz : (l : Int) ≤ 15 := by omega
      have HG := hid (show oneG zs b at' (17 - l) l = if l < 16 ∧ at' + l ≤ 8 * b.length then (match who zs l (vb b at' l) with | some s => ((s : Int), (l : Int)) | none => oneG zs b at' (17 - (l + 1)) (l + 1)) else (-1, 0) from by
        rw [show 17 - l = (17 - (l + 1)) + 1 from by omega, oneG]; rfl)
      by_cases hpl : at' + l ≤ 8 * len2
      · have hplz : (at' : Int) + (l : Int) ≤ 8 * (len2 : Int) := by omega
        rw [if_pos ⟨by omega, by rw [← HL2.out]; exact hpl⟩] at HG
        have HB := hid (HBT.out (at' + (l - 1)) (by omega))
        have hpi : (at' : Int) + (l : Int) - 1 = ((at' + (l - 1) : Nat) : Int) := by omega
        have hv0 := vb_small b at' (l - 1) (by omega)
        have HV : Hid (vb b at' l = vb b at' (l - 1) * 2 + bitV b (at' + (l - 1))) := by
          show _ = _
          conv => lhs; rw [show l = (l - 1) + 1 from by omega, vb]
        have hv1 := vb_small b at' l (by omega)
        have hbv := bitV_lt b (at' + (l - 1))
        have hvv := HV.out
        have HVL : Hid (∀ m, m = l → vb b at' m = vb b at' l) := fun m hm => by rw [hm]
        generalize vb b at' (l - 1) = v0 at *
        generalize bitV b (at' + (l - 1)) = bt at *
        obtain ⟨p, hp⟩ : ∃ p, p = at' + (l - 1) := ⟨_, rfl⟩
        rw [← hp] at hpi HB
        have hsum : (v0 : Int) * 2 + (bt : Int) = ((vb b at' l : Nat) : Int) := by omega
        clear hvv HV hp
        generalize vb b at' l = v at *
        go_wp2_with fail
        refine HB.out.mono ?_
        rintro _ w2 ⟨rfl, hw⟩
        obtain rfl := hw.symm
        clear hw
        go_wp2_with fail
        go_loop [12] (fun x12 => ∃ i : Nat, i ≤ len ∧ x12 = .int .i64 i ∧ Hid (∀ j, j < i → zs.getD j 0 = (l : Int) → codeN zs j ≠ v)) (fun x12 => len - (intOf x12).toNat)
        case atStart => exact ⟨0, by omega, rfl, fun j hj => absurd hj (by omega)⟩
        case round =>
          obtain ⟨i, hi, rfl, HN⟩ := hrel
          by_cases hil : i < len
          · have hilz : (i : Int) < (len : Int) := by omega
            have HZ : Hid (i < zs.length) := by show _ < _; rw [← HL.out]; exact hil
            obtain ⟨b1, o1, ha1, hb1, hc1⟩ := (HR.out).cells (by rw [← HL.out]; omega)
            obtain ⟨b2, o2, ha2, hb2, hc2⟩ := (HRC.out).cells (by rw [HCL.out, ← HL.out]; omega)
            have k1 := hc1 i HZ.out
            have k2 := hc2 i (by rw [HCL.out]; exact HZ.out)
            have hcr := codesL_rng zs i
            subst ha1 ha2
            clear hc1 hc2
            by_cases hz : zs.getD i 0 = (l : Int)
            · have hcv := HCV.out i l HZ.out hz (by omega) hlt
              rw [hz] at k1
              have hll : ((l : Int) == (l : Int)) = true := by simp
              rw [hcv] at k2 hcr
              by_cases hcod : codeN zs i = v
              · have HW := hid (who_some (c := v) (by omega) HZ.out hz hcod)
                rw [HW.out] at HG
                have hcc : (((codeN zs i : Nat) : Int) == (v : Int)) = true := by simp [hcod]
                clear hcod hcv hz
                generalize codeN zs i = c at *
                go_wp2
                go_ret2
                exact ⟨by rw [HFN.out, HG.out]; rfl, rfl⟩
              · have hcc : (((codeN zs i : Nat) : Int) == (v : Int)) = false := by simp; omega
                have HN2 : Hid (∀ j, j < i + 1 → zs.getD j 0 = (l : Int) → codeN zs j ≠ v) := fun j hj => by
                  by_cases hji : j = i
                  · subst hji; exact fun _ => hcod
                  · exact HN.out j (by omega)
                clear hcod hcv hz
                generalize codeN zs i = c at *
                go_wp2
                exact ⟨⟨i + 1, by omega, by go_num, HN2⟩, by simp [intOf]; omega⟩
            · have hll : (zs.getD i 0 == (l : Int)) = false := by simpa using hz
              have HN2 : Hid (∀ j, j < i + 1 → zs.getD j 0 = (l : Int) → codeN zs j ≠ v) := fun j hj => by
                by_cases hji : j = i
                · subst hji; exact fun h => absurd h hz
                · exact HN.out j (by omega)
              clear hz
              generalize zs.getD i 0 = z at *
              generalize (codesL zs).getD i 0 = c at *
              go_wp2
              exact ⟨⟨i + 1, by omega, by go_num, HN2⟩, by simp [intOf]; omega⟩
          · obtain hie : i = len := by omega
            have HW := hid (who_none (zs := zs) (l := l) (c := v) (fun s hs => HN.out s (by rw [hie, HL.out]; exact hs)))
            rw [HW.out] at HG
            have hilz : ¬ (i : Int) < (len : Int) := by omega
            clear hie
            go_wp2
            exact ⟨⟨l + 1, by omega, by omega, by go_num, by rw [HVL.out (l + 1 - 1) (by omega)], hid (HFN.out.trans HG.out)⟩, by simp [intOf]; omega⟩
      · have hplz : ¬ (at' : Int) + (l : Int) ≤ 8 * (len2 : Int) := by omega
        rw [if_neg (fun h => by have := HL2.out; omega)] at HG
        generalize vb b at' (l - 1) = v0 at *
        go_wp2
        go_ret2
        exact ⟨by rw [HFN.out, HG.out]; rfl, rfl⟩
    · obtain rfl : l = 16 := by omega
      have HG := hid (show oneG zs b at' (17 - 16) 16 = (-1, 0) from rfl)
      generalize vb b at' (16 - 1) = v0 at *
      go_wp2
      go_ret2
      exact ⟨by rw [HFN.out, HG.out]; rfl, rfl⟩
end Go.Proofs.Ytgecoiakhmnilaa
