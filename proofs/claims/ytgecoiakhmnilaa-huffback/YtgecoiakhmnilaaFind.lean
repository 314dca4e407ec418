/-
  The contracts of huff's find and byLength, and of the document's One.
-/
import Derived.Test.YtgecoiakhmnilaaBitW
import Derived.Test.YtgecoiakhmnilaaBoth
namespace Go.Proofs.Ytgecoiakhmnilaa
open Go.RowKit Hf

theorem first_lt {zs : List Int} (h : checkB zs = true) (l : Nat) (hl : l ≤ 15) : first zs l + cnt zs l ≤ 32768 := by
  have h1 := first_cnt_le h l hl
  have h2 : 2 ^ l ≤ 2 ^ 15 := Nat.pow_le_pow_right (by decide) hl
  omega
theorem vb_small (b : List Int) (at' l : Nat) (hl : l ≤ 15) : vb b at' l < 32768 := by
  have h1 := vb_lt b at' l
  have h2 : 2 ^ l ≤ 2 ^ 15 := Nat.pow_le_pow_right (by decide) hl
  omega

set_option maxHeartbeats 1600000 in
set_option maxRecDepth 100000 in
theorem find_word (a : Option Addr) (cap : Nat) (zs b : List Int) (at' : Nat) (w : World) (hr : Ri w .u8 a cap b) (hc : checkB zs = true) (hn : b.length ≤ 1000) (hat : at' ≤ 100000) :
    Calls Try.prog 41 #[.agg (arr .i64 (tal zs)), .slice a b.length cap, .int .i64 (at' : Int)] w fun e w' => e = .returned (.tuple #[.int .i64 (fnd zs b at').1, .int .i64 (fnd zs b at').2]) ∧ Below w.heap.size w w' := by
  have b1 := bel_alloc w (.cells (arr .i64 (tal zs)) 59)
  have e1 := heap_new w (.cells (arr .i64 (tal zs)) 59)
  have HM : Hid (∀ l, l < 16 → (w.alloc (.cells (arr .i64 (tal zs)) 59)).cell? ⟨w.heap.size, l, none⟩ = some (.int .i64 ((cnt zs l : Nat) : Int))) := fun l hl => by
    have := (Joins.cell_of_block e1 l).trans (arr_get .i64 (tal zs) l (by rw [tal_length]; exact hl))
    rwa [tal_getD zs l hl] at this
  have HR := hid (hr.later b1)
  have HB1 := hid b1
  have HF := hid (fun l hl => first_lt hc l hl)
  have HFN := hid (show fnd zs b at' = fndG zs b at' 16 1 from rfl)
  have HZL := hid (len_rng hc).1
  obtain ⟨len, hl⟩ : ∃ n, n = b.length := ⟨_, rfl⟩
  have HL := hid hl
  have HBT : Hid (∀ p, p < 8 * len → Calls Try.prog 49 #[.slice a len cap, .int .i64 (p : Int)] (w.alloc (.cells (arr .i64 (tal zs)) 59)) fun e w' => e = .returned (.int .i64 ((bitV b p : Nat) : Int)) ∧ w' = (w.alloc (.cells (arr .i64 (tal zs)) 59))) := fun p hp => by
    rw [hl]
    exact bit_word a cap b p _ HR.out (by rw [← hl]; exact hp) hn
  rw [← hl] at hn ⊢
  clear hr hc b1 e1 hl HR
  go_enter Try.func41, Try.ntmps41
  go_wp2
  generalize w.alloc (.cells (arr .i64 (tal zs)) 59) = wA at *
  go_loop [2, 8, 9, 10, 11] (fun x2 x8 x9 x10 x11 => ∃ l : Nat, 1 ≤ l ∧ l ≤ 16 ∧ x11 = .int .i64 l ∧ x2 = .int .i64 (((at' + (l - 1) : Nat)) : Int) ∧ x8 = .int .i64 ((vb b at' (l - 1) : Nat) : Int) ∧ x9 = .int .i64 ((first zs l : Nat) : Int) ∧ x10 = .int .i64 ((plc zs l : Nat) : Int) ∧ Hid (fnd zs b at' = fndG zs b at' (17 - l) l)) (fun _ _ _ _ x11 => 16 - (intOf x11).toNat)
  case atStart => exact ⟨1, by omega, by omega, rfl, by simp, by simp [vb], by simp [first, cnt_zero], by simp [plc, cnt_zero], HFN⟩
  case round =>
    clear HFN
    obtain ⟨l, hl1, hl2, rfl, rfl, rfl, rfl, rfl, HFN⟩ := hrel
    by_cases hlt : l < 16
    · have hlz : (l : Int) < 16 := by omega
      have HG := hid (show fndG zs b at' (17 - l) l = if l < 16 ∧ at' + l ≤ 8 * b.length then (if vb b at' l < first zs l + cnt zs l then ((plc zs l : Int) + (vb b at' l : Int) - (first zs l : Int), (l : Int)) else fndG zs b at' (17 - (l + 1)) (l + 1)) else (0, 0) from by
        rw [show 17 - l = (17 - (l + 1)) + 1 from by omega, fndG])
      obtain ⟨p, hp⟩ : ∃ p, p = at' + (l - 1) := ⟨_, rfl⟩
      rw [← hp]
      have HPP : Hid (p + 1 = at' + l) := by show _ = _; omega
      have hp3 : p ≤ 100016 := by omega
      clear hp
      by_cases hpl : p < 8 * len
      · have hplz : (p : Int) < 8 * (len : Int) := by omega
        have cm := HM.out l hlt
        have HB := hid (HBT.out p hpl)
        have hv0 := vb_small b at' (l - 1) (by omega)
        have HV : Hid (vb b at' l = vb b at' (l - 1) * 2 + bitV b p) := by
          show _ = _
          have h := HPP.out
          conv => lhs; rw [show l = (l - 1) + 1 from by omega, vb]
          rw [show at' + (l - 1) = p from by omega]
        have hv1 := vb_small b at' l (by omega)
        have hbv := bitV_lt b p
        have hfc := HF.out l (by omega)
        have hpc := plc_le zs l
        have hpc2 : l * zs.length ≤ 16 * 512 := Nat.mul_le_mul hl2 HZL.out
        have HFS : Hid (first zs (l + 1) = (first zs l + cnt zs l) * 2) := rfl
        have HPS : Hid (plc zs (l + 1) = plc zs l + cnt zs l) := rfl
        rw [if_pos ⟨hlt, by have := HPP.out; have := HL.out; omega⟩] at HG
        have hvv := HV.out
        have HVL : Hid (∀ m, m = l → vb b at' m = vb b at' l) := fun m hm => by rw [hm]
        generalize vb b at' (l - 1) = v0 at *
        generalize vb b at' l = v at *
        generalize bitV b p = bt at *
        generalize first zs l = fl at *
        generalize cnt zs l = cl at *
        generalize plc zs l = pl at *
        have hor : bits .or .i64 ((v0 : Int) * 2) (bt : Int) = (v : Int) := by
          rw [or_bit v0 bt (by omega) hbv, ← hvv]
        clear hvv HV
        go_wp2_with fail
        refine HB.out.mono ?_
        rintro _ w2 ⟨rfl, hw⟩
        obtain rfl := hw.symm
        clear hw
        by_cases hhit : v < fl + cl
        · have hhz : (v : Int) - (fl : Int) < (cl : Int) := by omega
          rw [if_pos hhit] at HG
          go_wp2
          go_ret2
          exact ⟨by rw [HFN.out, HG.out]; rfl, HB1.out⟩
        · have hhz : ¬ (v : Int) - (fl : Int) < (cl : Int) := by omega
          rw [if_neg hhit] at HG
          go_wp2
          have hpp := HPP.out
          exact ⟨⟨l + 1, by omega, by omega, by go_num, by go_num, by rw [HVL.out (l + 1 - 1) (by omega)], by rw [HFS.out]; go_num, by rw [HPS.out]; go_num, hid (HFN.out.trans HG.out)⟩, by simp [intOf]; omega⟩
      · have hplz : ¬ (p : Int) < 8 * (len : Int) := by omega
        rw [if_neg (fun h => by have := HPP.out; have := HL.out; omega)] at HG
        generalize vb b at' (l - 1) = v0 at *
        generalize first zs l = fl at *
        generalize plc zs l = pl at *
        go_wp2
        go_ret2
        exact ⟨by rw [HFN.out, HG.out]; rfl, HB1.out⟩
    · obtain rfl : l = 16 := by omega
      have HG := hid (show fndG zs b at' (17 - 16) 16 = (0, 0) from rfl)
      generalize vb b at' (16 - 1) = v0 at *
      generalize first zs 16 = fl at *
      generalize plc zs 16 = pl at *
      go_wp2
      go_ret2
      exact ⟨by rw [HFN.out, HG.out]; rfl, HB1.out⟩
end Go.Proofs.Ytgecoiakhmnilaa
