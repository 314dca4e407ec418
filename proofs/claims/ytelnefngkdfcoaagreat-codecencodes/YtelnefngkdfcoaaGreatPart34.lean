/-
  The document's runs.
-/
import Derived.Test.YtelnefngkdfcoaaGreatPart33
import Derived.Test.YtelnefngkdfcoaaGreatPart10
namespace Go.Proofs.YtelnefngkdfcoaaGreat
open Go.RowKit Lz

set_option maxHeartbeats 3200000 in
set_option maxRecDepth 100000 in
theorem rruns_ref (a : Option Addr) (cap : Nat) (zs : List Int) (w : World) (hr : Ri w .i64 a cap zs) (hn : zs.length ≤ 1000) (hz : ∀ j, 0 ≤ zs.getD j 0 ∧ zs.getD j 0 ≤ 255) :
    Calls Tryz.prog 31 #[.slice a zs.length cap] w fun e w' => ∃ v, e = .returned v ∧ w'.ownsRow w.heap.size 5 1 v (runsL zs).length ((runsL zs).map (Value.int .u8)) ∧ Below w.heap.size w w' := by
  obtain ⟨i0, hi, hz0, hz1, hz2⟩ := info_parts Tryz.info5Z
  have HR := hid hr
  have HZ := hid hz
  have hroom := hr.room
  obtain ⟨len, hle⟩ : ∃ n, n = zs.length := ⟨_, rfl⟩
  have HL := hid hle
  rw [← hle] at hn hroom ⊢
  clear hr hle hz
  go_enter Tryz.func31, Tryz.ntmps31
  go_wp2_with fail
  go_loopw [3, 4, 5] (fun v i _ wr => ∃ (k f : Nat) (acc : List Int), k ≤ len ∧ i = .int .i64 (k : Int) ∧ Hid (len - k ≤ f) ∧ Hid (acc ++ runsF f (zs.drop k) = runsL zs) ∧ Hid (acc.length ≤ 3 * k) ∧ Hid (wr.ownsRow w.heap.size 5 1 v acc.length (acc.map (Value.int .u8))) ∧ Hid (Below w.heap.size w wr)) (fun _ i _ _ => len - (intOf i).toNat)
  case atStart => exact ⟨0, len, [], by omega, rfl, by show len - 0 ≤ len; omega, by rw [HL.out]; rfl, by show 0 ≤ 3 * 0; omega, World.ownsRow_nil _ _ _ _, Below.refl _ _⟩
  case round =>
    obtain ⟨k, f, acc, hk, rfl, HF, HACC, HAL, HO, HB⟩ := hrel
    by_cases hlt : k < len
    · have hkl : (k : Int) < (len : Int) := by omega
      go_wp2_with fail
      go_loopw [5] (fun j wr2 => ∃ p : Nat, j = .int .i64 (p : Int) ∧ 0 < p ∧ k + p ≤ len ∧ Hid (∀ q, k < q → q < k + p → zs.getD q 0 = zs.getD k 0) ∧ Hid (wr2.ownsRow w.heap.size 5 1 u3 acc.length (acc.map (Value.int .u8))) ∧ Hid (Below w.heap.size w wr2)) (fun j _ => len - (intOf j).toNat)
      case atStart => exact ⟨1, rfl, by omega, by omega, fun q h1 h2 => by omega, HO.out, HB.out⟩
      case round =>
        obtain ⟨p, rfl, hp1, hp2, HS, HO2, HB2⟩ := hrel
        by_cases hpl : k + p < len
        · obtain ⟨q, hq0⟩ : ∃ q : Nat, q = k + p := ⟨_, rfl⟩
          have HQ := hid hq0
          have HWR : Hid (IntKind.i64.wrap ((k : Int) + (p : Int)) = (q : Int)) := by show _ = _; rw [IntWalk.i64_in _ ⟨by omega, by omega⟩]; omega
          have hpi : (q : Int) < (len : Int) := by omega
          rw [← hq0] at hpl
          clear hq0
          obtain ⟨b, off, rfl, hbw, hc⟩ := HR.out.cells (by rw [← HL.out]; omega)
          have cp := (HB2.out.drew.cell (p := ⟨b, off + q, none⟩) hbw).trans (hc q (by rw [← HL.out]; exact hpl))
          have ck := (HB2.out.drew.cell (p := ⟨b, off + k, none⟩) hbw).trans (hc k (by rw [← HL.out]; exact hlt))
          clear hc
          have HB3 := hid HB2.out.drew
          have HO3 := hid HO2.out.drew
          by_cases hq : zs.getD q 0 = zs.getD k 0
          · have HS2 : Hid (∀ q', k < q' → q' < k + (p + 1) → zs.getD q' 0 = zs.getD k 0) := fun q' h1 h2 => by
              by_cases e : q' = q
              · rw [e]; exact hq
              · exact HS.out q' h1 (by have := HQ.out; omega)
            rw [hq] at cp
            clear HS hq HB2 HO2
            generalize zs.getD k 0 = z at *
            go_wp2_with fail
            refine wp_region_held_drew (S := fun V => V = wr.drew) (by kernel_rfl) rfl (fun hS0 => ?_)
            generalize wr.drew = v0 at *
            refine Ord.take (i := 0) (d := 10) (v := ?vA0) rfl rfl (by as_aux_lemma => kernel_rfl) (by as_aux_lemma => kernel_rfl) (by as_aux_lemma => kernel_rfl) (fun _ _ _ h => h) (by rfl) ?hA0 (by assumption) ?_
            case hA0 => intro w hSw; have hq : w = v0 := hSw; subst hq; go_simp; try with_reducible rfl
            simp only [List.setIfInBounds_toArray, List.set_cons_zero, List.set_cons_succ]
            refine Ord.take (i := 1) (d := 11) (v := ?vA1) rfl rfl (by as_aux_lemma => kernel_rfl) (by as_aux_lemma => kernel_rfl) (by as_aux_lemma => kernel_rfl) (fun _ _ _ h => h) (by rfl) ?hA1 (by assumption) ?_
            case hA1 => intro w hSw; have hq : w = v0 := hSw; subst hq; go_simp; try with_reducible rfl
            simp only [List.setIfInBounds_toArray, List.set_cons_zero, List.set_cons_succ]
            refine Ord.take (i := 2) (d := 12) (v := .int .i64 (q : Int)) rfl rfl (by as_aux_lemma => kernel_rfl) (by as_aux_lemma => kernel_rfl) (by as_aux_lemma => kernel_rfl) (fun _ _ _ h => h) (by rfl) ?hA2 (by assumption) ?_
            case hA2 => intro w hSw; have hq : w = v0 := hSw; subst hq; go_simp; all_goals exact HWR.out
            simp only [List.setIfInBounds_toArray, List.set_cons_zero, List.set_cons_succ]
            refine Ord.take (i := 3) (d := 13) (v := ?vA3) rfl rfl (by as_aux_lemma => kernel_rfl) (by as_aux_lemma => kernel_rfl) (by as_aux_lemma => kernel_rfl) (fun _ _ _ h => h) (by rfl) ?hA3 (by assumption) ?_
            case hA3 => intro w hSw; have hq : w = v0 := hSw; subst hq; go_simp; try with_reducible rfl
            simp only [List.setIfInBounds_toArray, List.set_cons_zero, List.set_cons_succ]
            refine Ord.take (i := 4) (d := 14) (v := ?vA4) rfl rfl (by as_aux_lemma => kernel_rfl) (by as_aux_lemma => kernel_rfl) (by as_aux_lemma => kernel_rfl) (fun _ _ _ h => h) (by rfl) ?hA4 (by assumption) ?_
            case hA4 => intro w hSw; have hq : w = v0 := hSw; subst hq; go_simp; try with_reducible rfl
            simp only [List.setIfInBounds_toArray, List.set_cons_zero, List.set_cons_succ]
            refine Ord.take (i := 5) (d := 15) (v := .bool true) rfl rfl (by as_aux_lemma => kernel_rfl) (by as_aux_lemma => kernel_rfl) (by as_aux_lemma => kernel_rfl) (fun _ _ _ h => h) (by rfl) ?hA5 (by assumption) ?_
            case hA5 => intro w hSw; have hq : w = v0 := hSw; subst hq; go_simp; try with_reducible rfl
            simp only [List.setIfInBounds_toArray, List.set_cons_zero, List.set_cons_succ]
            refine Ord.take (i := 6) (d := 16) (v := ?vA6) rfl rfl (by as_aux_lemma => kernel_rfl) (by as_aux_lemma => kernel_rfl) (by as_aux_lemma => kernel_rfl) (fun _ _ _ h => h) (by rfl) ?hA6 (by assumption) ?_
            case hA6 => intro w hSw; have hq : w = v0 := hSw; subst hq; go_simp; try with_reducible rfl
            simp only [List.setIfInBounds_toArray, List.set_cons_zero, List.set_cons_succ]
            refine Ord.take (i := 7) (d := 17) (v := ?vA7) rfl rfl (by as_aux_lemma => kernel_rfl) (by as_aux_lemma => kernel_rfl) (by as_aux_lemma => kernel_rfl) (fun _ _ _ h => h) (by rfl) ?hA7 (by assumption) ?_
            case hA7 => intro w hSw; have hq : w = v0 := hSw; subst hq; go_simp; try with_reducible rfl
            simp only [List.setIfInBounds_toArray, List.set_cons_zero, List.set_cons_succ]
            refine Ord.take (i := 8) (d := 18) (v := ?vA8) rfl rfl (by as_aux_lemma => kernel_rfl) (by as_aux_lemma => kernel_rfl) (by as_aux_lemma => kernel_rfl) (fun _ _ _ h => h) (by rfl) ?hA8 (by assumption) ?_
            case hA8 => intro w hSw; have hq : w = v0 := hSw; subst hq; go_simp; try with_reducible rfl
            simp only [List.setIfInBounds_toArray, List.set_cons_zero, List.set_cons_succ]
            refine Ord.take (i := 9) (d := 19) (v := ?vA9) rfl rfl (by as_aux_lemma => kernel_rfl) (by as_aux_lemma => kernel_rfl) (by as_aux_lemma => kernel_rfl) (fun _ _ _ h => h) (by rfl) ?hA9 (by assumption) ?_
            case hA9 => intro w hSw; have hq : w = v0 := hSw; subst hq; go_simp; try with_reducible rfl
            simp only [List.setIfInBounds_toArray, List.set_cons_zero, List.set_cons_succ]
            refine Ord.take (i := 10) (d := 20) (v := .int .i64 (q : Int)) rfl rfl (by as_aux_lemma => kernel_rfl) (by as_aux_lemma => kernel_rfl) (by as_aux_lemma => kernel_rfl) (fun _ _ _ h => h) (by rfl) ?hA10 (by assumption) ?_
            case hA10 => intro w hSw; have hq : w = v0 := hSw; subst hq; go_simp; all_goals exact HWR.out
            simp only [List.setIfInBounds_toArray, List.set_cons_zero, List.set_cons_succ]
            refine Ord.take (i := 11) (d := 21) (v := .pointer (some ⟨b, off + q, none⟩)) rfl rfl (by as_aux_lemma => kernel_rfl) (by as_aux_lemma => kernel_rfl) (by as_aux_lemma => kernel_rfl) (fun _ _ _ h => h) (by rfl) ?hA11 (by assumption) ?_
            case hA11 => intro w hSw; have hq : w = v0 := hSw; subst hq; go_simp; try with_reducible rfl
            simp only [List.setIfInBounds_toArray, List.set_cons_zero, List.set_cons_succ]
            refine Ord.take (i := 12) (d := 22) (v := .int .i64 z) rfl rfl (by as_aux_lemma => kernel_rfl) (by as_aux_lemma => kernel_rfl) (by as_aux_lemma => kernel_rfl) (fun _ _ _ h => h) (by rfl) ?hA12 (by assumption) ?_
            case hA12 => intro w hSw; have hq : w = v0 := hSw; subst hq; go_simp; try with_reducible rfl
            simp only [List.setIfInBounds_toArray, List.set_cons_zero, List.set_cons_succ]
            refine Ord.take (i := 13) (d := 23) (v := ?vA13) rfl rfl (by as_aux_lemma => kernel_rfl) (by as_aux_lemma => kernel_rfl) (by as_aux_lemma => kernel_rfl) (fun _ _ _ h => h) (by rfl) ?hA13 (by assumption) ?_
            case hA13 => intro w hSw; have hq : w = v0 := hSw; subst hq; go_simp; try with_reducible rfl
            simp only [List.setIfInBounds_toArray, List.set_cons_zero, List.set_cons_succ]
            refine Ord.take (i := 14) (d := 24) (v := ?vA14) rfl rfl (by as_aux_lemma => kernel_rfl) (by as_aux_lemma => kernel_rfl) (by as_aux_lemma => kernel_rfl) (fun _ _ _ h => h) (by rfl) ?hA14 (by assumption) ?_
            case hA14 => intro w hSw; have hq : w = v0 := hSw; subst hq; go_simp; try with_reducible rfl
            simp only [List.setIfInBounds_toArray, List.set_cons_zero, List.set_cons_succ]
            refine Ord.take (i := 15) (d := 25) (v := .pointer (some ⟨b, off + k, none⟩)) rfl rfl (by as_aux_lemma => kernel_rfl) (by as_aux_lemma => kernel_rfl) (by as_aux_lemma => kernel_rfl) (fun _ _ _ h => h) (by rfl) ?hA15 (by assumption) ?_
            case hA15 => intro w hSw; have hq : w = v0 := hSw; subst hq; go_simp; try with_reducible rfl
            simp only [List.setIfInBounds_toArray, List.set_cons_zero, List.set_cons_succ]
            refine Ord.take (i := 16) (d := 26) (v := .int .i64 z) rfl rfl (by as_aux_lemma => kernel_rfl) (by as_aux_lemma => kernel_rfl) (by as_aux_lemma => kernel_rfl) (fun _ _ _ h => h) (by rfl) ?hA16 (by assumption) ?_
            case hA16 => intro w hSw; have hq : w = v0 := hSw; subst hq; go_simp; try with_reducible rfl
            simp only [List.setIfInBounds_toArray, List.set_cons_zero, List.set_cons_succ]
            refine Ord.take (i := 17) (d := 27) (v := .bool true) rfl rfl (by as_aux_lemma => kernel_rfl) (by as_aux_lemma => kernel_rfl) (by as_aux_lemma => kernel_rfl) (fun _ _ _ h => h) (by rfl) ?hA17 (by assumption) ?_
            case hA17 => intro w hSw; have hq : w = v0 := hSw; subst hq; go_simp; try with_reducible rfl
            simp only [List.setIfInBounds_toArray, List.set_cons_zero, List.set_cons_succ]
            refine Ord.take (i := 18) (d := 28) (v := .bool true) rfl rfl (by as_aux_lemma => kernel_rfl) (by as_aux_lemma => kernel_rfl) (by as_aux_lemma => kernel_rfl) (fun _ _ _ h => h) (by rfl) ?hA18 (by assumption) ?_
            case hA18 => intro w hSw; have hq : w = v0 := hSw; subst hq; go_simp; try with_reducible rfl
            simp only [List.setIfInBounds_toArray, List.set_cons_zero, List.set_cons_succ]
            refine wpAnyH_done (by as_aux_lemma => kernel_rfl) ?_ _
            clear cp ck
            generalize v0 = W at *
            go_wp2
            have hq0 := HQ.out
            exact ⟨⟨p + 1, by go_num, by omega, by omega, HS2.out, HO3.out, HB3.out⟩, by simp [intOf]; omega⟩
          · have HEND : q = zs.length ∨ zs.getD q 0 ≠ zs.getD k 0 := Or.inr hq
            have hqb : (zs.getD q 0 == zs.getD k 0) = false := by rw [beq_eq_false_iff_ne]; exact hq
            clear hq
            clear HO2 HB2 HO HB
            have hzr := HZ.out k
            have HST := hid (runs_step zs k q (f - 1) (by have := HQ.out; omega) (by rw [← HL.out]; have := HQ.out; omega) (by rw [HQ.out]; exact HS.out) HEND)
            have HF1 : Hid (f - 1 + 1 = f) := by show f - 1 + 1 = f; have := HF.out; omega
            rw [HF1.out] at HST
            have HVI := hid (fun W => varr_ri (p : Int) W (by omega) (by omega))
            have HVL := hid (vint_short (p : Int) (by omega) (by omega))
            have hpk : q - k = p := by have := HQ.out; omega
            rw [hpk] at HST
            have HF2 : Hid (len - q ≤ f - 1) := by show len - q ≤ f - 1; have := HF.out; have := HQ.out; omega
            have hz256 : zs.getD k 0 % 256 = zs.getD k 0 := by omega
            have hal := HAL.out
            clear hpk HF HF1 HEND HS
            generalize zs.getD q 0 = y at *
            generalize zs.getD k 0 = z at *
            have hz9 := hzr.1
            have hz8 := hzr.2
            clear hzr
            obtain ⟨W, hW⟩ : ∃ x, x = wr.drew := ⟨_, rfl⟩
            have HC0 : Hid (W.cell? ⟨b, off + k, none⟩ = some (.int .i64 z)) := by rw [hW]; exact ck
            go_wp2_with fail
            refine wp_region_held_drew (S := fun V => V = wr.drew) (by kernel_rfl) rfl (fun hS0 => ?_)
            generalize wr.drew = v0 at *
            refine Ord.take (i := 0) (d := 10) (v := ?vB0) rfl rfl (by as_aux_lemma => kernel_rfl) (by as_aux_lemma => kernel_rfl) (by as_aux_lemma => kernel_rfl) (fun _ _ _ h => h) (by rfl) ?hB0 (by assumption) ?_
            case hB0 => intro w hSw; have hq : w = v0 := hSw; subst hq; go_simp; try with_reducible rfl
            simp only [List.setIfInBounds_toArray, List.set_cons_zero, List.set_cons_succ]
            refine Ord.take (i := 1) (d := 11) (v := ?vB1) rfl rfl (by as_aux_lemma => kernel_rfl) (by as_aux_lemma => kernel_rfl) (by as_aux_lemma => kernel_rfl) (fun _ _ _ h => h) (by rfl) ?hB1 (by assumption) ?_
            case hB1 => intro w hSw; have hq : w = v0 := hSw; subst hq; go_simp; try with_reducible rfl
            simp only [List.setIfInBounds_toArray, List.set_cons_zero, List.set_cons_succ]
            refine Ord.take (i := 2) (d := 12) (v := .int .i64 (q : Int)) rfl rfl (by as_aux_lemma => kernel_rfl) (by as_aux_lemma => kernel_rfl) (by as_aux_lemma => kernel_rfl) (fun _ _ _ h => h) (by rfl) ?hB2 (by assumption) ?_
            case hB2 => intro w hSw; have hq : w = v0 := hSw; subst hq; go_simp; all_goals exact HWR.out
            simp only [List.setIfInBounds_toArray, List.set_cons_zero, List.set_cons_succ]
            refine Ord.take (i := 3) (d := 13) (v := ?vB3) rfl rfl (by as_aux_lemma => kernel_rfl) (by as_aux_lemma => kernel_rfl) (by as_aux_lemma => kernel_rfl) (fun _ _ _ h => h) (by rfl) ?hB3 (by assumption) ?_
            case hB3 => intro w hSw; have hq : w = v0 := hSw; subst hq; go_simp; try with_reducible rfl
            simp only [List.setIfInBounds_toArray, List.set_cons_zero, List.set_cons_succ]
            refine Ord.take (i := 4) (d := 14) (v := ?vB4) rfl rfl (by as_aux_lemma => kernel_rfl) (by as_aux_lemma => kernel_rfl) (by as_aux_lemma => kernel_rfl) (fun _ _ _ h => h) (by rfl) ?hB4 (by assumption) ?_
            case hB4 => intro w hSw; have hq : w = v0 := hSw; subst hq; go_simp; try with_reducible rfl
            simp only [List.setIfInBounds_toArray, List.set_cons_zero, List.set_cons_succ]
            refine Ord.take (i := 5) (d := 15) (v := .bool true) rfl rfl (by as_aux_lemma => kernel_rfl) (by as_aux_lemma => kernel_rfl) (by as_aux_lemma => kernel_rfl) (fun _ _ _ h => h) (by rfl) ?hB5 (by assumption) ?_
            case hB5 => intro w hSw; have hq : w = v0 := hSw; subst hq; go_simp; try with_reducible rfl
            simp only [List.setIfInBounds_toArray, List.set_cons_zero, List.set_cons_succ]
            refine Ord.take (i := 6) (d := 16) (v := ?vB6) rfl rfl (by as_aux_lemma => kernel_rfl) (by as_aux_lemma => kernel_rfl) (by as_aux_lemma => kernel_rfl) (fun _ _ _ h => h) (by rfl) ?hB6 (by assumption) ?_
            case hB6 => intro w hSw; have hq : w = v0 := hSw; subst hq; go_simp; try with_reducible rfl
            simp only [List.setIfInBounds_toArray, List.set_cons_zero, List.set_cons_succ]
            refine Ord.take (i := 7) (d := 17) (v := ?vB7) rfl rfl (by as_aux_lemma => kernel_rfl) (by as_aux_lemma => kernel_rfl) (by as_aux_lemma => kernel_rfl) (fun _ _ _ h => h) (by rfl) ?hB7 (by assumption) ?_
            case hB7 => intro w hSw; have hq : w = v0 := hSw; subst hq; go_simp; try with_reducible rfl
            simp only [List.setIfInBounds_toArray, List.set_cons_zero, List.set_cons_succ]
            refine Ord.take (i := 8) (d := 18) (v := ?vB8) rfl rfl (by as_aux_lemma => kernel_rfl) (by as_aux_lemma => kernel_rfl) (by as_aux_lemma => kernel_rfl) (fun _ _ _ h => h) (by rfl) ?hB8 (by assumption) ?_
            case hB8 => intro w hSw; have hq : w = v0 := hSw; subst hq; go_simp; try with_reducible rfl
            simp only [List.setIfInBounds_toArray, List.set_cons_zero, List.set_cons_succ]
            refine Ord.take (i := 9) (d := 19) (v := ?vB9) rfl rfl (by as_aux_lemma => kernel_rfl) (by as_aux_lemma => kernel_rfl) (by as_aux_lemma => kernel_rfl) (fun _ _ _ h => h) (by rfl) ?hB9 (by assumption) ?_
            case hB9 => intro w hSw; have hq : w = v0 := hSw; subst hq; go_simp; try with_reducible rfl
            simp only [List.setIfInBounds_toArray, List.set_cons_zero, List.set_cons_succ]
            refine Ord.take (i := 10) (d := 20) (v := .int .i64 (q : Int)) rfl rfl (by as_aux_lemma => kernel_rfl) (by as_aux_lemma => kernel_rfl) (by as_aux_lemma => kernel_rfl) (fun _ _ _ h => h) (by rfl) ?hB10 (by assumption) ?_
            case hB10 => intro w hSw; have hq : w = v0 := hSw; subst hq; go_simp; all_goals exact HWR.out
            simp only [List.setIfInBounds_toArray, List.set_cons_zero, List.set_cons_succ]
            refine Ord.take (i := 11) (d := 21) (v := .pointer (some ⟨b, off + q, none⟩)) rfl rfl (by as_aux_lemma => kernel_rfl) (by as_aux_lemma => kernel_rfl) (by as_aux_lemma => kernel_rfl) (fun _ _ _ h => h) (by rfl) ?hB11 (by assumption) ?_
            case hB11 => intro w hSw; have hq : w = v0 := hSw; subst hq; go_simp; try with_reducible rfl
            simp only [List.setIfInBounds_toArray, List.set_cons_zero, List.set_cons_succ]
            refine Ord.take (i := 12) (d := 22) (v := .int .i64 y) rfl rfl (by as_aux_lemma => kernel_rfl) (by as_aux_lemma => kernel_rfl) (by as_aux_lemma => kernel_rfl) (fun _ _ _ h => h) (by rfl) ?hB12 (by assumption) ?_
            case hB12 => intro w hSw; have hq : w = v0 := hSw; subst hq; go_simp; try with_reducible rfl
            simp only [List.setIfInBounds_toArray, List.set_cons_zero, List.set_cons_succ]
            refine Ord.take (i := 13) (d := 23) (v := ?vB13) rfl rfl (by as_aux_lemma => kernel_rfl) (by as_aux_lemma => kernel_rfl) (by as_aux_lemma => kernel_rfl) (fun _ _ _ h => h) (by rfl) ?hB13 (by assumption) ?_
            case hB13 => intro w hSw; have hq : w = v0 := hSw; subst hq; go_simp; try with_reducible rfl
            simp only [List.setIfInBounds_toArray, List.set_cons_zero, List.set_cons_succ]
            refine Ord.take (i := 14) (d := 24) (v := ?vB14) rfl rfl (by as_aux_lemma => kernel_rfl) (by as_aux_lemma => kernel_rfl) (by as_aux_lemma => kernel_rfl) (fun _ _ _ h => h) (by rfl) ?hB14 (by assumption) ?_
            case hB14 => intro w hSw; have hq : w = v0 := hSw; subst hq; go_simp; try with_reducible rfl
            simp only [List.setIfInBounds_toArray, List.set_cons_zero, List.set_cons_succ]
            refine Ord.take (i := 15) (d := 25) (v := .pointer (some ⟨b, off + k, none⟩)) rfl rfl (by as_aux_lemma => kernel_rfl) (by as_aux_lemma => kernel_rfl) (by as_aux_lemma => kernel_rfl) (fun _ _ _ h => h) (by rfl) ?hB15 (by assumption) ?_
            case hB15 => intro w hSw; have hq : w = v0 := hSw; subst hq; go_simp; try with_reducible rfl
            simp only [List.setIfInBounds_toArray, List.set_cons_zero, List.set_cons_succ]
            refine Ord.take (i := 16) (d := 26) (v := .int .i64 z) rfl rfl (by as_aux_lemma => kernel_rfl) (by as_aux_lemma => kernel_rfl) (by as_aux_lemma => kernel_rfl) (fun _ _ _ h => h) (by rfl) ?hB16 (by assumption) ?_
            case hB16 => intro w hSw; have hq : w = v0 := hSw; subst hq; go_simp; try with_reducible rfl
            simp only [List.setIfInBounds_toArray, List.set_cons_zero, List.set_cons_succ]
            refine Ord.take (i := 17) (d := 27) (v := .bool false) rfl rfl (by as_aux_lemma => kernel_rfl) (by as_aux_lemma => kernel_rfl) (by as_aux_lemma => kernel_rfl) (fun _ _ _ h => h) (by rfl) ?hB17 (by assumption) ?_
            case hB17 => intro w hSw; have hq : w = v0 := hSw; subst hq; go_simp; try with_reducible rfl
            simp only [List.setIfInBounds_toArray, List.set_cons_zero, List.set_cons_succ]
            refine Ord.take (i := 18) (d := 28) (v := .bool false) rfl rfl (by as_aux_lemma => kernel_rfl) (by as_aux_lemma => kernel_rfl) (by as_aux_lemma => kernel_rfl) (fun _ _ _ h => h) (by rfl) ?hB18 (by assumption) ?_
            case hB18 => intro w hSw; have hq : w = v0 := hSw; subst hq; go_simp; try with_reducible rfl
            simp only [List.setIfInBounds_toArray, List.set_cons_zero, List.set_cons_succ]
            refine wpAnyH_done (by as_aux_lemma => kernel_rfl) ?_ _
            subst hW
            have ck2 := HC0.out
            clear cp ck HC0
            go_wp2_with (at_builtin; refine wpList_append_own _ rfl _ _ 24 rfl w.heap.size 5 i0 (.int .u8 0) 1 1 Tryz.underlying24 hi hz0 hz1 hz2 rfl (by decide) _ _ _ rfl (HO3.out.alloc _) ⟨W.heap.size, 0, none⟩ 1 1 [.int .u8 z] rfl rfl ?c1 ?c2 ?c3 ?c4 ?c5 ?_)
            try case c1 =>
              intro j u hj
              match j, hj with
              | 0, hj => simp at hj; subst hj; simp [Addr.add]
            try case c2 => first | rfl | (intro u hu; simp at hu; subst hu; rfl)
            case c3 => unfold maxLen; omega
            case c4 => omega
            case c5 => have := HB3.out.size; simp; omega
            intro v' w1 hown' hgrow _
            have R := own_snocW HB3.out.size HO3.out HB3.out hown' hgrow
            have HO4 := hid R.1
            have HB4 := hid R.2
            clear hown' hgrow R HO3 HB3 ck2
            go_wp2_with fail
            go_at_call 32
            refine (HVI.out w1).mono ?_
            rintro _ w2 ⟨va, vc, rfl, hvr, hvb⟩
            have HO5 := hid (own_later2 HO4.out hvb)
            have HB5 := hid (Bn HB4.out hvb)
            have HVR := hid hvr
            have hsz := HB5.out.size
            clear hvb hvr HVI HO4 HB4
            generalize vint (p : Int) = vi at *
            have hbd : (acc ++ [z]).length + vi.length ≤ 10000000 := by have := HVL.out; simp; omega
            go_wp2_with (at_builtin; refine app_any _ rfl _ _ rfl w.heap.size _ (acc ++ [z]) rfl HO5.out va vc vi rfl HVR.out hbd hsz ?_)
            intro v' w3 hown' hgrow
            have HB6 := hid (HB5.out.grown hgrow (by omega) (fun j hj => (HO5.out.lt j hj).1))
            have HO6 : Hid (w3.ownsRow w.heap.size 5 1 v' (acc ++ [z] ++ vi).length ((acc ++ [z] ++ vi).map (Value.int .u8))) := by
              show World.ownsRow _ _ _ _ _ _ _
              have e1 : (acc ++ [z] ++ vi).length = acc.length + (vi.length + 1) := by simp
              have e2 : (acc ++ [z] ++ vi).map (Value.int .u8) = acc.map (Value.int .u8) ++ Value.int .u8 z :: vi.map (Value.int .u8) := by simp
              rw [e1, e2]; exact hown'
            have HAC : Hid ((acc ++ [z] ++ vi) ++ runsF (f - 1) (zs.drop q) = runsL zs) := by show _ = _; rw [← HACC.out, HST.out]; simp
            have HLE : Hid ((acc ++ [z] ++ vi).length ≤ 3 * q) := by show _ ≤ _; have := HVL.out; have := HQ.out; simp; omega
            clear hgrow hown' HO5 HB5 HVR hbd HST HACC HVL HAL
            go_wp2
            have hq0 := HQ.out
            exact ⟨⟨q, f - 1, acc ++ [z] ++ vi, by omega, by subst hq0; go_num, HF2.out, HAC.out, HLE.out, HO6.out, HB6.out⟩, by simp [intOf]; omega⟩
        · obtain ⟨q, hq0⟩ : ∃ q : Nat, q = k + p := ⟨_, rfl⟩
          have HQ := hid hq0
          have HWR : Hid (IntKind.i64.wrap ((k : Int) + (p : Int)) = (q : Int)) := by show _ = _; rw [IntWalk.i64_in _ ⟨by omega, by omega⟩]; omega
          have HEND : q = zs.length ∨ zs.getD q 0 ≠ zs.getD k 0 := Or.inl (by rw [← HL.out]; have := HQ.out; omega)
          have hpi : ¬ (q : Int) < (len : Int) := by omega
          rw [← hq0] at hpl
          clear hq0
          obtain ⟨b, off, rfl, hbw, hc⟩ := HR.out.cells (by rw [← HL.out]; omega)
          have ck := (HB2.out.drew.cell (p := ⟨b, off + k, none⟩) hbw).trans (hc k (by rw [← HL.out]; exact hlt))
          clear hc
          have HB3 := hid HB2.out.drew
          have HO3 := hid HO2.out.drew
          clear HO2 HB2 HO HB
          have hzr := HZ.out k
          have HST := hid (runs_step zs k q (f - 1) (by have := HQ.out; omega) (by rw [← HL.out]; have := HQ.out; omega) (by rw [HQ.out]; exact HS.out) HEND)
          have HF1 : Hid (f - 1 + 1 = f) := by show f - 1 + 1 = f; have := HF.out; omega
          rw [HF1.out] at HST
          have HVI := hid (fun W => varr_ri (p : Int) W (by omega) (by omega))
          have HVL := hid (vint_short (p : Int) (by omega) (by omega))
          have hpk : q - k = p := by have := HQ.out; omega
          rw [hpk] at HST
          have HF2 : Hid (len - q ≤ f - 1) := by show len - q ≤ f - 1; have := HF.out; have := HQ.out; omega
          have hz256 : zs.getD k 0 % 256 = zs.getD k 0 := by omega
          have hal := HAL.out
          clear hpk HF HF1 HEND HS
          generalize zs.getD k 0 = z at *
          have hz9 := hzr.1
          have hz8 := hzr.2
          clear hzr
          obtain ⟨W, hW⟩ : ∃ x, x = wr.drew := ⟨_, rfl⟩
          have HC0 : Hid (W.cell? ⟨b, off + k, none⟩ = some (.int .i64 z)) := by rw [hW]; exact ck
          go_wp2_with fail
          refine wp_region_held_drew (S := fun V => V = wr.drew) (by kernel_rfl) rfl (fun hS0 => ?_)
          generalize wr.drew = v0 at *
          refine Ord.take (i := 0) (d := 10) (v := ?vC0) rfl rfl (by as_aux_lemma => kernel_rfl) (by as_aux_lemma => kernel_rfl) (by as_aux_lemma => kernel_rfl) (fun _ _ _ h => h) (by rfl) ?hC0 (by assumption) ?_
          case hC0 => intro w hSw; have hq : w = v0 := hSw; subst hq; go_simp; try with_reducible rfl
          simp only [List.setIfInBounds_toArray, List.set_cons_zero, List.set_cons_succ]
          refine Ord.take (i := 1) (d := 11) (v := ?vC1) rfl rfl (by as_aux_lemma => kernel_rfl) (by as_aux_lemma => kernel_rfl) (by as_aux_lemma => kernel_rfl) (fun _ _ _ h => h) (by rfl) ?hC1 (by assumption) ?_
          case hC1 => intro w hSw; have hq : w = v0 := hSw; subst hq; go_simp; try with_reducible rfl
          simp only [List.setIfInBounds_toArray, List.set_cons_zero, List.set_cons_succ]
          refine Ord.take (i := 2) (d := 12) (v := .int .i64 (q : Int)) rfl rfl (by as_aux_lemma => kernel_rfl) (by as_aux_lemma => kernel_rfl) (by as_aux_lemma => kernel_rfl) (fun _ _ _ h => h) (by rfl) ?hC2 (by assumption) ?_
          case hC2 => intro w hSw; have hq : w = v0 := hSw; subst hq; go_simp; all_goals exact HWR.out
          simp only [List.setIfInBounds_toArray, List.set_cons_zero, List.set_cons_succ]
          refine Ord.take (i := 3) (d := 13) (v := ?vC3) rfl rfl (by as_aux_lemma => kernel_rfl) (by as_aux_lemma => kernel_rfl) (by as_aux_lemma => kernel_rfl) (fun _ _ _ h => h) (by rfl) ?hC3 (by assumption) ?_
          case hC3 => intro w hSw; have hq : w = v0 := hSw; subst hq; go_simp; try with_reducible rfl
          simp only [List.setIfInBounds_toArray, List.set_cons_zero, List.set_cons_succ]
          refine Ord.take (i := 4) (d := 14) (v := ?vC4) rfl rfl (by as_aux_lemma => kernel_rfl) (by as_aux_lemma => kernel_rfl) (by as_aux_lemma => kernel_rfl) (fun _ _ _ h => h) (by rfl) ?hC4 (by assumption) ?_
          case hC4 => intro w hSw; have hq : w = v0 := hSw; subst hq; go_simp; try with_reducible rfl
          simp only [List.setIfInBounds_toArray, List.set_cons_zero, List.set_cons_succ]
          refine Ord.take (i := 5) (d := 15) (v := .bool false) rfl rfl (by as_aux_lemma => kernel_rfl) (by as_aux_lemma => kernel_rfl) (by as_aux_lemma => kernel_rfl) (fun _ _ _ h => h) (by rfl) ?hC5 (by assumption) ?_
          case hC5 => intro w hSw; have hq : w = v0 := hSw; subst hq; go_simp; try with_reducible rfl
          simp only [List.setIfInBounds_toArray, List.set_cons_zero, List.set_cons_succ]
          refine Ord.take (i := 6) (d := 16) (v := ?vC6) rfl rfl (by as_aux_lemma => kernel_rfl) (by as_aux_lemma => kernel_rfl) (by as_aux_lemma => kernel_rfl) (fun _ _ _ h => h) (by rfl) ?hC6 (by assumption) ?_
          case hC6 => intro w hSw; have hq : w = v0 := hSw; subst hq; go_simp; try with_reducible rfl
          simp only [List.setIfInBounds_toArray, List.set_cons_zero, List.set_cons_succ]
          refine Ord.skip (i := 7) (d := 17) rfl rfl (by as_aux_lemma => kernel_rfl) (by as_aux_lemma => kernel_rfl) (by as_aux_lemma => kernel_rfl) (fun _ _ _ h => h) (by rfl) (by assumption) ?_
          simp only [List.setIfInBounds_toArray, List.set_cons_zero, List.set_cons_succ]
          refine Ord.skip (i := 8) (d := 18) rfl rfl (by as_aux_lemma => kernel_rfl) (by as_aux_lemma => kernel_rfl) (by as_aux_lemma => kernel_rfl) (fun _ _ _ h => h) (by rfl) (by assumption) ?_
          simp only [List.setIfInBounds_toArray, List.set_cons_zero, List.set_cons_succ]
          refine Ord.skip (i := 9) (d := 19) rfl rfl (by as_aux_lemma => kernel_rfl) (by as_aux_lemma => kernel_rfl) (by as_aux_lemma => kernel_rfl) (fun _ _ _ h => h) (by rfl) (by assumption) ?_
          simp only [List.setIfInBounds_toArray, List.set_cons_zero, List.set_cons_succ]
          refine Ord.skip (i := 10) (d := 20) rfl rfl (by as_aux_lemma => kernel_rfl) (by as_aux_lemma => kernel_rfl) (by as_aux_lemma => kernel_rfl) (fun _ _ _ h => h) (by rfl) (by assumption) ?_
          simp only [List.setIfInBounds_toArray, List.set_cons_zero, List.set_cons_succ]
          refine Ord.skip (i := 11) (d := 21) rfl rfl (by as_aux_lemma => kernel_rfl) (by as_aux_lemma => kernel_rfl) (by as_aux_lemma => kernel_rfl) (fun _ _ _ h => h) (by rfl) (by assumption) ?_
          simp only [List.setIfInBounds_toArray, List.set_cons_zero, List.set_cons_succ]
          refine Ord.skip (i := 12) (d := 22) rfl rfl (by as_aux_lemma => kernel_rfl) (by as_aux_lemma => kernel_rfl) (by as_aux_lemma => kernel_rfl) (fun _ _ _ h => h) (by rfl) (by assumption) ?_
          simp only [List.setIfInBounds_toArray, List.set_cons_zero, List.set_cons_succ]
          refine Ord.skip (i := 13) (d := 23) rfl rfl (by as_aux_lemma => kernel_rfl) (by as_aux_lemma => kernel_rfl) (by as_aux_lemma => kernel_rfl) (fun _ _ _ h => h) (by rfl) (by assumption) ?_
          simp only [List.setIfInBounds_toArray, List.set_cons_zero, List.set_cons_succ]
          refine Ord.skip (i := 14) (d := 24) rfl rfl (by as_aux_lemma => kernel_rfl) (by as_aux_lemma => kernel_rfl) (by as_aux_lemma => kernel_rfl) (fun _ _ _ h => h) (by rfl) (by assumption) ?_
          simp only [List.setIfInBounds_toArray, List.set_cons_zero, List.set_cons_succ]
          refine Ord.skip (i := 15) (d := 25) rfl rfl (by as_aux_lemma => kernel_rfl) (by as_aux_lemma => kernel_rfl) (by as_aux_lemma => kernel_rfl) (fun _ _ _ h => h) (by rfl) (by assumption) ?_
          simp only [List.setIfInBounds_toArray, List.set_cons_zero, List.set_cons_succ]
          refine Ord.skip (i := 16) (d := 26) rfl rfl (by as_aux_lemma => kernel_rfl) (by as_aux_lemma => kernel_rfl) (by as_aux_lemma => kernel_rfl) (fun _ _ _ h => h) (by rfl) (by assumption) ?_
          simp only [List.setIfInBounds_toArray, List.set_cons_zero, List.set_cons_succ]
          refine Ord.skip (i := 17) (d := 27) rfl rfl (by as_aux_lemma => kernel_rfl) (by as_aux_lemma => kernel_rfl) (by as_aux_lemma => kernel_rfl) (fun _ _ _ h => h) (by rfl) (by assumption) ?_
          simp only [List.setIfInBounds_toArray, List.set_cons_zero, List.set_cons_succ]
          refine Ord.take (i := 18) (d := 28) (v := .bool false) rfl rfl (by as_aux_lemma => kernel_rfl) (by as_aux_lemma => kernel_rfl) (by as_aux_lemma => kernel_rfl) (fun _ _ _ h => h) (by rfl) ?hC18 (by assumption) ?_
          case hC18 => intro w hSw; have hq : w = v0 := hSw; subst hq; go_simp; try with_reducible rfl
          simp only [List.setIfInBounds_toArray, List.set_cons_zero, List.set_cons_succ]
          refine wpAnyH_done (by as_aux_lemma => kernel_rfl) ?_ _
          subst hW
          have ck2 := HC0.out
          clear ck HC0
          go_wp2_with (at_builtin; refine wpList_append_own _ rfl _ _ 24 rfl w.heap.size 5 i0 (.int .u8 0) 1 1 Tryz.underlying24 hi hz0 hz1 hz2 rfl (by decide) _ _ _ rfl (HO3.out.alloc _) ⟨W.heap.size, 0, none⟩ 1 1 [.int .u8 z] rfl rfl ?d1 ?d2 ?d3 ?d4 ?d5 ?_)
          try case d1 =>
            intro j u hj
            match j, hj with
            | 0, hj => simp at hj; subst hj; simp [Addr.add]
          try case d2 => first | rfl | (intro u hu; simp at hu; subst hu; rfl)
          case d3 => unfold maxLen; omega
          case d4 => omega
          case d5 => have := HB3.out.size; simp; omega
          intro v' w1 hown' hgrow _
          have R := own_snocW HB3.out.size HO3.out HB3.out hown' hgrow
          have HO4 := hid R.1
          have HB4 := hid R.2
          clear hown' hgrow R HO3 HB3 ck2
          go_wp2_with fail
          go_at_call 32
          refine (HVI.out w1).mono ?_
          rintro _ w2 ⟨va, vc, rfl, hvr, hvb⟩
          have HO5 := hid (own_later2 HO4.out hvb)
          have HB5 := hid (Bn HB4.out hvb)
          have HVR := hid hvr
          have hsz := HB5.out.size
          clear hvb hvr HVI HO4 HB4
          generalize vint (p : Int) = vi at *
          have hbd : (acc ++ [z]).length + vi.length ≤ 10000000 := by have := HVL.out; simp; omega
          go_wp2_with (at_builtin; refine app_any _ rfl _ _ rfl w.heap.size _ (acc ++ [z]) rfl HO5.out va vc vi rfl HVR.out hbd hsz ?_)
          intro v' w3 hown' hgrow
          have HB6 := hid (HB5.out.grown hgrow (by omega) (fun j hj => (HO5.out.lt j hj).1))
          have HO6 : Hid (w3.ownsRow w.heap.size 5 1 v' (acc ++ [z] ++ vi).length ((acc ++ [z] ++ vi).map (Value.int .u8))) := by
            show World.ownsRow _ _ _ _ _ _ _
            have e1 : (acc ++ [z] ++ vi).length = acc.length + (vi.length + 1) := by simp
            have e2 : (acc ++ [z] ++ vi).map (Value.int .u8) = acc.map (Value.int .u8) ++ Value.int .u8 z :: vi.map (Value.int .u8) := by simp
            rw [e1, e2]; exact hown'
          have HAC : Hid ((acc ++ [z] ++ vi) ++ runsF (f - 1) (zs.drop q) = runsL zs) := by show _ = _; rw [← HACC.out, HST.out]; simp
          have HLE : Hid ((acc ++ [z] ++ vi).length ≤ 3 * q) := by show _ ≤ _; have := HVL.out; have := HQ.out; simp; omega
          clear hgrow hown' HO5 HB5 HVR hbd HST HACC HVL HAL
          go_wp2
          have hq0 := HQ.out
          exact ⟨⟨q, f - 1, acc ++ [z] ++ vi, by omega, by subst hq0; go_num, HF2.out, HAC.out, HLE.out, HO6.out, HB6.out⟩, by simp [intOf]; omega⟩
    · obtain rfl : k = len := by omega
      have HE : Hid (acc = runsL zs) := by show _ = _; rw [← HACC.out, runs_done f zs k (by rw [← HL.out]; omega)]; simp
      go_wp2
      go_ret
      exact ⟨_, rfl, by rw [← HE.out]; exact HO.out, HB.out⟩
end Go.Proofs.YtelnefngkdfcoaaGreat
