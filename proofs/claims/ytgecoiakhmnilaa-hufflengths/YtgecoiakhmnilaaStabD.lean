/-
  The contract of slices.SortStableFunc's inner function at 60 numbers.
-/
import Derived.Test.YtgecoiakhmnilaaStabA
namespace Go.Proofs.Ytgecoiakhmnilaa
open Go.RowKit Hf

set_option maxHeartbeats 3200000 in
set_option maxRecDepth 100000 in
theorem stab_d (n cap B gb gs gc oc capc : Nat) (cs o : List Int) (w : World) (hcts : Cts w gb gs gc oc capc cs) (hl : o.length = n) (hown : w.ownsRow B 3 1 (.slice (some ⟨gs, 0, none⟩) n cap) n (o.map (Value.int .i64))) (hcap : n ≤ cap) (ho : ∀ u ∈ o, 0 ≤ u ∧ u < (cs.length : Int)) (hinc : ∀ p q, p < q → q < n → o.getD p 0 < o.getD q 0) (hn60 : n = 60) :
    Calls Try.prog 55 #[(.slice (some ⟨gs, 0, none⟩) n cap), .int .i64 (n : Int), .func (.func 52) #[] #[.pointer (some ⟨gb, 0, none⟩)]] w fun e w' => e = .returned (.tuple #[]) ∧ (∃ X, Sorted cs 0 n o X ∧ w'.ownsRow B 3 1 (.slice (some ⟨gs, 0, none⟩) n cap) n (X.map (Value.int .i64))) ∧ w.grownBy w' (some gs) := by
  have HO0 := hid hown
  have HCT := hid hcts
  have HOO := hid ho
  have HIN : Hid (∀ p q, 0 ≤ p → p < q → q < n → o.getD p 0 < o.getD q 0) := fun p q _ h1 h2 => hinc p q h1 h2
  have HL0 := hid hl
  have HCAP := hid hcap
  have HG0 : Hid (w.grownBy w (some gs)) := World.grownBy.refl _ _
  have HP0 : Hid (o.Perm o) := List.Perm.refl _
  clear hown hcts ho hinc hl hcap
  subst hn60
  have HI1 : Hid (Calls Try.prog 57 #[(.slice (some ⟨gs, 0, none⟩) 60 cap), .int .i64 0, .int .i64 20, .func (.func 52) #[] #[.pointer (some ⟨gb, 0, none⟩)]] w fun e w' => e = .returned (.tuple #[]) ∧ (∃ Y, Sorted cs 0 20 o Y ∧ w'.ownsRow B 3 1 (.slice (some ⟨gs, 0, none⟩) 60 cap) 60 (Y.map (Value.int .i64))) ∧ w.grownBy w' (some gs)) := ins_word 0 20 60 cap B gb gs gc oc capc cs o w (HCT.out.kept HG0.out) (by omega) (by omega) (by omega) HL0.out HO0.out HCAP.out (fun u hu => HOO.out u (HP0.out.subset hu)) (fun p q h1 h2 h3 => HIN.out p q (by omega) h2 (by omega))
  go_enter Try.func55, Try.ntmps55
  go_wp2
  refine wp_loop_rounds 4 ?_
  rw [rounds_succ]
  go_wp2_with fail
  refine HI1.out.mono ?_
  rintro _ w1 ⟨rfl, ⟨X1, hX, hown⟩, hg⟩
  have HS1 := hid hX
  have HO1 := hid hown
  have HG1 := hid (grown_trans HG0.out hg)
  have HL1 : Hid (X1.length = 60) := by show _ = _; rw [HS1.out.perm.length_eq, HL0.out]
  have HP1 : Hid (X1.Perm o) := HS1.out.perm.trans HP0.out
  clear hX hown hg HI1 HO0
  have HI2 : Hid (Calls Try.prog 57 #[(.slice (some ⟨gs, 0, none⟩) 60 cap), .int .i64 20, .int .i64 40, .func (.func 52) #[] #[.pointer (some ⟨gb, 0, none⟩)]] w1 fun e w' => e = .returned (.tuple #[]) ∧ (∃ Y, Sorted cs 20 40 X1 Y ∧ w'.ownsRow B 3 1 (.slice (some ⟨gs, 0, none⟩) 60 cap) 60 (Y.map (Value.int .i64))) ∧ w1.grownBy w' (some gs)) := ins_word 20 40 60 cap B gb gs gc oc capc cs X1 w1 (HCT.out.kept HG1.out) (by omega) (by omega) (by omega) HL1.out HO1.out HCAP.out (fun u hu => HOO.out u (HP1.out.subset hu)) (fun p q h1 h2 h3 => by rw [HS1.out.out p (by omega), HS1.out.out q (by omega)]; exact HIN.out p q (by omega) h2 (by omega))
  go_wp2
  rw [rounds_succ]
  go_wp2_with fail
  refine HI2.out.mono ?_
  rintro _ w2 ⟨rfl, ⟨X2, hX, hown⟩, hg⟩
  have HS2 := hid hX
  have HO2 := hid hown
  have HG2 := hid (grown_trans HG1.out hg)
  have HL2 : Hid (X2.length = 60) := by show _ = _; rw [HS2.out.perm.length_eq, HL1.out]
  have HP2 : Hid (X2.Perm o) := HS2.out.perm.trans HP1.out
  clear hX hown hg HI2 HO1
  have HI3 : Hid (Calls Try.prog 57 #[(.slice (some ⟨gs, 0, none⟩) 60 cap), .int .i64 40, .int .i64 60, .func (.func 52) #[] #[.pointer (some ⟨gb, 0, none⟩)]] w2 fun e w' => e = .returned (.tuple #[]) ∧ (∃ Y, Sorted cs 40 60 X2 Y ∧ w'.ownsRow B 3 1 (.slice (some ⟨gs, 0, none⟩) 60 cap) 60 (Y.map (Value.int .i64))) ∧ w2.grownBy w' (some gs)) := ins_word 40 60 60 cap B gb gs gc oc capc cs X2 w2 (HCT.out.kept HG2.out) (by omega) (by omega) (by omega) HL2.out HO2.out HCAP.out (fun u hu => HOO.out u (HP2.out.subset hu)) (fun p q h1 h2 h3 => by rw [HS2.out.out p (by omega), HS2.out.out q (by omega), HS1.out.out p (by omega), HS1.out.out q (by omega)]; exact HIN.out p q (by omega) h2 (by omega))
  go_wp2
  rw [rounds_succ]
  go_wp2_with fail
  refine HI3.out.mono ?_
  rintro _ w3 ⟨rfl, ⟨X3, hX, hown⟩, hg⟩
  have HS3 := hid hX
  have HO3 := hid hown
  have HG3 := hid (grown_trans HG2.out hg)
  have HL3 : Hid (X3.length = 60) := by show _ = _; rw [HS3.out.perm.length_eq, HL2.out]
  have HP3 : Hid (X3.Perm o) := HS3.out.perm.trans HP2.out
  clear hX hown hg HI3 HO2
  have HI4 : Hid (Calls Try.prog 57 #[(.slice (some ⟨gs, 0, none⟩) 60 cap), .int .i64 60, .int .i64 60, .func (.func 52) #[] #[.pointer (some ⟨gb, 0, none⟩)]] w3 fun e w' => e = .returned (.tuple #[]) ∧ (∃ Y, Sorted cs 60 60 X3 Y ∧ w'.ownsRow B 3 1 (.slice (some ⟨gs, 0, none⟩) 60 cap) 60 (Y.map (Value.int .i64))) ∧ w3.grownBy w' (some gs)) := ins_word 60 60 60 cap B gb gs gc oc capc cs X3 w3 (HCT.out.kept HG3.out) (by omega) (by omega) (by omega) HL3.out HO3.out HCAP.out (fun u hu => HOO.out u (HP3.out.subset hu)) (fun p q h1 h2 h3 => by omega)
  go_wp2
  rw [rounds_succ]
  go_wp2_with fail
  refine HI4.out.mono ?_
  rintro _ w4 ⟨rfl, ⟨X4, hX, hown⟩, hg⟩
  have HS4 := hid hX
  have HO4 := hid hown
  have HG4 := hid (grown_trans HG3.out hg)
  have HL4 : Hid (X4.length = 60) := by show _ = _; rw [HS4.out.perm.length_eq, HL3.out]
  have HP4 : Hid (X4.Perm o) := HS4.out.perm.trans HP3.out
  clear hX hown hg HI4 HO3
  have HI5 : Hid (Calls Try.prog 58 #[(.slice (some ⟨gs, 0, none⟩) 60 cap), .int .i64 0, .int .i64 20, .int .i64 40, .func (.func 52) #[] #[.pointer (some ⟨gb, 0, none⟩)]] w4 fun e w' => e = .returned (.tuple #[]) ∧ (∃ Y, Sorted cs 0 40 X4 Y ∧ w'.ownsRow B 3 1 (.slice (some ⟨gs, 0, none⟩) 60 cap) 60 (Y.map (Value.int .i64))) ∧ w4.grownBy w' (some gs)) := sym_word 60 cap B gb gs gc oc capc cs (by omega) 60 0 20 40 X4 w4 (by omega) (HCT.out.kept HG4.out) (by omega) (by omega) (by omega) HL4.out HO4.out (fun u hu => HOO.out u (HP4.out.subset hu)) (mrg_low (by omega) (by omega) (by omega) (by rw [HL0.out]; exact Nat.le_refl _) HS1.out HS2.out (sorted_none HS3.out HS4.out) HIN.out)
  go_wp2
  refine wp_loop_rounds 3 ?_
  rw [rounds_succ]
  go_wp2_with fail
  refine wp_loop_rounds 2 ?_
  rw [rounds_succ]
  go_wp2_with fail
  refine HI5.out.mono ?_
  rintro _ w5 ⟨rfl, ⟨X5, hX, hown⟩, hg⟩
  have HS5 := hid hX
  have HO5 := hid hown
  have HG5 := hid (grown_trans HG4.out hg)
  have HL5 : Hid (X5.length = 60) := by show _ = _; rw [HS5.out.perm.length_eq, HL4.out]
  have HP5 : Hid (X5.Perm o) := HS5.out.perm.trans HP4.out
  clear hX hown hg HI5 HO4
  have HI6 : Hid (Calls Try.prog 58 #[(.slice (some ⟨gs, 0, none⟩) 60 cap), .int .i64 0, .int .i64 40, .int .i64 60, .func (.func 52) #[] #[.pointer (some ⟨gb, 0, none⟩)]] w5 fun e w' => e = .returned (.tuple #[]) ∧ (∃ Y, Sorted cs 0 60 X5 Y ∧ w'.ownsRow B 3 1 (.slice (some ⟨gs, 0, none⟩) 60 cap) 60 (Y.map (Value.int .i64))) ∧ w5.grownBy w' (some gs)) := sym_word 60 cap B gb gs gc oc capc cs (by omega) 60 0 40 60 X5 w5 (by omega) (HCT.out.kept HG5.out) (by omega) (by omega) (by omega) HL5.out HO5.out (fun u hu => HOO.out u (HP5.out.subset hu)) (mrg_three (by omega) (by omega) (by omega) (by rw [HL0.out]; exact Nat.le_refl _) HS1.out HS2.out (sorted_none HS3.out HS4.out) HS5.out HIN.out)
  go_wp2
  rw [rounds_succ]
  go_wp2_with fail
  rw [rounds_succ]
  go_wp2_with fail
  refine wp_loop_rounds 1 ?_
  rw [rounds_succ]
  go_wp2_with fail
  refine HI6.out.mono ?_
  rintro _ w6 ⟨rfl, ⟨X6, hX, hown⟩, hg⟩
  have HS6 := hid hX
  have HO6 := hid hown
  have HG6 := hid (grown_trans HG5.out hg)
  have HL6 : Hid (X6.length = 60) := by show _ = _; rw [HS6.out.perm.length_eq, HL5.out]
  have HP6 : Hid (X6.Perm o) := HS6.out.perm.trans HP5.out
  clear hX hown hg HI6 HO5
  go_wp2
  rw [rounds_succ]
  have HEND : Hid (Sorted cs 0 60 o X6) := sorted_on (((HS1.out.same.wide (Nat.le_refl _) (by omega)).trans (HS2.out.same.wide (by omega) (by omega))).trans (((sorted_none HS3.out HS4.out).same.wide (by omega) (Nat.le_refl _)).trans (HS5.out.same.wide (by omega) (by omega)))) HS6.out
  clear HCT HOO HIN
  go_wp2
  go_end0
  exact ⟨rfl, ⟨X6, HEND.out, HO6.out⟩, HG6.out⟩
end Go.Proofs.Ytgecoiakhmnilaa
