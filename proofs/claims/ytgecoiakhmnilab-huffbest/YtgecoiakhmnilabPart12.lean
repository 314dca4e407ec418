/-
  The contract of slices.SortStableFunc's inner function at more than 20 and at most 60 numbers.
-/
import Derived.Test.YtgecoiakhmnilabPart11
import Derived.Test.YtgecoiakhmnilabPart05
import Derived.Test.YtgecoiakhmnilabPart02
import Derived.Test.YtgecoiakhmnilabPart06
namespace Go.Proofs.Ytgecoiakhmnilab
open Go.RowKit Hf

namespace Hf
theorem Same.wide {a b a' b' : Nat} {o X : List Int} (h : Same a b o X) (h1 : a' ≤ a) (h2 : b ≤ b') : Same a' b' o X := ⟨h.perm, fun p hp => h.out p (by omega)⟩
theorem Same.trans {a b : Nat} {o X Y : List Int} (h : Same a b o X) (h2 : Same a b X Y) : Same a b o Y := ⟨h2.perm.trans h.perm, fun p hp => (h2.out p hp).trans (h.out p hp)⟩
theorem mrg_of {cs : List Int} {a m b : Nat} {o X : List Int} (hlo : ∀ p q, a ≤ p → p < q → q < m → Lx cs (X.getD p 0) (X.getD q 0)) (hhi : ∀ p q, m ≤ p → p < q → q < b → Lx cs (X.getD p 0) (X.getD q 0))
    (s1 : ∀ p, a ≤ p → p < m → ∃ q, a ≤ q ∧ q < m ∧ X.getD p 0 = o.getD q 0) (s2 : ∀ p, m ≤ p → p < b → ∃ q, m ≤ q ∧ q < b ∧ X.getD p 0 = o.getD q 0) (hinc : ∀ p q, a ≤ p → p < q → q < b → o.getD p 0 < o.getD q 0) : Mrg cs a m b X := by
  refine ⟨hlo, hhi, fun p q h1 h2 h3 h4 => ?_⟩
  obtain ⟨p', p1, p2, pe⟩ := s1 p h1 h2
  obtain ⟨q', q1, q2, qe⟩ := s2 q h3 h4
  rw [pe, qe]
  exact hinc p' q' p1 (by omega) q2
/-- Two stretches were sorted one behind the other. -/
theorem mrg_two {cs : List Int} {a m b : Nat} {o X1 X2 : List Int} (_ham : a ≤ m) (hmb : m ≤ b) (hb : b ≤ o.length) (h1 : Sorted cs a m o X1) (h2 : Sorted cs m b X1 X2) (hinc : ∀ p q, a ≤ p → p < q → q < b → o.getD p 0 < o.getD q 0) : Mrg cs a m b X2 := by
  refine mrg_of (o := o) (fun p q e1 e2 e3 => ?_) h2.ord (fun p e1 e2 => ?_) (fun p e1 e2 => ?_) hinc
  · rw [h2.out p (by omega), h2.out q (by omega)]; exact h1.ord p q e1 e2 e3
  · rw [h2.out p (by omega)]; exact h1.same.mem (by omega) p e1 e2
  · obtain ⟨q, q1, q2, qe⟩ := h2.same.mem (by rw [h1.perm.length_eq]; exact hb) p e1 e2
    exact ⟨q, q1, q2, by rw [qe, h1.out q (by omega)]⟩
theorem sorted_on {cs : List Int} {a b : Nat} {o X Y : List Int} (h1 : Same a b o X) (h2 : Sorted cs a b X Y) : Sorted cs a b o Y := ⟨h2.perm.trans h1.perm, fun p hp => (h2.out p hp).trans (h1.out p hp), h2.ord⟩
/-- Three stretches were sorted one behind the other, then the first two were merged. -/
theorem mrg_three {cs : List Int} {a m c b : Nat} {o X1 X2 X3 X4 : List Int} (ham : a ≤ m) (hmc : m ≤ c) (hcb : c ≤ b) (hb : b ≤ o.length) (h1 : Sorted cs a m o X1) (h2 : Sorted cs m c X1 X2) (h3 : Sorted cs c b X2 X3) (h4 : Sorted cs a c X3 X4) (hinc : ∀ p q, a ≤ p → p < q → q < b → o.getD p 0 < o.getD q 0) : Mrg cs a c b X4 := by
  have s2 : Same a c o X2 := (h1.same.wide (Nat.le_refl _) hmc).trans (h2.same.wide ham (Nat.le_refl _))
  have l3 : X3.length = o.length := by rw [h3.perm.length_eq, s2.perm.length_eq]
  refine mrg_of (o := o) h4.ord (fun p q e1 e2 e3 => ?_) (fun p e1 e2 => ?_) (fun p e1 e2 => ?_) hinc
  · rw [h4.out p (by omega), h4.out q (by omega)]; exact h3.ord p q e1 e2 e3
  · obtain ⟨q, q1, q2, qe⟩ := h4.same.mem (by omega) p e1 e2
    obtain ⟨r, r1, r2, re⟩ := s2.mem (by omega) q q1 q2
    exact ⟨r, r1, r2, by rw [qe, h3.out q (by omega), re]⟩
  · rw [h4.out p (by omega)]
    obtain ⟨q, q1, q2, qe⟩ := h3.same.mem (by rw [s2.perm.length_eq]; exact hb) p e1 e2
    exact ⟨q, q1, q2, by rw [qe, s2.out q (by omega)]⟩
theorem mrg_low {cs : List Int} {a m c b : Nat} {o X1 X2 X3 : List Int} (ham : a ≤ m) (hmc : m ≤ c) (hcb : c ≤ b) (hb : b ≤ o.length) (h1 : Sorted cs a m o X1) (h2 : Sorted cs m c X1 X2) (h3 : Sorted cs c b X2 X3) (hinc : ∀ p q, a ≤ p → p < q → q < b → o.getD p 0 < o.getD q 0) : Mrg cs a m c X3 := by
  have h := mrg_two ham hmc (by omega) h1 h2 (fun p q e1 e2 e3 => hinc p q e1 e2 (by omega))
  refine ⟨fun p q e1 e2 e3 => ?_, fun p q e1 e2 e3 => ?_, fun p q e1 e2 e3 e4 => ?_⟩
  · rw [h3.out p (by omega), h3.out q (by omega)]; exact h.lo p q e1 e2 e3
  · rw [h3.out p (by omega), h3.out q (by omega)]; exact h.hi p q e1 e2 e3
  · rw [h3.out p (by omega), h3.out q (by omega)]; exact h.less p q e1 e2 e3 e4
theorem sorted_none {cs : List Int} {a b : Nat} {o X Y : List Int} (h : Sorted cs a b o X) (h2 : Sorted cs b b X Y) : Sorted cs a b o Y := by
  have e : Y = X := ext_getD h2.perm.length_eq (fun p _ => h2.out p (by omega))
  rw [e]; exact h
end Hf

set_option maxHeartbeats 3200000 in
set_option maxRecDepth 100000 in
theorem stab_a (n cap B gb gs gc oc capc : Nat) (cs o : List Int) (w : World) (hcts : Cts w gb gs gc oc capc cs) (hl : o.length = n) (hown : w.ownsRow B 3 1 (.slice (some ⟨gs, 0, none⟩) n cap) n (o.map (Value.int .i64))) (hcap : n ≤ cap) (ho : ∀ u ∈ o, 0 ≤ u ∧ u < (cs.length : Int)) (hinc : ∀ p q, p < q → q < n → o.getD p 0 < o.getD q 0) (h1 : 20 < n) (h2 : n < 40) :
    Calls Try.prog 39 #[(.slice (some ⟨gs, 0, none⟩) n cap), .int .i64 (n : Int), .func (.func 36) #[] #[.pointer (some ⟨gb, 0, none⟩)]] w fun e w' => e = .returned (.tuple #[]) ∧ (∃ X, Sorted cs 0 n o X ∧ w'.ownsRow B 3 1 (.slice (some ⟨gs, 0, none⟩) n cap) n (X.map (Value.int .i64))) ∧ w.grownBy w' (some gs) := by
  have HO0 := hid hown
  have HCT := hid hcts
  have HOO := hid ho
  have HIN : Hid (∀ p q, 0 ≤ p → p < q → q < n → o.getD p 0 < o.getD q 0) := fun p q _ h1 h2 => hinc p q h1 h2
  have HL0 := hid hl
  have HCAP := hid hcap
  have HG0 : Hid (w.grownBy w (some gs)) := World.grownBy.refl _ _
  have HP0 : Hid (o.Perm o) := List.Perm.refl _
  clear hown hcts ho hinc hl hcap
  have hf0 : (20 : Int) < (n : Int) := by omega
  have hf1 : (20 : Int) ≤ (n : Int) := by omega
  have hf2 : ¬ (40 : Int) ≤ (n : Int) := by omega
  have hf3 : ¬ (40 : Int) < (n : Int) := by omega
  have HI1 : Hid (Calls Try.prog 41 #[(.slice (some ⟨gs, 0, none⟩) n cap), .int .i64 0, .int .i64 20, .func (.func 36) #[] #[.pointer (some ⟨gb, 0, none⟩)]] w fun e w' => e = .returned (.tuple #[]) ∧ (∃ Y, Sorted cs 0 20 o Y ∧ w'.ownsRow B 3 1 (.slice (some ⟨gs, 0, none⟩) n cap) n (Y.map (Value.int .i64))) ∧ w.grownBy w' (some gs)) := ins_word 0 20 n cap B gb gs gc oc capc cs o w (HCT.out.kept HG0.out) (by omega) (by omega) (by omega) HL0.out HO0.out HCAP.out (fun u hu => HOO.out u (HP0.out.subset hu)) (fun p q h1 h2 h3 => HIN.out p q (by omega) h2 (by omega))
  go_enter Try.func39, Try.ntmps39
  go_wp2
  refine wp_loop_rounds 2 ?_
  rw [rounds_succ]
  go_wp2_with fail
  refine HI1.out.mono ?_
  rintro _ w1 ⟨rfl, ⟨X1, hX, hown⟩, hg⟩
  have HS1 := hid hX
  have HO1 := hid hown
  have HG1 := hid (grown_trans HG0.out hg)
  have HL1 : Hid (X1.length = n) := by show _ = _; rw [HS1.out.perm.length_eq, HL0.out]
  have HP1 : Hid (X1.Perm o) := HS1.out.perm.trans HP0.out
  clear hX hown hg HI1 HO0
  have HI2 : Hid (Calls Try.prog 41 #[(.slice (some ⟨gs, 0, none⟩) n cap), .int .i64 20, .int .i64 (n : Int), .func (.func 36) #[] #[.pointer (some ⟨gb, 0, none⟩)]] w1 fun e w' => e = .returned (.tuple #[]) ∧ (∃ Y, Sorted cs 20 n X1 Y ∧ w'.ownsRow B 3 1 (.slice (some ⟨gs, 0, none⟩) n cap) n (Y.map (Value.int .i64))) ∧ w1.grownBy w' (some gs)) := ins_word 20 n n cap B gb gs gc oc capc cs X1 w1 (HCT.out.kept HG1.out) (by omega) (by omega) (by omega) HL1.out HO1.out HCAP.out (fun u hu => HOO.out u (HP1.out.subset hu)) (fun p q h1 h2 h3 => by rw [HS1.out.out p (by omega), HS1.out.out q (by omega)]; exact HIN.out p q (by omega) h2 (by omega))
  go_wp2
  rw [rounds_succ]
  go_wp2_with fail
  refine HI2.out.mono ?_
  rintro _ w2 ⟨rfl, ⟨X2, hX, hown⟩, hg⟩
  have HS2 := hid hX
  have HO2 := hid hown
  have HG2 := hid (grown_trans HG1.out hg)
  have HL2 : Hid (X2.length = n) := by show _ = _; rw [HS2.out.perm.length_eq, HL1.out]
  have HP2 : Hid (X2.Perm o) := HS2.out.perm.trans HP1.out
  clear hX hown hg HI2 HO1
  have HI3 : Hid (Calls Try.prog 42 #[(.slice (some ⟨gs, 0, none⟩) n cap), .int .i64 0, .int .i64 20, .int .i64 (n : Int), .func (.func 36) #[] #[.pointer (some ⟨gb, 0, none⟩)]] w2 fun e w' => e = .returned (.tuple #[]) ∧ (∃ Y, Sorted cs 0 n X2 Y ∧ w'.ownsRow B 3 1 (.slice (some ⟨gs, 0, none⟩) n cap) n (Y.map (Value.int .i64))) ∧ w2.grownBy w' (some gs)) := sym_word n cap B gb gs gc oc capc cs (by omega) n 0 20 n X2 w2 (by omega) (HCT.out.kept HG2.out) (by omega) (by omega) (by omega) HL2.out HO2.out (fun u hu => HOO.out u (HP2.out.subset hu)) (mrg_two (by omega) (by omega) (by rw [HL0.out]; exact Nat.le_refl _) HS1.out HS2.out HIN.out)
  go_wp2
  refine wp_loop_rounds 2 ?_
  rw [rounds_succ]
  go_wp2_with fail
  refine wp_loop_rounds 1 ?_
  rw [rounds_succ]
  go_wp2_with fail
  refine HI3.out.mono ?_
  rintro _ w3 ⟨rfl, ⟨X3, hX, hown⟩, hg⟩
  have HS3 := hid hX
  have HO3 := hid hown
  have HG3 := hid (grown_trans HG2.out hg)
  have HL3 : Hid (X3.length = n) := by show _ = _; rw [HS3.out.perm.length_eq, HL2.out]
  have HP3 : Hid (X3.Perm o) := HS3.out.perm.trans HP2.out
  clear hX hown hg HI3 HO2
  go_wp2
  rw [rounds_succ]
  have HEND : Hid (Sorted cs 0 n o X3) := sorted_on ((HS1.out.same.wide (Nat.le_refl _) (by omega)).trans (HS2.out.same.wide (by omega) (Nat.le_refl _))) HS3.out
  clear HCT HOO HIN
  go_wp2
  go_end0
  exact ⟨rfl, ⟨X3, HEND.out, HO3.out⟩, HG3.out⟩
end Go.Proofs.Ytgecoiakhmnilab
/-
  The contract of slices.SortStableFunc's inner function at 40 numbers.
-/
namespace Go.Proofs.Ytgecoiakhmnilab
open Go.RowKit Hf

set_option maxHeartbeats 3200000 in
set_option maxRecDepth 100000 in
theorem stab_b (n cap B gb gs gc oc capc : Nat) (cs o : List Int) (w : World) (hcts : Cts w gb gs gc oc capc cs) (hl : o.length = n) (hown : w.ownsRow B 3 1 (.slice (some ⟨gs, 0, none⟩) n cap) n (o.map (Value.int .i64))) (hcap : n ≤ cap) (ho : ∀ u ∈ o, 0 ≤ u ∧ u < (cs.length : Int)) (hinc : ∀ p q, p < q → q < n → o.getD p 0 < o.getD q 0) (hn40 : n = 40) :
    Calls Try.prog 39 #[(.slice (some ⟨gs, 0, none⟩) n cap), .int .i64 (n : Int), .func (.func 36) #[] #[.pointer (some ⟨gb, 0, none⟩)]] w fun e w' => e = .returned (.tuple #[]) ∧ (∃ X, Sorted cs 0 n o X ∧ w'.ownsRow B 3 1 (.slice (some ⟨gs, 0, none⟩) n cap) n (X.map (Value.int .i64))) ∧ w.grownBy w' (some gs) := by
  have HO0 := hid hown
  have HCT := hid hcts
  have HOO := hid ho
  have HIN : Hid (∀ p q, 0 ≤ p → p < q → q < n → o.getD p 0 < o.getD q 0) := fun p q _ h1 h2 => hinc p q h1 h2
  have HL0 := hid hl
  have HCAP := hid hcap
  have HG0 : Hid (w.grownBy w (some gs)) := World.grownBy.refl _ _
  have HP0 : Hid (o.Perm o) := List.Perm.refl _
  clear hown hcts ho hinc hl hcap
  subst hn40
  have HI1 : Hid (Calls Try.prog 41 #[(.slice (some ⟨gs, 0, none⟩) 40 cap), .int .i64 0, .int .i64 20, .func (.func 36) #[] #[.pointer (some ⟨gb, 0, none⟩)]] w fun e w' => e = .returned (.tuple #[]) ∧ (∃ Y, Sorted cs 0 20 o Y ∧ w'.ownsRow B 3 1 (.slice (some ⟨gs, 0, none⟩) 40 cap) 40 (Y.map (Value.int .i64))) ∧ w.grownBy w' (some gs)) := ins_word 0 20 40 cap B gb gs gc oc capc cs o w (HCT.out.kept HG0.out) (by omega) (by omega) (by omega) HL0.out HO0.out HCAP.out (fun u hu => HOO.out u (HP0.out.subset hu)) (fun p q h1 h2 h3 => HIN.out p q (by omega) h2 (by omega))
  go_enter Try.func39, Try.ntmps39
  go_wp2
  refine wp_loop_rounds 3 ?_
  rw [rounds_succ]
  go_wp2_with fail
  refine HI1.out.mono ?_
  rintro _ w1 ⟨rfl, ⟨X1, hX, hown⟩, hg⟩
  have HS1 := hid hX
  have HO1 := hid hown
  have HG1 := hid (grown_trans HG0.out hg)
  have HL1 : Hid (X1.length = 40) := by show _ = _; rw [HS1.out.perm.length_eq, HL0.out]
  have HP1 : Hid (X1.Perm o) := HS1.out.perm.trans HP0.out
  clear hX hown hg HI1 HO0
  have HI2 : Hid (Calls Try.prog 41 #[(.slice (some ⟨gs, 0, none⟩) 40 cap), .int .i64 20, .int .i64 40, .func (.func 36) #[] #[.pointer (some ⟨gb, 0, none⟩)]] w1 fun e w' => e = .returned (.tuple #[]) ∧ (∃ Y, Sorted cs 20 40 X1 Y ∧ w'.ownsRow B 3 1 (.slice (some ⟨gs, 0, none⟩) 40 cap) 40 (Y.map (Value.int .i64))) ∧ w1.grownBy w' (some gs)) := ins_word 20 40 40 cap B gb gs gc oc capc cs X1 w1 (HCT.out.kept HG1.out) (by omega) (by omega) (by omega) HL1.out HO1.out HCAP.out (fun u hu => HOO.out u (HP1.out.subset hu)) (fun p q h1 h2 h3 => by rw [HS1.out.out p (by omega), HS1.out.out q (by omega)]; exact HIN.out p q (by omega) h2 (by omega))
  go_wp2
  rw [rounds_succ]
  go_wp2_with fail
  refine HI2.out.mono ?_
  rintro _ w2 ⟨rfl, ⟨X2, hX, hown⟩, hg⟩
  have HS2 := hid hX
  have HO2 := hid hown
  have HG2 := hid (grown_trans HG1.out hg)
  have HL2 : Hid (X2.length = 40) := by show _ = _; rw [HS2.out.perm.length_eq, HL1.out]
  have HP2 : Hid (X2.Perm o) := HS2.out.perm.trans HP1.out
  clear hX hown hg HI2 HO1
  have HI3 : Hid (Calls Try.prog 41 #[(.slice (some ⟨gs, 0, none⟩) 40 cap), .int .i64 40, .int .i64 40, .func (.func 36) #[] #[.pointer (some ⟨gb, 0, none⟩)]] w2 fun e w' => e = .returned (.tuple #[]) ∧ (∃ Y, Sorted cs 40 40 X2 Y ∧ w'.ownsRow B 3 1 (.slice (some ⟨gs, 0, none⟩) 40 cap) 40 (Y.map (Value.int .i64))) ∧ w2.grownBy w' (some gs)) := ins_word 40 40 40 cap B gb gs gc oc capc cs X2 w2 (HCT.out.kept HG2.out) (by omega) (by omega) (by omega) HL2.out HO2.out HCAP.out (fun u hu => HOO.out u (HP2.out.subset hu)) (fun p q h1 h2 h3 => by omega)
  go_wp2
  rw [rounds_succ]
  go_wp2_with fail
  refine HI3.out.mono ?_
  rintro _ w3 ⟨rfl, ⟨X3, hX, hown⟩, hg⟩
  have HS3 := hid hX
  have HO3 := hid hown
  have HG3 := hid (grown_trans HG2.out hg)
  have HL3 : Hid (X3.length = 40) := by show _ = _; rw [HS3.out.perm.length_eq, HL2.out]
  have HP3 : Hid (X3.Perm o) := HS3.out.perm.trans HP2.out
  clear hX hown hg HI3 HO2
  have HI4 : Hid (Calls Try.prog 42 #[(.slice (some ⟨gs, 0, none⟩) 40 cap), .int .i64 0, .int .i64 20, .int .i64 40, .func (.func 36) #[] #[.pointer (some ⟨gb, 0, none⟩)]] w3 fun e w' => e = .returned (.tuple #[]) ∧ (∃ Y, Sorted cs 0 40 X3 Y ∧ w'.ownsRow B 3 1 (.slice (some ⟨gs, 0, none⟩) 40 cap) 40 (Y.map (Value.int .i64))) ∧ w3.grownBy w' (some gs)) := sym_word 40 cap B gb gs gc oc capc cs (by omega) 40 0 20 40 X3 w3 (by omega) (HCT.out.kept HG3.out) (by omega) (by omega) (by omega) HL3.out HO3.out (fun u hu => HOO.out u (HP3.out.subset hu)) (mrg_two (by omega) (by omega) (by rw [HL0.out]; exact Nat.le_refl _) HS1.out (sorted_none HS2.out HS3.out) HIN.out)
  go_wp2
  refine wp_loop_rounds 2 ?_
  rw [rounds_succ]
  go_wp2_with fail
  refine wp_loop_rounds 2 ?_
  rw [rounds_succ]
  go_wp2_with fail
  refine HI4.out.mono ?_
  rintro _ w4 ⟨rfl, ⟨X4, hX, hown⟩, hg⟩
  have HS4 := hid hX
  have HO4 := hid hown
  have HG4 := hid (grown_trans HG3.out hg)
  have HL4 : Hid (X4.length = 40) := by show _ = _; rw [HS4.out.perm.length_eq, HL3.out]
  have HP4 : Hid (X4.Perm o) := HS4.out.perm.trans HP3.out
  clear hX hown hg HI4 HO3
  go_wp2
  rw [rounds_succ]
  go_wp2_with fail
  rw [rounds_succ]
  have HEND : Hid (Sorted cs 0 40 o X4) := sorted_on ((HS1.out.same.wide (Nat.le_refl _) (by omega)).trans ((sorted_none HS2.out HS3.out).same.wide (by omega) (Nat.le_refl _))) HS4.out
  clear HCT HOO HIN
  go_wp2
  go_end0
  exact ⟨rfl, ⟨X4, HEND.out, HO4.out⟩, HG4.out⟩
end Go.Proofs.Ytgecoiakhmnilab
/-
  The contract of slices.SortStableFunc's inner function at more than 40 and fewer than 60 numbers.
-/
namespace Go.Proofs.Ytgecoiakhmnilab
open Go.RowKit Hf

set_option maxHeartbeats 3200000 in
set_option maxRecDepth 100000 in
theorem stab_c (n cap B gb gs gc oc capc : Nat) (cs o : List Int) (w : World) (hcts : Cts w gb gs gc oc capc cs) (hl : o.length = n) (hown : w.ownsRow B 3 1 (.slice (some ⟨gs, 0, none⟩) n cap) n (o.map (Value.int .i64))) (hcap : n ≤ cap) (ho : ∀ u ∈ o, 0 ≤ u ∧ u < (cs.length : Int)) (hinc : ∀ p q, p < q → q < n → o.getD p 0 < o.getD q 0) (h1 : 40 < n) (h2 : n < 60) :
    Calls Try.prog 39 #[(.slice (some ⟨gs, 0, none⟩) n cap), .int .i64 (n : Int), .func (.func 36) #[] #[.pointer (some ⟨gb, 0, none⟩)]] w fun e w' => e = .returned (.tuple #[]) ∧ (∃ X, Sorted cs 0 n o X ∧ w'.ownsRow B 3 1 (.slice (some ⟨gs, 0, none⟩) n cap) n (X.map (Value.int .i64))) ∧ w.grownBy w' (some gs) := by
  have HO0 := hid hown
  have HCT := hid hcts
  have HOO := hid ho
  have HIN : Hid (∀ p q, 0 ≤ p → p < q → q < n → o.getD p 0 < o.getD q 0) := fun p q _ h1 h2 => hinc p q h1 h2
  have HL0 := hid hl
  have HCAP := hid hcap
  have HG0 : Hid (w.grownBy w (some gs)) := World.grownBy.refl _ _
  have HP0 : Hid (o.Perm o) := List.Perm.refl _
  clear hown hcts ho hinc hl hcap
  have hf0 : (20 : Int) < (n : Int) := by omega
  have hf1 : (20 : Int) ≤ (n : Int) := by omega
  have hf2 : (40 : Int) ≤ (n : Int) := by omega
  have hf3 : (40 : Int) < (n : Int) := by omega
  have hf4 : ¬ (60 : Int) ≤ (n : Int) := by omega
  have hf5 : ¬ (60 : Int) < (n : Int) := by omega
  have hf6 : ¬ (80 : Int) ≤ (n : Int) := by omega
  have hf7 : ¬ (80 : Int) < (n : Int) := by omega
  have HI1 : Hid (Calls Try.prog 41 #[(.slice (some ⟨gs, 0, none⟩) n cap), .int .i64 0, .int .i64 20, .func (.func 36) #[] #[.pointer (some ⟨gb, 0, none⟩)]] w fun e w' => e = .returned (.tuple #[]) ∧ (∃ Y, Sorted cs 0 20 o Y ∧ w'.ownsRow B 3 1 (.slice (some ⟨gs, 0, none⟩) n cap) n (Y.map (Value.int .i64))) ∧ w.grownBy w' (some gs)) := ins_word 0 20 n cap B gb gs gc oc capc cs o w (HCT.out.kept HG0.out) (by omega) (by omega) (by omega) HL0.out HO0.out HCAP.out (fun u hu => HOO.out u (HP0.out.subset hu)) (fun p q h1 h2 h3 => HIN.out p q (by omega) h2 (by omega))
  go_enter Try.func39, Try.ntmps39
  go_wp2
  refine wp_loop_rounds 3 ?_
  rw [rounds_succ]
  go_wp2_with fail
  refine HI1.out.mono ?_
  rintro _ w1 ⟨rfl, ⟨X1, hX, hown⟩, hg⟩
  have HS1 := hid hX
  have HO1 := hid hown
  have HG1 := hid (grown_trans HG0.out hg)
  have HL1 : Hid (X1.length = n) := by show _ = _; rw [HS1.out.perm.length_eq, HL0.out]
  have HP1 : Hid (X1.Perm o) := HS1.out.perm.trans HP0.out
  clear hX hown hg HI1 HO0
  have HI2 : Hid (Calls Try.prog 41 #[(.slice (some ⟨gs, 0, none⟩) n cap), .int .i64 20, .int .i64 40, .func (.func 36) #[] #[.pointer (some ⟨gb, 0, none⟩)]] w1 fun e w' => e = .returned (.tuple #[]) ∧ (∃ Y, Sorted cs 20 40 X1 Y ∧ w'.ownsRow B 3 1 (.slice (some ⟨gs, 0, none⟩) n cap) n (Y.map (Value.int .i64))) ∧ w1.grownBy w' (some gs)) := ins_word 20 40 n cap B gb gs gc oc capc cs X1 w1 (HCT.out.kept HG1.out) (by omega) (by omega) (by omega) HL1.out HO1.out HCAP.out (fun u hu => HOO.out u (HP1.out.subset hu)) (fun p q h1 h2 h3 => by rw [HS1.out.out p (by omega), HS1.out.out q (by omega)]; exact HIN.out p q (by omega) h2 (by omega))
  go_wp2
  rw [rounds_succ]
  go_wp2_with fail
  refine HI2.out.mono ?_
  rintro _ w2 ⟨rfl, ⟨X2, hX, hown⟩, hg⟩
  have HS2 := hid hX
  have HO2 := hid hown
  have HG2 := hid (grown_trans HG1.out hg)
  have HL2 : Hid (X2.length = n) := by show _ = _; rw [HS2.out.perm.length_eq, HL1.out]
  have HP2 : Hid (X2.Perm o) := HS2.out.perm.trans HP1.out
  clear hX hown hg HI2 HO1
  have HI3 : Hid (Calls Try.prog 41 #[(.slice (some ⟨gs, 0, none⟩) n cap), .int .i64 40, .int .i64 (n : Int), .func (.func 36) #[] #[.pointer (some ⟨gb, 0, none⟩)]] w2 fun e w' => e = .returned (.tuple #[]) ∧ (∃ Y, Sorted cs 40 n X2 Y ∧ w'.ownsRow B 3 1 (.slice (some ⟨gs, 0, none⟩) n cap) n (Y.map (Value.int .i64))) ∧ w2.grownBy w' (some gs)) := ins_word 40 n n cap B gb gs gc oc capc cs X2 w2 (HCT.out.kept HG2.out) (by omega) (by omega) (by omega) HL2.out HO2.out HCAP.out (fun u hu => HOO.out u (HP2.out.subset hu)) (fun p q h1 h2 h3 => by rw [HS2.out.out p (by omega), HS2.out.out q (by omega), HS1.out.out p (by omega), HS1.out.out q (by omega)]; exact HIN.out p q (by omega) h2 (by omega))
  go_wp2
  rw [rounds_succ]
  go_wp2_with fail
  refine HI3.out.mono ?_
  rintro _ w3 ⟨rfl, ⟨X3, hX, hown⟩, hg⟩
  have HS3 := hid hX
  have HO3 := hid hown
  have HG3 := hid (grown_trans HG2.out hg)
  have HL3 : Hid (X3.length = n) := by show _ = _; rw [HS3.out.perm.length_eq, HL2.out]
  have HP3 : Hid (X3.Perm o) := HS3.out.perm.trans HP2.out
  clear hX hown hg HI3 HO2
  have HI4 : Hid (Calls Try.prog 42 #[(.slice (some ⟨gs, 0, none⟩) n cap), .int .i64 0, .int .i64 20, .int .i64 40, .func (.func 36) #[] #[.pointer (some ⟨gb, 0, none⟩)]] w3 fun e w' => e = .returned (.tuple #[]) ∧ (∃ Y, Sorted cs 0 40 X3 Y ∧ w'.ownsRow B 3 1 (.slice (some ⟨gs, 0, none⟩) n cap) n (Y.map (Value.int .i64))) ∧ w3.grownBy w' (some gs)) := sym_word n cap B gb gs gc oc capc cs (by omega) n 0 20 40 X3 w3 (by omega) (HCT.out.kept HG3.out) (by omega) (by omega) (by omega) HL3.out HO3.out (fun u hu => HOO.out u (HP3.out.subset hu)) (mrg_low (by omega) (by omega) (by omega) (by rw [HL0.out]; exact Nat.le_refl _) HS1.out HS2.out HS3.out HIN.out)
  go_wp2
  refine wp_loop_rounds 3 ?_
  rw [rounds_succ]
  go_wp2_with fail
  refine wp_loop_rounds 2 ?_
  rw [rounds_succ]
  go_wp2_with fail
  refine HI4.out.mono ?_
  rintro _ w4 ⟨rfl, ⟨X4, hX, hown⟩, hg⟩
  have HS4 := hid hX
  have HO4 := hid hown
  have HG4 := hid (grown_trans HG3.out hg)
  have HL4 : Hid (X4.length = n) := by show _ = _; rw [HS4.out.perm.length_eq, HL3.out]
  have HP4 : Hid (X4.Perm o) := HS4.out.perm.trans HP3.out
  clear hX hown hg HI4 HO3
  have HI5 : Hid (Calls Try.prog 42 #[(.slice (some ⟨gs, 0, none⟩) n cap), .int .i64 0, .int .i64 40, .int .i64 (n : Int), .func (.func 36) #[] #[.pointer (some ⟨gb, 0, none⟩)]] w4 fun e w' => e = .returned (.tuple #[]) ∧ (∃ Y, Sorted cs 0 n X4 Y ∧ w'.ownsRow B 3 1 (.slice (some ⟨gs, 0, none⟩) n cap) n (Y.map (Value.int .i64))) ∧ w4.grownBy w' (some gs)) := sym_word n cap B gb gs gc oc capc cs (by omega) n 0 40 n X4 w4 (by omega) (HCT.out.kept HG4.out) (by omega) (by omega) (by omega) HL4.out HO4.out (fun u hu => HOO.out u (HP4.out.subset hu)) (mrg_three (by omega) (by omega) (by omega) (by rw [HL0.out]; exact Nat.le_refl _) HS1.out HS2.out HS3.out HS4.out HIN.out)
  go_wp2
  rw [rounds_succ]
  go_wp2_with fail
  rw [rounds_succ]
  go_wp2_with fail
  refine wp_loop_rounds 1 ?_
  rw [rounds_succ]
  go_wp2_with fail
  refine HI5.out.mono ?_
  rintro _ w5 ⟨rfl, ⟨X5, hX, hown⟩, hg⟩
  have HS5 := hid hX
  have HO5 := hid hown
  have HG5 := hid (grown_trans HG4.out hg)
  have HL5 : Hid (X5.length = n) := by show _ = _; rw [HS5.out.perm.length_eq, HL4.out]
  have HP5 : Hid (X5.Perm o) := HS5.out.perm.trans HP4.out
  clear hX hown hg HI5 HO4
  go_wp2
  rw [rounds_succ]
  have HEND : Hid (Sorted cs 0 n o X5) := sorted_on (((HS1.out.same.wide (Nat.le_refl _) (by omega)).trans (HS2.out.same.wide (by omega) (by omega))).trans ((HS3.out.same.wide (by omega) (Nat.le_refl _)).trans (HS4.out.same.wide (by omega) (by omega)))) HS5.out
  clear HCT HOO HIN
  go_wp2
  go_end0
  exact ⟨rfl, ⟨X5, HEND.out, HO5.out⟩, HG5.out⟩
end Go.Proofs.Ytgecoiakhmnilab
/-
  The contract of slices.SortStableFunc's inner function at 60 numbers.
-/
namespace Go.Proofs.Ytgecoiakhmnilab
open Go.RowKit Hf

set_option maxHeartbeats 3200000 in
set_option maxRecDepth 100000 in
theorem stab_d (n cap B gb gs gc oc capc : Nat) (cs o : List Int) (w : World) (hcts : Cts w gb gs gc oc capc cs) (hl : o.length = n) (hown : w.ownsRow B 3 1 (.slice (some ⟨gs, 0, none⟩) n cap) n (o.map (Value.int .i64))) (hcap : n ≤ cap) (ho : ∀ u ∈ o, 0 ≤ u ∧ u < (cs.length : Int)) (hinc : ∀ p q, p < q → q < n → o.getD p 0 < o.getD q 0) (hn60 : n = 60) :
    Calls Try.prog 39 #[(.slice (some ⟨gs, 0, none⟩) n cap), .int .i64 (n : Int), .func (.func 36) #[] #[.pointer (some ⟨gb, 0, none⟩)]] w fun e w' => e = .returned (.tuple #[]) ∧ (∃ X, Sorted cs 0 n o X ∧ w'.ownsRow B 3 1 (.slice (some ⟨gs, 0, none⟩) n cap) n (X.map (Value.int .i64))) ∧ w.grownBy w' (some gs) := by
  have HO0 := hid hown
  have HCT := hid hcts
  have HOO := hid ho
  have HIN : Hid (∀ p q, 0 ≤ p → p < q → q < n → o.getD p 0 < o.getD q 0) := fun p q _ h1 h2 => hinc p q h1 h2
  have HL0 := hid hl
  have HCAP := hid hcap
  have HG0 : Hid (w.grownBy w (some gs)) := World.grownBy.refl _ _
  have HP0 : Hid (o.Perm o) := List.Perm.refl _
  clear hown hcts ho hinc hl hcap
  subst hn60
  have HI1 : Hid (Calls Try.prog 41 #[(.slice (some ⟨gs, 0, none⟩) 60 cap), .int .i64 0, .int .i64 20, .func (.func 36) #[] #[.pointer (some ⟨gb, 0, none⟩)]] w fun e w' => e = .returned (.tuple #[]) ∧ (∃ Y, Sorted cs 0 20 o Y ∧ w'.ownsRow B 3 1 (.slice (some ⟨gs, 0, none⟩) 60 cap) 60 (Y.map (Value.int .i64))) ∧ w.grownBy w' (some gs)) := ins_word 0 20 60 cap B gb gs gc oc capc cs o w (HCT.out.kept HG0.out) (by omega) (by omega) (by omega) HL0.out HO0.out HCAP.out (fun u hu => HOO.out u (HP0.out.subset hu)) (fun p q h1 h2 h3 => HIN.out p q (by omega) h2 (by omega))
  go_enter Try.func39, Try.ntmps39
  go_wp2
  refine wp_loop_rounds 4 ?_
  rw [rounds_succ]
  go_wp2_with fail
  refine HI1.out.mono ?_
  rintro _ w1 ⟨rfl, ⟨X1, hX, hown⟩, hg⟩
  have HS1 := hid hX
  have HO1 := hid hown
  have HG1 := hid (grown_trans HG0.out hg)
  have HL1 : Hid (X1.length = 60) := by show _ = _; rw [HS1.out.perm.length_eq, HL0.out]
  have HP1 : Hid (X1.Perm o) := HS1.out.perm.trans HP0.out
  clear hX hown hg HI1 HO0
  have HI2 : Hid (Calls Try.prog 41 #[(.slice (some ⟨gs, 0, none⟩) 60 cap), .int .i64 20, .int .i64 40, .func (.func 36) #[] #[.pointer (some ⟨gb, 0, none⟩)]] w1 fun e w' => e = .returned (.tuple #[]) ∧ (∃ Y, Sorted cs 20 40 X1 Y ∧ w'.ownsRow B 3 1 (.slice (some ⟨gs, 0, none⟩) 60 cap) 60 (Y.map (Value.int .i64))) ∧ w1.grownBy w' (some gs)) := ins_word 20 40 60 cap B gb gs gc oc capc cs X1 w1 (HCT.out.kept HG1.out) (by omega) (by omega) (by omega) HL1.out HO1.out HCAP.out (fun u hu => HOO.out u (HP1.out.subset hu)) (fun p q h1 h2 h3 => by rw [HS1.out.out p (by omega), HS1.out.out q (by omega)]; exact HIN.out p q (by omega) h2 (by omega))
  go_wp2
  rw [rounds_succ]
  go_wp2_with fail
  refine HI2.out.mono ?_
  rintro _ w2 ⟨rfl, ⟨X2, hX, hown⟩, hg⟩
  have HS2 := hid hX
  have HO2 := hid hown
  have HG2 := hid (grown_trans HG1.out hg)
  have HL2 : Hid (X2.length = 60) := by show _ = _; rw [HS2.out.perm.length_eq, HL1.out]
  have HP2 : Hid (X2.Perm o) := HS2.out.perm.trans HP1.out
  clear hX hown hg HI2 HO1
  have HI3 : Hid (Calls Try.prog 41 #[(.slice (some ⟨gs, 0, none⟩) 60 cap), .int .i64 40, .int .i64 60, .func (.func 36) #[] #[.pointer (some ⟨gb, 0, none⟩)]] w2 fun e w' => e = .returned (.tuple #[]) ∧ (∃ Y, Sorted cs 40 60 X2 Y ∧ w'.ownsRow B 3 1 (.slice (some ⟨gs, 0, none⟩) 60 cap) 60 (Y.map (Value.int .i64))) ∧ w2.grownBy w' (some gs)) := ins_word 40 60 60 cap B gb gs gc oc capc cs X2 w2 (HCT.out.kept HG2.out) (by omega) (by omega) (by omega) HL2.out HO2.out HCAP.out (fun u hu => HOO.out u (HP2.out.subset hu)) (fun p q h1 h2 h3 => by rw [HS2.out.out p (by omega), HS2.out.out q (by omega), HS1.out.out p (by omega), HS1.out.out q (by omega)]; exact HIN.out p q (by omega) h2 (by omega))
  go_wp2
  rw [rounds_succ]
  go_wp2_with fail
  refine HI3.out.mono ?_
  rintro _ w3 ⟨rfl, ⟨X3, hX, hown⟩, hg⟩
  have HS3 := hid hX
  have HO3 := hid hown
  have HG3 := hid (grown_trans HG2.out hg)
  have HL3 : Hid (X3.length = 60) := by show _ = _; rw [HS3.out.perm.length_eq, HL2.out]
  have HP3 : Hid (X3.Perm o) := HS3.out.perm.trans HP2.out
  clear hX hown hg HI3 HO2
  have HI4 : Hid (Calls Try.prog 41 #[(.slice (some ⟨gs, 0, none⟩) 60 cap), .int .i64 60, .int .i64 60, .func (.func 36) #[] #[.pointer (some ⟨gb, 0, none⟩)]] w3 fun e w' => e = .returned (.tuple #[]) ∧ (∃ Y, Sorted cs 60 60 X3 Y ∧ w'.ownsRow B 3 1 (.slice (some ⟨gs, 0, none⟩) 60 cap) 60 (Y.map (Value.int .i64))) ∧ w3.grownBy w' (some gs)) := ins_word 60 60 60 cap B gb gs gc oc capc cs X3 w3 (HCT.out.kept HG3.out) (by omega) (by omega) (by omega) HL3.out HO3.out HCAP.out (fun u hu => HOO.out u (HP3.out.subset hu)) (fun p q h1 h2 h3 => by omega)
  go_wp2
  rw [rounds_succ]
  go_wp2_with fail
  refine HI4.out.mono ?_
  rintro _ w4 ⟨rfl, ⟨X4, hX, hown⟩, hg⟩
  have HS4 := hid hX
  have HO4 := hid hown
  have HG4 := hid (grown_trans HG3.out hg)
  have HL4 : Hid (X4.length = 60) := by show _ = _; rw [HS4.out.perm.length_eq, HL3.out]
  have HP4 : Hid (X4.Perm o) := HS4.out.perm.trans HP3.out
  clear hX hown hg HI4 HO3
  have HI5 : Hid (Calls Try.prog 42 #[(.slice (some ⟨gs, 0, none⟩) 60 cap), .int .i64 0, .int .i64 20, .int .i64 40, .func (.func 36) #[] #[.pointer (some ⟨gb, 0, none⟩)]] w4 fun e w' => e = .returned (.tuple #[]) ∧ (∃ Y, Sorted cs 0 40 X4 Y ∧ w'.ownsRow B 3 1 (.slice (some ⟨gs, 0, none⟩) 60 cap) 60 (Y.map (Value.int .i64))) ∧ w4.grownBy w' (some gs)) := sym_word 60 cap B gb gs gc oc capc cs (by omega) 60 0 20 40 X4 w4 (by omega) (HCT.out.kept HG4.out) (by omega) (by omega) (by omega) HL4.out HO4.out (fun u hu => HOO.out u (HP4.out.subset hu)) (mrg_low (by omega) (by omega) (by omega) (by rw [HL0.out]; exact Nat.le_refl _) HS1.out HS2.out (sorted_none HS3.out HS4.out) HIN.out)
  go_wp2
  refine wp_loop_rounds 3 ?_
  rw [rounds_succ]
  go_wp2_with fail
  refine wp_loop_rounds 2 ?_
  rw [rounds_succ]
  go_wp2_with fail
  refine HI5.out.mono ?_
  rintro _ w5 ⟨rfl, ⟨X5, hX, hown⟩, hg⟩
  have HS5 := hid hX
  have HO5 := hid hown
  have HG5 := hid (grown_trans HG4.out hg)
  have HL5 : Hid (X5.length = 60) := by show _ = _; rw [HS5.out.perm.length_eq, HL4.out]
  have HP5 : Hid (X5.Perm o) := HS5.out.perm.trans HP4.out
  clear hX hown hg HI5 HO4
  have HI6 : Hid (Calls Try.prog 42 #[(.slice (some ⟨gs, 0, none⟩) 60 cap), .int .i64 0, .int .i64 40, .int .i64 60, .func (.func 36) #[] #[.pointer (some ⟨gb, 0, none⟩)]] w5 fun e w' => e = .returned (.tuple #[]) ∧ (∃ Y, Sorted cs 0 60 X5 Y ∧ w'.ownsRow B 3 1 (.slice (some ⟨gs, 0, none⟩) 60 cap) 60 (Y.map (Value.int .i64))) ∧ w5.grownBy w' (some gs)) := sym_word 60 cap B gb gs gc oc capc cs (by omega) 60 0 40 60 X5 w5 (by omega) (HCT.out.kept HG5.out) (by omega) (by omega) (by omega) HL5.out HO5.out (fun u hu => HOO.out u (HP5.out.subset hu)) (mrg_three (by omega) (by omega) (by omega) (by rw [HL0.out]; exact Nat.le_refl _) HS1.out HS2.out (sorted_none HS3.out HS4.out) HS5.out HIN.out)
  go_wp2
  rw [rounds_succ]
  go_wp2_with fail
  rw [rounds_succ]
  go_wp2_with fail
  refine wp_loop_rounds 1 ?_
  rw [rounds_succ]
  go_wp2_with fail
  refine HI6.out.mono ?_
  rintro _ w6 ⟨rfl, ⟨X6, hX, hown⟩, hg⟩
  have HS6 := hid hX
  have HO6 := hid hown
  have HG6 := hid (grown_trans HG5.out hg)
  have HL6 : Hid (X6.length = 60) := by show _ = _; rw [HS6.out.perm.length_eq, HL5.out]
  have HP6 : Hid (X6.Perm o) := HS6.out.perm.trans HP5.out
  clear hX hown hg HI6 HO5
  go_wp2
  rw [rounds_succ]
  have HEND : Hid (Sorted cs 0 60 o X6) := sorted_on (((HS1.out.same.wide (Nat.le_refl _) (by omega)).trans (HS2.out.same.wide (by omega) (by omega))).trans (((sorted_none HS3.out HS4.out).same.wide (by omega) (Nat.le_refl _)).trans (HS5.out.same.wide (by omega) (by omega)))) HS6.out
  clear HCT HOO HIN
  go_wp2
  go_end0
  exact ⟨rfl, ⟨X6, HEND.out, HO6.out⟩, HG6.out⟩
end Go.Proofs.Ytgecoiakhmnilab
/-
  The contracts of the document's Bits and Pack.
-/
namespace Go.Proofs.Ytgecoiakhmnilab
open Go.RowKit Hf

theorem Try.info4 : (Try.prog.info? 4).map (fun i => (i.zero, i.size, i.bytes)) = some (some (.bool false), 1, 1) := by kernel_rfl

/-- The slice at a reads, in the world w, as these bits. -/
structure Rb (w : World) (a : Option Addr) (cap : Nat) (bs : List Bool) : Prop where
  room : bs.length ≤ cap
  most : cap ≤ maxLen
  cells : 0 < bs.length → ∃ b off, a = some ⟨b, off, none⟩ ∧ b < w.heap.size ∧ ∀ j, j < bs.length → w.cell? ⟨b, off + j, none⟩ = some (.bool (bs.getD j false))
theorem Rb.later {w w' : World} {a : Option Addr} {cap : Nat} {bs : List Bool} (h : Rb w a cap bs) (hb : Below w.heap.size w w') : Rb w' a cap bs := by
  refine ⟨h.room, h.most, fun h0 => ?_⟩
  obtain ⟨b, off, ha, hbw, hc⟩ := h.cells h0
  exact ⟨b, off, ha, Nat.lt_of_lt_of_le hbw hb.size, fun j hj => (hb.cell (p := ⟨b, off + j, none⟩) hbw).trans (hc j hj)⟩
theorem Rb.own {w : World} {base : Nat} {e : TypeId} {v : Value} {bs : List Bool} (h : w.ownsRow base e 1 v bs.length (bs.map Value.bool)) :
    ∃ a cap, v = .slice a bs.length cap ∧ Rb w a cap bs := by
  obtain ⟨hl, hn | ⟨g, cap, cur, rfl, hb, hg, hnc, hcm, hcur, htk⟩⟩ := id h
  · obtain ⟨rfl, h0⟩ := hn
    refine ⟨none, 0, by rw [h0], by omega, by unfold maxLen; omega, fun h1 => by omega⟩
  · refine ⟨some ⟨g, 0, none⟩, cap, rfl, hnc, hcm, fun h0 => ⟨g, 0, rfl, ?_, fun j hj => ?_⟩⟩
    · exact (Array.getElem?_eq_some_iff.1 hg).1
    · rw [Nat.zero_add, h.cellAt j (by omega), List.getElem?_map]
      simp [List.getD, List.getElem?_eq_getElem hj]

set_option maxHeartbeats 800000 in
theorem bits_ref (c n : Nat) (w : World) (hc : c < 65536) (hn : n ≤ 1000) :
    Calls Try.prog 14 #[.int .u16 (c : Int), .int .i64 (n : Int)] w fun e w' => ∃ v, e = .returned v ∧ w'.ownsRow w.heap.size 4 1 v (bitsL c n).length ((bitsL c n).map Value.bool) ∧ Below w.heap.size w w' := by
  obtain ⟨i0, hi, hz0, hz1, hz2⟩ := info_parts Try.info4
  go_enter Try.func14, Try.ntmps14
  go_wp2_with (at_make; refine wpList_make_full _ rfl _ _ 37 rfl w.heap.size 4 i0 (.bool false) 1 Try.underlying37 hi hz0 hz1 .i64 .i64 _ _ n rfl rfl (by first | rfl | omega) (by first | rfl | omega) ?b2 ?b3 ?b4 ?_)
  case b2 => rw [hz2]; omega
  case b3 => unfold maxLen; omega
  case b4 => exact Nat.le_refl _
  intro w1 hown0 hgrow
  have hb1 : Below w.heap.size w w1 := (Below.refl _ _).grown hgrow (Nat.le_refl _) (fun k hk => by cases hk)
  rw [toList_madeCells_one, show List.replicate n (Value.bool false) = (backL c n 0).map Value.bool from by rw [backL_zero]; simp] at hown0
  have HO := hid hown0
  clear hgrow hown0
  go_wp2
  go_loopw [0, 6] (fun x y wr => ∃ j : Nat, j ≤ n ∧ y = .int .i64 ((n : Int) - 1 - (j : Int)) ∧ x = .int .u16 ((c / 2 ^ j : Nat) : Int) ∧ wr.ownsRow w.heap.size 4 1 (.slice (some ⟨w.heap.size, 0, none⟩) n n) n ((backL c n j).map Value.bool) ∧ Below w.heap.size w wr) (fun _ y _ => (intOf y + 1).toNat)
  case atStart => exact ⟨0, by omega, by simp, by simp, HO.out, hb1⟩
  case round =>
    clear HO hb1
    obtain ⟨j, hj, rfl, rfl, hown, hbel⟩ := hrel
    by_cases hlt : j < n
    · obtain ⟨i, hij⟩ : ∃ i : Nat, (n : Int) - 1 - (j : Int) = (i : Int) := ⟨n - 1 - j, by omega⟩
      have HI : Hid (i = n - 1 - j) := by show _ = _; omega
      have hin : i < n := by omega
      have hin' : (i : Int) < (n : Int) := by omega
      have hcell : ∃ u, wr.cell? ⟨w.heap.size, i, none⟩ = some u := by
        rw [hown.cellAt i (by omega)]
        exact ⟨_, List.getElem?_eq_getElem (by rw [List.length_map, backL_length]; exact hin)⟩
      obtain ⟨u, hu⟩ := hcell
      have hfz := hown.frozenAt i
      have hst := hown.stored i (.bool (c / 2 ^ j % 2 == 1))
      rw [← List.map_set, HI.out, backL_set c n j hlt, ← HI.out] at hst
      have hnb := hbel.grown hst.2 hbel.size (fun j hj => by injection hj with hj; omega)
      have HS := hid hst.1
      have HB := hid hnb
      have hle : c / 2 ^ j ≤ c := Nat.div_le_self _ _
      have HD : Hid (c / 2 ^ (j + 1) = c / 2 ^ j / 2) := by show _ = _; rw [Nat.pow_succ, ← Nat.div_div_eq_div_mul]
      have HQ : Hid (Value.int .i64 ((i : Int) - 1) = Value.int .i64 ((n : Int) - 1 - ((j + 1 : Nat) : Int))) := by
        show _ = _
        congr 1
        omega
      rw [hij]
      clear hst hnb hown hbel hij
      generalize c / 2 ^ j = d at *
      have HV : Hid (((d : Int) % 2 == 1) = (d % 2 == 1)) := by show _ = _; rw [Bool.eq_iff_iff, beq_iff_eq, beq_iff_eq]; omega
      have hi0 : (0 : Int) ≤ (i : Int) := by omega
      go_wp2
      rw [HV.out]
      exact ⟨⟨j + 1, by omega, HQ.out, by rw [HD.out]; simp, HS.out, HB.out⟩, by simp [intOf]⟩
    · obtain rfl : j = n := by omega
      rw [backL_full] at hown
      have hneg : ¬ (0 : Int) ≤ (j : Int) - 1 - (j : Int) := by omega
      generalize (j : Int) - 1 - (j : Int) = z at *
      generalize c / 2 ^ j = d at *
      go_wp2
      go_ret
      exact ⟨_, rfl, by rw [bitsL_length]; exact hown, hbel⟩

theorem own_some {w : World} {B e n : Nat} {v : Value} {xs : List Value} (h : w.ownsRow B e 1 v n xs) (hn : 0 < n) : ∃ g cap, v = .slice (some ⟨g, 0, none⟩) n cap ∧ B ≤ g ∧ n ≤ cap := by
  rcases h.2 with ⟨_, h0⟩ | ⟨g, cap, cur, hv, hb, hg, hnc, _⟩
  · omega
  · exact ⟨g, cap, hv, hb, hnc⟩

theorem halve (k : Nat) (hk : k < 8) : 2 ^ (7 - k) ≤ 128 := by
  have := Nat.pow_le_pow_right (show 0 < 2 by decide) (show 7 - k ≤ 7 by omega)
  simpa using this

end Go.Proofs.Ytgecoiakhmnilab
