/-
  The contract of slices.SortStableFunc's inner function at more than 20 and at most 60 numbers.
-/
import Derived.Test.YtgecoiakhmnilaaSym
namespace Go.Proofs.Ytgecoiakhmnilaa
open Go.RowKit Hf

namespace Hf
theorem Same.wide {a b a' b' : Nat} {o X : List Int} (h : Same a b o X) (h1 : a' ≤ a) (h2 : b ≤ b') : Same a' b' o X := ⟨h.perm, fun p hp => h.out p (by omega)⟩
theorem Same.trans {a b : Nat} {o X Y : List Int} (h : Same a b o X) (h2 : Same a b X Y) : Same a b o Y := ⟨h2.perm.trans h.perm, fun p hp => (h2.out p hp).trans (h.out p hp)⟩
theorem mrg_of {cs : List Int} {a m b : Nat} {o X : List Int} (hlo : ∀ p q, a ≤ p → p < q → q < m → Lx cs (X.getD p 0) (X.getD q 0)) (hhi : ∀ p q, m ≤ p → p < q → q < b → Lx cs (X.getD p 0) (X.getD q 0))
    (s1 : ∀ p, a ≤ p → p < m → ∃ q, a ≤ q ∧ q < m ∧ X.getD p 0 = o.getD q 0) (s2 : ∀ p, m ≤ p → p < b → ∃ q, m ≤ q ∧ q < b ∧ X.getD p 0 = o.getD q 0) (hinc : ∀ p q, a ≤ p → p < q → q < b → o.getD p 0 < o.getD q 0) : Mrg cs a m b X := by
  refine ⟨hlo, hhi, fun p q h1 h2 h3 h4 => ?_⟩
  obtain ⟨p', p1, p2, pe⟩ := s1 p h1 h2
  obtain ⟨q', q1, q2, qe⟩ := s2 q h3 h4
  rw [pe, qe]
  exact hinc p' q' p1 (by omega) q2
/-- Two stretches were sorted one behind the other. -/
theorem mrg_two {cs : List Int} {a m b : Nat} {o X1 X2 : List Int} (_ham : a ≤ m) (hmb : m ≤ b) (hb : b ≤ o.length) (h1 : Sorted cs a m o X1) (h2 : Sorted cs m b X1 X2) (hinc : ∀ p q, a ≤ p → p < q → q < b → o.getD p 0 < o.getD q 0) : Mrg cs a m b X2 := by
  refine mrg_of (o := o) (fun p q e1 e2 e3 => ?_) h2.ord (fun p e1 e2 => ?_) (fun p e1 e2 => ?_) hinc
  · rw [h2.out p (by omega), h2.out q (by omega)]; exact h1.ord p q e1 e2 e3
  · rw [h2.out p (by omega)]; exact h1.same.mem (by omega) p e1 e2
  · obtain ⟨q, q1, q2, qe⟩ := h2.same.mem (by rw [h1.perm.length_eq]; exact hb) p e1 e2
    exact ⟨q, q1, q2, by rw [qe, h1.out q (by omega)]⟩
theorem sorted_on {cs : List Int} {a b : Nat} {o X Y : List Int} (h1 : Same a b o X) (h2 : Sorted cs a b X Y) : Sorted cs a b o Y := ⟨h2.perm.trans h1.perm, fun p hp => (h2.out p hp).trans (h1.out p hp), h2.ord⟩
/-- Three stretches were sorted one behind the other, then the first two were merged. -/
theorem mrg_three {cs : List Int} {a m c b : Nat} {o X1 X2 X3 X4 : List Int} (ham : a ≤ m) (hmc : m ≤ c) (hcb : c ≤ b) (hb : b ≤ o.length) (h1 : Sorted cs a m o X1) (h2 : Sorted cs m c X1 X2) (h3 : Sorted cs c b X2 X3) (h4 : Sorted cs a c X3 X4) (hinc : ∀ p q, a ≤ p → p < q → q < b → o.getD p 0 < o.getD q 0) : Mrg cs a c b X4 := by
  have s2 : Same a c o X2 := (h1.same.wide (Nat.le_refl _) hmc).trans (h2.same.wide ham (Nat.le_refl _))
  have l3 : X3.length = o.length := by rw [h3.perm.length_eq, s2.perm.length_eq]
  refine mrg_of (o := o) h4.ord (fun p q e1 e2 e3 => ?_) (fun p e1 e2 => ?_) (fun p e1 e2 => ?_) hinc
  · rw [h4.out p (by omega), h4.out q (by omega)]; exact h3.ord p q e1 e2 e3
  · obtain ⟨q, q1, q2, qe⟩ := h4.same.mem (by omega) p e1 e2
    obtain ⟨r, r1, r2, re⟩ := s2.mem (by omega) q q1 q2
    exact ⟨r, r1, r2, by rw [qe, h3.out q (by omega), re]⟩
  · rw [h4.out p (by omega)]
    obtain ⟨q, q1, q2, qe⟩ := h3.same.mem (by rw [s2.perm.length_eq]; exact hb) p e1 e2
    exact ⟨q, q1, q2, by rw [qe, s2.out q (by omega)]⟩
theorem mrg_low {cs : List Int} {a m c b : Nat} {o X1 X2 X3 : List Int} (ham : a ≤ m) (hmc : m ≤ c) (hcb : c ≤ b) (hb : b ≤ o.length) (h1 : Sorted cs a m o X1) (h2 : Sorted cs m c X1 X2) (h3 : Sorted cs c b X2 X3) (hinc : ∀ p q, a ≤ p → p < q → q < b → o.getD p 0 < o.getD q 0) : Mrg cs a m c X3 := by
  have h := mrg_two ham hmc (by omega) h1 h2 (fun p q e1 e2 e3 => hinc p q e1 e2 (by omega))
  refine ⟨fun p q e1 e2 e3 => ?_, fun p q e1 e2 e3 => ?_, fun p q e1 e2 e3 e4 => ?_⟩
  · rw [h3.out p (by omega), h3.out q (by omega)]; exact h.lo p q e1 e2 e3
  · rw [h3.out p (by omega), h3.out q (by omega)]; exact h.hi p q e1 e2 e3
  · rw [h3.out p (by omega), h3.out q (by omega)]; exact h.less p q e1 e2 e3 e4
theorem sorted_none {cs : List Int} {a b : Nat} {o X Y : List Int} (h : Sorted cs a b o X) (h2 : Sorted cs b b X Y) : Sorted cs a b o Y := by
  have e : Y = X := ext_getD h2.perm.length_eq (fun p _ => h2.out p (by omega))
  rw [e]; exact h
end Hf

set_option maxHeartbeats 3200000 in
set_option maxRecDepth 100000 in
theorem stab_a (n cap B gb gs gc oc capc : Nat) (cs o : List Int) (w : World) (hcts : Cts w gb gs gc oc capc cs) (hl : o.length = n) (hown : w.ownsRow B 3 1 (.slice (some ⟨gs, 0, none⟩) n cap) n (o.map (Value.int .i64))) (hcap : n ≤ cap) (ho : ∀ u ∈ o, 0 ≤ u ∧ u < (cs.length : Int)) (hinc : ∀ p q, p < q → q < n → o.getD p 0 < o.getD q 0) (h1 : 20 < n) (h2 : n < 40) :
    Calls Try.prog 55 #[(.slice (some ⟨gs, 0, none⟩) n cap), .int .i64 (n : Int), .func (.func 52) #[] #[.pointer (some ⟨gb, 0, none⟩)]] w fun e w' => e = .returned (.tuple #[]) ∧ (∃ X, Sorted cs 0 n o X ∧ w'.ownsRow B 3 1 (.slice (some ⟨gs, 0, none⟩) n cap) n (X.map (Value.int .i64))) ∧ w.grownBy w' (some gs) := by
  have HO0 := hid hown
  have HCT := hid hcts
  have HOO := hid ho
  have HIN : Hid (∀ p q, 0 ≤ p → p < q → q < n → o.getD p 0 < o.getD q 0) := fun p q _ h1 h2 => hinc p q h1 h2
  have HL0 := hid hl
  have HCAP := hid hcap
  have HG0 : Hid (w.grownBy w (some gs)) := World.grownBy.refl _ _
  have HP0 : Hid (o.Perm o) := List.Perm.refl _
  clear hown hcts ho hinc hl hcap
  have hf0 : (20 : Int) < (n : Int) := by omega
  have hf1 : (20 : Int) ≤ (n : Int) := by omega
  have hf2 : ¬ (40 : Int) ≤ (n : Int) := by omega
  have hf3 : ¬ (40 : Int) < (n : Int) := by omega
  have HI1 : Hid (Calls Try.prog 57 #[(.slice (some ⟨gs, 0, none⟩) n cap), .int .i64 0, .int .i64 20, .func (.func 52) #[] #[.pointer (some ⟨gb, 0, none⟩)]] w fun e w' => e = .returned (.tuple #[]) ∧ (∃ Y, Sorted cs 0 20 o Y ∧ w'.ownsRow B 3 1 (.slice (some ⟨gs, 0, none⟩) n cap) n (Y.map (Value.int .i64))) ∧ w.grownBy w' (some gs)) := ins_word 0 20 n cap B gb gs gc oc capc cs o w (HCT.out.kept HG0.out) (by omega) (by omega) (by omega) HL0.out HO0.out HCAP.out (fun u hu => HOO.out u (HP0.out.subset hu)) (fun p q h1 h2 h3 => HIN.out p q (by omega) h2 (by omega))
  go_enter Try.func55, Try.ntmps55
  go_wp2
  refine wp_loop_rounds 2 ?_
  rw [rounds_succ]
  go_wp2_with fail
  refine HI1.out.mono ?_
  rintro _ w1 ⟨rfl, ⟨X1, hX, hown⟩, hg⟩
  have HS1 := hid hX
  have HO1 := hid hown
  have HG1 := hid (grown_trans HG0.out hg)
  have HL1 : Hid (X1.length = n) := by show _ = _; rw [HS1.out.perm.length_eq, HL0.out]
  have HP1 : Hid (X1.Perm o) := HS1.out.perm.trans HP0.out
  clear hX hown hg HI1 HO0
  have HI2 : Hid (Calls Try.prog 57 #[(.slice (some ⟨gs, 0, none⟩) n cap), .int .i64 20, .int .i64 (n : Int), .func (.func 52) #[] #[.pointer (some ⟨gb, 0, none⟩)]] w1 fun e w' => e = .returned (.tuple #[]) ∧ (∃ Y, Sorted cs 20 n X1 Y ∧ w'.ownsRow B 3 1 (.slice (some ⟨gs, 0, none⟩) n cap) n (Y.map (Value.int .i64))) ∧ w1.grownBy w' (some gs)) := ins_word 20 n n cap B gb gs gc oc capc cs X1 w1 (HCT.out.kept HG1.out) (by omega) (by omega) (by omega) HL1.out HO1.out HCAP.out (fun u hu => HOO.out u (HP1.out.subset hu)) (fun p q h1 h2 h3 => by rw [HS1.out.out p (by omega), HS1.out.out q (by omega)]; exact HIN.out p q (by omega) h2 (by omega))
  go_wp2
  rw [rounds_succ]
  go_wp2_with fail
  refine HI2.out.mono ?_
  rintro _ w2 ⟨rfl, ⟨X2, hX, hown⟩, hg⟩
  have HS2 := hid hX
  have HO2 := hid hown
  have HG2 := hid (grown_trans HG1.out hg)
  have HL2 : Hid (X2.length = n) := by show _ = _; rw [HS2.out.perm.length_eq, HL1.out]
  have HP2 : Hid (X2.Perm o) := HS2.out.perm.trans HP1.out
  clear hX hown hg HI2 HO1
  have HI3 : Hid (Calls Try.prog 58 #[(.slice (some ⟨gs, 0, none⟩) n cap), .int .i64 0, .int .i64 20, .int .i64 (n : Int), .func (.func 52) #[] #[.pointer (some ⟨gb, 0, none⟩)]] w2 fun e w' => e = .returned (.tuple #[]) ∧ (∃ Y, Sorted cs 0 n X2 Y ∧ w'.ownsRow B 3 1 (.slice (some ⟨gs, 0, none⟩) n cap) n (Y.map (Value.int .i64))) ∧ w2.grownBy w' (some gs)) := sym_word n cap B gb gs gc oc capc cs (by omega) n 0 20 n X2 w2 (by omega) (HCT.out.kept HG2.out) (by omega) (by omega) (by omega) HL2.out HO2.out (fun u hu => HOO.out u (HP2.out.subset hu)) (mrg_two (by omega) (by omega) (by rw [HL0.out]; exact Nat.le_refl _) HS1.out HS2.out HIN.out)
  go_wp2
  refine wp_loop_rounds 2 ?_
  rw [rounds_succ]
  go_wp2_with fail
  refine wp_loop_rounds 1 ?_
  rw [rounds_succ]
  go_wp2_with fail
  refine HI3.out.mono ?_
  rintro _ w3 ⟨rfl, ⟨X3, hX, hown⟩, hg⟩
  have HS3 := hid hX
  have HO3 := hid hown
  have HG3 := hid (grown_trans HG2.out hg)
  have HL3 : Hid (X3.length = n) := by show _ = _; rw [HS3.out.perm.length_eq, HL2.out]
  have HP3 : Hid (X3.Perm o) := HS3.out.perm.trans HP2.out
  clear hX hown hg HI3 HO2
  go_wp2
  rw [rounds_succ]
  have HEND : Hid (Sorted cs 0 n o X3) := sorted_on ((HS1.out.same.wide (Nat.le_refl _) (by omega)).trans (HS2.out.same.wide (by omega) (Nat.le_refl _))) HS3.out
  clear HCT HOO HIN
  go_wp2
  go_end0
  exact ⟨rfl, ⟨X3, HEND.out, HO3.out⟩, HG3.out⟩
end Go.Proofs.Ytgecoiakhmnilaa
