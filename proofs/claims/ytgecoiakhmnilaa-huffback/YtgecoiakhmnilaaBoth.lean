/-
  What the code's and the document's functions answer, in one form for both.
-/
import Derived.Test.YtgecoiakhmnilaaAlive
import Derived.Test.YtgecoiakhmnilaaRefEnc
import Derived.Test.YtgecoiakhmnilaaCostW
import Derived.Test.YtgecoiakhmnilaaCostR
namespace Go.Proofs.Ytgecoiakhmnilaa
open Go.RowKit Hf

theorem ri_nil (w : World) (kd : IntKind) : Ri w kd none 0 [] := ⟨Nat.le_refl _, by unfold maxLen; omega, fun h => absurd h (by simp), fun j => by simp; exact wf_zero kd⟩

/-- The codes of lengths; none, if they are no code's. -/
def codesO (zs : List Int) : List Int := if checkB zs then codesL zs else []
theorem codesO_rng (zs : List Int) (j : Nat) : (Lit.int .u16 ((codesO zs).getD j 0)).wf = true := by
  unfold codesO; split
  · exact wf_mk_u16 (codesL_rng zs j).1 (codesL_rng zs j).2
  · simp; exact wf_zero _
def CodesPost (zs : List Int) (w : World) (e : Ending) (w' : World) : Prop :=
  ∃ a cap, e = .returned (.tuple #[.slice a (codesO zs).length cap, .int .i64 (checkF zs)]) ∧ Ri w' .u16 a cap (codesO zs) ∧ Below w.heap.size w w'
theorem codes_w (a : Option Addr) (cap : Nat) (zs : List Int) (w : World) (hr : Ri w .i64 a cap zs) : Calls Try.prog 14 #[.slice a zs.length cap] w (CodesPost zs w) := by
  cases hc : checkB zs with
  | false =>
    refine (codes_no a cap zs w hr hc).mono ?_
    rintro e w' ⟨he, hb⟩
    refine ⟨none, 0, ?_, ?_, hb⟩
    · rw [he]; unfold codesO checkF; rw [hc]; rfl
    · unfold codesO; rw [hc]; exact ri_nil _ _
  | true =>
    refine (codes_word a cap zs w hr hc).mono ?_
    rintro e w' ⟨v, he, ho, hb⟩
    have e1 : codesO zs = codesL zs := by unfold codesO; rw [hc]; rfl
    obtain ⟨a', cap', rfl, hr'⟩ := Ri.own ho (fun j => by rw [← e1]; exact codesO_rng zs j)
    exact ⟨a', cap', by rw [he, e1]; unfold checkF; rw [hc]; rfl, by rw [e1]; exact hr', hb⟩
theorem codes_r (a : Option Addr) (cap : Nat) (zs : List Int) (w : World) (hr : Ri w .i64 a cap zs) : Calls Try.prog 15 #[.slice a zs.length cap] w (CodesPost zs w) := by
  cases hc : checkB zs with
  | false =>
    refine (codesr_no a cap zs w hr hc).mono ?_
    rintro e w' ⟨he, hb⟩
    subst hb
    refine ⟨none, 0, ?_, ?_, Below.refl _ _⟩
    · rw [he]; unfold codesO checkF; rw [hc]; rfl
    · unfold codesO; rw [hc]; exact ri_nil _ _
  | true =>
    refine (codes_ref a cap zs w hr hc).mono ?_
    rintro e w' ⟨v, he, ho, hb⟩
    have e1 : codesO zs = codesL zs := by unfold codesO; rw [hc]; rfl
    obtain ⟨a', cap', rfl, hr'⟩ := Ri.own ho (fun j => by rw [← e1]; exact codesO_rng zs j)
    exact ⟨a', cap', by rw [he, e1]; unfold checkF; rw [hc]; rfl, by rw [e1]; exact hr', hb⟩

/-- Symbols as bits: the bytes, how many bits, the error. -/
def encO (zs ys : List Int) : List Int × Int × Int :=
  if !checkB zs then ([], 0, 51) else if allHas zs ys then (packN (encN zs ys ys.length) (encL zs ys ys.length), ((encL zs ys ys.length : Nat) : Int), 0) else ([], 0, 53)
theorem encO_rng (zs ys : List Int) (j : Nat) : (Lit.int .u8 ((encO zs ys).1.getD j 0)).wf = true := by
  unfold encO; split
  · simp; exact wf_zero _
  · split
    · exact wf_mk_u8 (packN_rng _ _ j).1 (packN_rng _ _ j).2
    · simp; exact wf_zero _
def EncsPost (zs ys : List Int) (w : World) (e : Ending) (w' : World) : Prop :=
  ∃ a cap, e = .returned (.tuple #[.slice a (encO zs ys).1.length cap, .int .i64 (encO zs ys).2.1, .int .i64 (encO zs ys).2.2]) ∧ Ri w' .u8 a cap (encO zs ys).1 ∧ Below w.heap.size w w'
theorem encs_of {zs ys : List Int} {w w' : World} {e : Ending} (hc : checkB zs = true) (h : EncPost zs ys w e w') : EncsPost zs ys w e w' := by
  unfold EncPost at h
  cases ha : allHas zs ys with
  | true =>
    rw [if_pos ha] at h
    obtain ⟨⟨v, he, ho⟩, hb⟩ := h
    have e1 : encO zs ys = (packN (encN zs ys ys.length) (encL zs ys ys.length), ((encL zs ys ys.length : Nat) : Int), 0) := by unfold encO; rw [hc, ha]; rfl
    have hf := encO_rng zs ys
    rw [e1] at hf
    obtain ⟨a', cap', rfl, hr'⟩ := Ri.own ho hf
    exact ⟨a', cap', by rw [he, e1], by rw [e1]; exact hr', hb⟩
  | false =>
    rw [ha] at h
    have e1 : encO zs ys = ([], 0, 53) := by unfold encO; rw [hc, ha]; rfl
    exact ⟨none, 0, by rw [e1]; exact h.1, by rw [e1]; exact ri_nil _ _, h.2⟩
theorem encs_no {zs ys : List Int} {w w' : World} {e : Ending} (hc : checkB zs = false) (h : e = .returned (.tuple #[.slice none 0 0, .int .i64 0, .int .i64 51]) ∧ Below w.heap.size w w') : EncsPost zs ys w e w' := by
  have e1 : encO zs ys = ([], 0, 51) := by unfold encO; rw [hc]; rfl
  exact ⟨none, 0, by rw [e1]; exact h.1, by rw [e1]; exact ri_nil _ _, h.2⟩
theorem encs_w (a : Option Addr) (cap : Nat) (zs : List Int) (b : Option Addr) (cap2 : Nat) (ys : List Int) (w : World) (hr : Ri w .i64 a cap zs) (hr2 : Ri w .i64 b cap2 ys) (hy : ys.length ≤ 120) : Calls Try.prog 21 #[.slice a zs.length cap, .slice b ys.length cap2] w (EncsPost zs ys w) := by
  cases hc : checkB zs with
  | false => exact (encode_no a cap zs b cap2 ys w hr hc).mono fun e w' h => encs_no hc h
  | true => exact (encode_word a cap zs b cap2 ys w hr hr2 hc hy).mono fun e w' h => encs_of hc h
theorem encs_r (a : Option Addr) (cap : Nat) (zs : List Int) (b : Option Addr) (cap2 : Nat) (ys : List Int) (w : World) (hr : Ri w .i64 a cap zs) (hr2 : Ri w .i64 b cap2 ys) (hy : ys.length ≤ 120) : Calls Try.prog 22 #[.slice a zs.length cap, .slice b ys.length cap2] w (EncsPost zs ys w) := by
  cases hc : checkB zs with
  | false => exact (encr_no a cap zs b cap2 ys w hr hc).mono fun e w' h => encs_no hc h
  | true => exact (encode_ref a cap zs b cap2 ys w hr hr2 hc hy).mono fun e w' h => encs_of hc h
end Go.Proofs.Ytgecoiakhmnilaa
