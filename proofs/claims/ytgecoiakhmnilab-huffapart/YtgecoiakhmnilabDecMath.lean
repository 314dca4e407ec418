/-
  Plain facts on how codes are found in bits.
-/
import Derived.Test.YtgecoiakhmnilabEncMath
namespace Go.Proofs.Ytgecoiakhmnilab
namespace Hf

/-- The i-th bit of bytes. -/
def bitV (b : List Int) (i : Nat) : Nat := (b.getD (i / 8) 0).toNat / 2 ^ (7 - i % 8) % 2
theorem bitV_lt (b : List Int) (i : Nat) : bitV b i < 2 := Nat.mod_lt _ (by decide)
/-- The number of l bits from that place on. -/
def vb (b : List Int) (at' : Nat) : Nat → Nat
  | 0 => 0
  | l + 1 => vb b at' l * 2 + bitV b (at' + l)
theorem vb_lt (b : List Int) (at' l : Nat) : vb b at' l < 2 ^ l := by
  induction l with
  | zero => simp [vb]
  | succ l ih =>
    have := bitV_lt b (at' + l)
    rw [vb, Nat.pow_succ]; omega

/-- How many symbols have shorter codes. -/
def plc (zs : List Int) : Nat → Nat
  | 0 => 0
  | l + 1 => plc zs l + cnt zs l

/-- The search for a code from the length l on: its place in the order of codes, and its length. -/
def fndG (zs b : List Int) (at' : Nat) : Nat → Nat → Int × Int
  | 0, _ => (0, 0)
  | f + 1, l => if l < 16 ∧ at' + l ≤ 8 * b.length then (if vb b at' l < first zs l + cnt zs l then ((plc zs l : Int) + (vb b at' l : Int) - (first zs l : Int), (l : Int)) else fndG zs b at' f (l + 1)) else (0, 0)
def fnd (zs b : List Int) (at' : Nat) : Int × Int := fndG zs b at' 16 1

/-- The symbol of a length that has that code. -/
def who (zs : List Int) (l c : Nat) : Option Nat := (List.range zs.length).find? (fun s => zs.getD s 0 == (l : Int) && codeN zs s == c)
def oneG (zs b : List Int) (at' : Nat) : Nat → Nat → Int × Int
  | 0, _ => (-1, 0)
  | f + 1, l => if l < 16 ∧ at' + l ≤ 8 * b.length then (match who zs l (vb b at' l) with | some s => ((s : Int), (l : Int)) | none => oneG zs b at' f (l + 1)) else (-1, 0)
def oneF (zs b : List Int) (at' : Nat) : Int × Int := oneG zs b at' 16 1

theorem count_at (p : Int → Bool) (zs : List Int) : ∀ r, r < zs.countP p → ∃ s, s < zs.length ∧ p (zs.getD s 0) = true ∧ (zs.take s).countP p = r := by
  induction zs with
  | nil => intro r hr; simp at hr
  | cons z zs ih =>
    intro r hr
    rw [List.countP_cons] at hr
    by_cases hz : p z = true
    · cases r with
      | zero => exact ⟨0, by simp, by simpa using hz, by simp⟩
      | succ r =>
        rw [if_pos hz] at hr
        obtain ⟨s, h1, h2, h3⟩ := ih r (by omega)
        exact ⟨s + 1, by simpa using h1, by simpa using h2, by rw [List.take_succ_cons, List.countP_cons, if_pos hz, h3]⟩
    · rw [if_neg hz] at hr
      obtain ⟨s, h1, h2, h3⟩ := ih r (by omega)
      exact ⟨s + 1, by simpa using h1, by simpa using h2, by rw [List.take_succ_cons, List.countP_cons, if_neg hz, h3]; rfl⟩
theorem cnt_at (zs : List Int) (l r : Nat) (h0 : 0 < l) (hr : r < cnt zs l) : ∃ s, s < zs.length ∧ zs.getD s 0 = (l : Int) ∧ cnt (zs.take s) l = r := by
  unfold cnt at *
  rw [if_neg (by omega)] at hr
  obtain ⟨s, h1, h2, h3⟩ := count_at _ zs r hr
  exact ⟨s, h1, by simpa using h2, by rw [if_neg (by omega)]; exact h3⟩
theorem codeN_eq (zs : List Int) (s l : Nat) (h : zs.getD s 0 = (l : Int)) : codeN zs s = first zs l + cnt (zs.take s) l := by
  unfold codeN; rw [h, Int.toNat_natCast]
/-- Two symbols of a length have other codes. -/
theorem cnt_take_mono (zs : List Int) (l s t : Nat) (h0 : 0 < l) (hs : s < t) (ht : t ≤ zs.length) (hz : zs.getD s 0 = (l : Int)) : cnt (zs.take s) l < cnt (zs.take t) l := by
  have e : (zs.take t).take s = zs.take s := by rw [List.take_take, Nat.min_eq_left (by omega)]
  rw [← e]
  refine cnt_take_lt (zs.take t) s l (by rw [List.length_take]; omega) ?_ h0
  rw [← hz]
  simp [List.getD, List.getElem?_take_of_lt hs]
theorem code_inj (zs : List Int) (l s t : Nat) (h0 : 0 < l) (hs : s < zs.length) (ht : t < zs.length) (h1 : zs.getD s 0 = (l : Int)) (h2 : zs.getD t 0 = (l : Int)) (he : codeN zs s = codeN zs t) : s = t := by
  rw [codeN_eq zs s l h1, codeN_eq zs t l h2] at he
  rcases Nat.lt_trichotomy s t with h | h | h
  · have := cnt_take_mono zs l s t h0 h (by omega) h1; omega
  · exact h
  · have := cnt_take_mono zs l t s h0 h (by omega) h2; omega
theorem who_some {zs : List Int} {l c s : Nat} (h0 : 0 < l) (hs : s < zs.length) (hz : zs.getD s 0 = (l : Int)) (hc : codeN zs s = c) : who zs l c = some s := by
  unfold who
  cases hf : (List.range zs.length).find? (fun s => zs.getD s 0 == (l : Int) && codeN zs s == c) with
  | none =>
    rw [List.find?_eq_none] at hf
    exact absurd (by rw [hz, hc]; simp) (hf s (by simpa using hs))
  | some t =>
    have h1 := List.find?_some hf
    have h2 := List.mem_of_find?_eq_some hf
    rw [Bool.and_eq_true, beq_iff_eq, beq_iff_eq] at h1
    rw [code_inj zs l t s h0 (by simpa using h2) hs h1.1 hz (by rw [h1.2, hc])]
theorem who_none {zs : List Int} {l c : Nat} (h : ∀ s, s < zs.length → zs.getD s 0 = (l : Int) → codeN zs s ≠ c) : who zs l c = none := by
  unfold who
  rw [List.find?_eq_none]
  intro s hs hb
  rw [Bool.and_eq_true, beq_iff_eq, beq_iff_eq] at hb
  exact h s (by simpa using hs) hb.1 hb.2

/-- A row in which the symbols stand in the order of their codes. -/
def Ordd (zs O : List Int) : Prop := ∀ s, s < zs.length → 0 < zs.getD s 0 → O.getD (plc zs (zs.getD s 0).toNat + cnt (zs.take s) (zs.getD s 0).toNat) 0 = (s : Int)

/-- The two searches find the same. -/
theorem search_same (zs b O : List Int) (at' : Nat) (hO : Ordd zs O) : ∀ (f l : Nat), 0 < l → first zs l ≤ vb b at' l →
    (fndG zs b at' f l = (0, 0) ∧ oneG zs b at' f l = (-1, 0)) ∨
    (∃ l' s : Nat, 0 < l' ∧ l' < 16 ∧ at' + l' ≤ 8 * b.length ∧ s < zs.length ∧ zs.getD s 0 = (l' : Int) ∧ codeN zs s = vb b at' l' ∧ fndG zs b at' f l = (((plc zs l' + cnt (zs.take s) l' : Nat) : Int), (l' : Int)) ∧ oneG zs b at' f l = ((s : Int), (l' : Int)) ∧ O.getD (plc zs l' + cnt (zs.take s) l') 0 = (s : Int))
  | 0, _, _, _ => Or.inl ⟨rfl, rfl⟩
  | f + 1, l, h0, hle => by
    rw [fndG, oneG]
    by_cases hc : l < 16 ∧ at' + l ≤ 8 * b.length
    · rw [if_pos hc, if_pos hc]
      by_cases hv : vb b at' l < first zs l + cnt zs l
      · rw [if_pos hv]
        obtain ⟨s, h1, h2, h3⟩ := cnt_at zs l (vb b at' l - first zs l) h0 (by omega)
        have hcode : codeN zs s = vb b at' l := by rw [codeN_eq zs s l h2, h3]; omega
        rw [who_some h0 h1 h2 hcode]
        have ho := hO s h1 (by rw [h2]; omega)
        rw [h2, Int.toNat_natCast] at ho
        refine Or.inr ⟨l, s, h0, hc.1, hc.2, h1, h2, hcode, ?_, rfl, ho⟩
        rw [h3]
        congr 1
        omega
      · rw [if_neg hv]
        have hw : who zs l (vb b at' l) = none := who_none (fun s h1 h2 h3 => by
          rw [codeN_eq zs s l h2] at h3
          have := cnt_take_lt zs s l h1 h2 h0
          omega)
        rw [hw]
        exact search_same zs b O at' hO f (l + 1) (by omega) (by rw [first, vb]; omega)
    · rw [if_neg hc, if_neg hc]; exact Or.inl ⟨rfl, rfl⟩
theorem fnd_one (zs b O : List Int) (at' : Nat) (hO : Ordd zs O) :
    (fnd zs b at' = (0, 0) ∧ oneF zs b at' = (-1, 0)) ∨
    (∃ l' s : Nat, 0 < l' ∧ l' < 16 ∧ at' + l' ≤ 8 * b.length ∧ s < zs.length ∧ zs.getD s 0 = (l' : Int) ∧ codeN zs s = vb b at' l' ∧ fnd zs b at' = (((plc zs l' + cnt (zs.take s) l' : Nat) : Int), (l' : Int)) ∧ oneF zs b at' = ((s : Int), (l' : Int)) ∧ O.getD (plc zs l' + cnt (zs.take s) l') 0 = (s : Int)) :=
  search_same zs b O at' hO 16 1 (by omega) (by simp [first, cnt_zero])

/-- The symbols of bits, as many as are asked for (fuel: more than there are bits): they, the bits that they take, the error. -/
def decG (zs b : List Int) : Nat → Nat → Nat → List Int × Int × Int
  | 0, _, at' => ([], (at' : Int), 52)
  | _ + 1, 0, at' => ([], (at' : Int), 0)
  | f + 1, n + 1, at' => if (oneF zs b at').1 < 0 then ([], (at' : Int), 52) else
      (let r := decG zs b f n (at' + (oneF zs b at').2.toNat); (if r.2.2 = 0 then (oneF zs b at').1 :: r.1 else [], r.2.1, r.2.2))
theorem plc_le (zs : List Int) (l : Nat) : plc zs l ≤ l * zs.length := by
  induction l with
  | zero => simp [plc]
  | succ l ih => have := cnt_le zs l; rw [plc, Nat.add_mul]; omega
end Hf
end Go.Proofs.Ytgecoiakhmnilab
