/-
  Plain facts on lengths, how many there are of each, and the codes of lengths.
-/
import Derived.Laws.BitsAllLaws
namespace Go.Proofs.Ytgecoiakhmnilaa
namespace Hf

/-- How many codes have that length. -/
def cnt (zs : List Int) (l : Nat) : Nat := if l = 0 then 0 else zs.countP (fun z => z == (l : Int))
def tal (zs : List Int) : List Nat := (List.range 16).map (cnt zs)

theorem cnt_zero (zs : List Int) : cnt zs 0 = 0 := by simp [cnt]
theorem cnt_le (zs : List Int) (l : Nat) : cnt zs l ≤ zs.length := by
  unfold cnt; split
  · omega
  · exact List.countP_le_length
theorem tal_length (zs : List Int) : (tal zs).length = 16 := by simp [tal]
theorem tal_getD (zs : List Int) (l : Nat) (h : l < 16) : (tal zs).getD l 0 = cnt zs l := by
  simp [tal, List.getD, h]
theorem cnt_snoc (zs : List Int) (z : Int) (l : Nat) : cnt (zs ++ [z]) l = cnt zs l + (if l ≠ 0 ∧ z = (l : Int) then 1 else 0) := by
  unfold cnt
  by_cases h : l = 0
  · simp [h]
  · simp only [h, if_false, List.countP_append, List.countP_singleton, ne_eq, not_false_eq_true, true_and]
    by_cases h2 : z = (l : Int)
    · simp [h2]
    · simp [h2]
theorem tal_nil : tal [] = List.replicate 16 0 := by decide
theorem list_ext_getD {l m : List Nat} (h : l.length = m.length) (he : ∀ i, i < l.length → l.getD i 0 = m.getD i 0) : l = m := by
  refine List.ext_getElem h (fun i h1 h2 => ?_)
  have := he i h1
  simpa [List.getD, List.getElem?_eq_getElem h1, List.getElem?_eq_getElem h2] using this
theorem getD_set (l : List Nat) (i j v : Nat) (h : i < l.length) : (l.set i v).getD j 0 = if j = i then v else l.getD j 0 := by
  simp only [List.getD, List.getElem?_set]
  by_cases e : i = j
  · subst e; simp [h]
  · rw [if_neg e, if_neg (fun x => e x.symm)]
theorem tal_snoc (zs : List Int) (l : Nat) (h0 : 0 < l) (h : l < 16) : tal (zs ++ [(l : Int)]) = (tal zs).set l (cnt zs l + 1) := by
  refine list_ext_getD (by simp [tal_length]) (fun i hi => ?_)
  rw [tal_length] at hi
  rw [tal_getD _ _ hi, getD_set _ _ _ _ (by rw [tal_length]; exact h), tal_getD _ _ hi, cnt_snoc]
  by_cases e : i = l
  · subst e; simp; omega
  · rw [if_neg e, if_neg (by omega)]; rfl
theorem tal_snoc0 (zs : List Int) (z : Int) (h : z ≤ 0) : tal (zs ++ [z]) = tal zs := by
  refine list_ext_getD (by simp [tal_length]) (fun i hi => ?_)
  rw [tal_length] at hi
  rw [tal_getD _ _ hi, tal_getD _ _ hi, cnt_snoc, if_neg (by omega)]; rfl

/-- The sum of 2^(15 - l) over the first k lengths. -/
def wsum (zs : List Int) : Nat → Nat
  | 0 => 0
  | k + 1 => wsum zs k + cnt zs k * 2 ^ (15 - k)
theorem wsum_le (zs : List Int) (k : Nat) : wsum zs k ≤ k * (zs.length * 32768) := by
  induction k with
  | zero => simp [wsum]
  | succ k ih =>
    have h1 := cnt_le zs k
    have h2 : 2 ^ (15 - k) ≤ 2 ^ 15 := Nat.pow_le_pow_right (by decide) (by omega)
    have h3 : cnt zs k * 2 ^ (15 - k) ≤ zs.length * 32768 := Nat.mul_le_mul h1 (by simpa using h2)
    rw [wsum, Nat.add_mul]; omega

def z16 : List Nat := List.replicate 16 0
theorem z16_getD (i : Nat) : z16.getD i 0 = 0 := by
  by_cases h : i < 16
  · have : ∀ i, i < 16 → z16.getD i 0 = 0 := by decide
    exact this i h
  · have : z16[i]? = none := List.getElem?_eq_none (by simp [z16]; omega)
    simp [List.getD, this]
def one16 : List Nat := 0 :: 1 :: List.replicate 14 0

/-- Lengths from 0 to 15, at most 512. -/
def lenOk (zs : List Int) : Bool := decide (zs.length ≤ 512) && zs.all (fun z => decide (0 ≤ z) && decide (z ≤ 15))
def okT (zs : List Int) : Bool := wsum zs 16 == 32768 || tal zs == z16 || tal zs == one16
def checkB (zs : List Int) : Bool := lenOk zs && okT zs
def checkF (zs : List Int) : Int := if checkB zs then 0 else 51

/-- The code of the first symbol of each length. -/
def first (zs : List Int) : Nat → Nat
  | 0 => 0
  | k + 1 => (first zs k + cnt zs k) * 2
theorem first_le (zs : List Int) (k : Nat) : first zs k + 2 * zs.length ≤ zs.length * 2 ^ (k + 1) := by
  induction k with
  | zero => simp [first]; omega
  | succ k ih =>
    have h1 := cnt_le zs k
    rw [first, Nat.pow_succ 2 (k + 1), ← Nat.mul_assoc]
    omega
theorem first_small (zs : List Int) (k : Nat) (hk : k < 16) (hl : zs.length ≤ 520) : first zs k + zs.length ≤ 34078720 := by
  have h := first_le zs k
  have h2 : 2 ^ (k + 1) ≤ 2 ^ 16 := Nat.pow_le_pow_right (by decide) (by omega)
  have h3 : zs.length * 2 ^ (k + 1) ≤ 520 * 65536 := Nat.mul_le_mul hl (by simpa using h2)
  omega

/-- The first codes of the lengths below k. -/
def fillF (zs : List Int) (k : Nat) : List Nat := (List.range 16).map (fun l => if l < k then first zs l else 0)
theorem fillF_length (zs : List Int) (k : Nat) : (fillF zs k).length = 16 := by simp [fillF]
theorem fillF_getD (zs : List Int) (k l : Nat) (h : l < 16) : (fillF zs k).getD l 0 = if l < k then first zs l else 0 := by
  simp [fillF, List.getD, h]
theorem fillF_one (zs : List Int) : fillF zs 1 = z16 := by
  refine list_ext_getD (by simp [fillF, z16]) (fun i hi => ?_)
  rw [fillF_length] at hi
  rw [fillF_getD _ _ _ hi]
  rw [z16_getD]
  by_cases h : i < 1
  · obtain rfl : i = 0 := by omega
    simp [first]
  · simp [h]
theorem fillF_set (zs : List Int) (k : Nat) (h0 : 0 < k) (h : k < 16) : (fillF zs k).set k ((first zs (k - 1) + cnt zs (k - 1)) * 2) = fillF zs (k + 1) := by
  have e : (first zs (k - 1) + cnt zs (k - 1)) * 2 = first zs k := by
    conv => rhs; rw [show k = (k - 1) + 1 from by omega, first]
  rw [e]
  refine list_ext_getD (by simp [fillF]) (fun i hi => ?_)
  rw [List.length_set, fillF_length] at hi
  rw [getD_set _ _ _ _ (by rw [fillF_length]; exact h), fillF_getD _ _ _ hi, fillF_getD _ _ _ hi]
  by_cases e : i = k
  · subst e; simp
  · rw [if_neg e]
    by_cases h2 : i < k
    · rw [if_pos h2, if_pos (by omega)]
    · rw [if_neg h2, if_neg (by omega)]

/-- The next codes of the lengths, behind k symbols. -/
def nextL (zs : List Int) (k : Nat) : List Nat := (List.range 16).map (fun l => first zs l + cnt (zs.take k) l)
theorem nextL_length (zs : List Int) (k : Nat) : (nextL zs k).length = 16 := by simp [nextL]
theorem nextL_getD (zs : List Int) (k l : Nat) (h : l < 16) : (nextL zs k).getD l 0 = first zs l + cnt (zs.take k) l := by
  simp [nextL, List.getD, h]
theorem nextL_zero (zs : List Int) : nextL zs 0 = fillF zs 16 := by
  refine list_ext_getD (by simp [fillF, nextL]) (fun i hi => ?_)
  rw [nextL_length] at hi
  rw [nextL_getD _ _ _ hi, fillF_getD _ _ _ hi, if_pos hi]
  simp [cnt]
theorem take_snoc (zs : List Int) (k : Nat) (hk : k < zs.length) : zs.take (k + 1) = zs.take k ++ [zs.getD k 0] := by
  rw [List.take_succ_eq_append_getElem hk]
  simp [List.getD, List.getElem?_eq_getElem hk]
theorem nextL_set (zs : List Int) (k l : Nat) (hk : k < zs.length) (hz : zs.getD k 0 = (l : Int)) (h0 : 0 < l) (h : l < 16) : (nextL zs k).set l (first zs l + cnt (zs.take k) l + 1) = nextL zs (k + 1) := by
  refine list_ext_getD (by simp [nextL]) (fun i hi => ?_)
  rw [List.length_set, nextL_length] at hi
  rw [getD_set _ _ _ _ (by rw [nextL_length]; exact h), nextL_getD _ _ _ hi, nextL_getD _ _ _ hi, take_snoc zs k hk, hz, cnt_snoc]
  by_cases e : i = l
  · subst e; rw [if_pos rfl, if_pos ⟨by omega, rfl⟩]; omega
  · rw [if_neg e, if_neg (by omega)]; rfl
theorem nextL_same (zs : List Int) (k : Nat) (hk : k < zs.length) (hz : zs.getD k 0 ≤ 0) : nextL zs (k + 1) = nextL zs k := by
  refine list_ext_getD (by simp [nextL]) (fun i hi => ?_)
  rw [nextL_length] at hi
  rw [nextL_getD _ _ _ hi, nextL_getD _ _ _ hi, take_snoc zs k hk, cnt_snoc, if_neg (by omega)]; rfl

/-- The code of a symbol, as a number of 16 bits. -/
def codeN (zs : List Int) (s : Nat) : Nat := first zs (zs.getD s 0).toNat + cnt (zs.take s) (zs.getD s 0).toNat
def codeF (zs : List Int) (s : Nat) : Int := if 0 < zs.getD s 0 then ((codeN zs s % 65536 : Nat) : Int) else 0
def codesL (zs : List Int) : List Int := (List.range zs.length).map (codeF zs)
theorem codesL_length (zs : List Int) : (codesL zs).length = zs.length := by simp [codesL]
theorem codesL_getD (zs : List Int) (s : Nat) (h : s < zs.length) : (codesL zs).getD s 0 = codeF zs s := by
  simp [codesL, List.getD, h]
theorem codeF_rng (zs : List Int) (s : Nat) : 0 ≤ codeF zs s ∧ codeF zs s ≤ 65535 := by
  unfold codeF; split
  · have := Nat.mod_lt (codeN zs s) (show 0 < 65536 by decide); omega
  · omega
theorem codesL_rng (zs : List Int) (j : Nat) : 0 ≤ (codesL zs).getD j 0 ∧ (codesL zs).getD j 0 ≤ 65535 := by
  by_cases h : j < zs.length
  · rw [codesL_getD zs j h]; exact codeF_rng zs j
  · have : (codesL zs)[j]? = none := List.getElem?_eq_none (by rw [codesL_length]; omega)
    simp [List.getD, this]

/-- The codes of the first k symbols. -/
def codesK (zs : List Int) (k : Nat) : List Int := (codesL zs).take k ++ List.replicate (zs.length - k) 0

/-- The document's sums over lengths. -/
def sumR (zs : List Int) : Nat := (zs.map (fun z => if 0 < z then 2 ^ (15 - z.toNat) else 0)).sum
def someR (zs : List Int) : Nat := zs.countP (fun z => decide (0 < z))
def oneR (zs : List Int) : Nat := zs.countP (fun z => z == 1)
theorem sumR_snoc (zs : List Int) (z : Int) : sumR (zs ++ [z]) = sumR zs + (if 0 < z then 2 ^ (15 - z.toNat) else 0) := by
  simp [sumR]
theorem someR_snoc (zs : List Int) (z : Int) : someR (zs ++ [z]) = someR zs + (if 0 < z then 1 else 0) := by
  simp [someR, List.countP_append, List.countP_singleton]
theorem oneR_snoc (zs : List Int) (z : Int) : oneR (zs ++ [z]) = oneR zs + (if z = 1 then 1 else 0) := by
  simp [oneR, List.countP_append, List.countP_singleton]
theorem sumR_le (zs : List Int) : sumR zs ≤ zs.length * 32768 := by
  induction zs with
  | nil => simp [sumR]
  | cons z l ih =>
    have h2 : 2 ^ (15 - z.toNat) ≤ 2 ^ 15 := Nat.pow_le_pow_right (by decide) (by omega)
    have h2' : 2 ^ (15 - z.toNat) ≤ 32768 := by simpa using h2
    simp only [sumR, List.map_cons, List.sum_cons, List.length_cons, Nat.add_mul] at ih ⊢
    split <;> omega

theorem wsum_snoc (zs : List Int) (z : Int) (k : Nat) : wsum (zs ++ [z]) k = wsum zs k + (if 0 < z ∧ z.toNat < k then 2 ^ (15 - z.toNat) else 0) := by
  induction k with
  | zero => simp [wsum]
  | succ k ih =>
    rw [wsum, wsum, ih, cnt_snoc]
    by_cases h : k ≠ 0 ∧ z = (k : Int)
    · have h3 : 0 < z ∧ z.toNat < k + 1 := by omega
      have h4 : ¬ (0 < z ∧ z.toNat < k) := by omega
      have h5 : z.toNat = k := by omega
      rw [if_pos h, if_neg h4, if_pos h3, h5, Nat.add_mul]; omega
    · rw [if_neg h]
      by_cases h2 : 0 < z ∧ z.toNat < k
      · rw [if_pos h2, if_pos ⟨h2.1, by omega⟩, Nat.add_zero]; omega
      · rw [if_neg h2, if_neg (by omega)]; rfl
theorem wsum_nil (k : Nat) : wsum [] k = 0 := by
  induction k with
  | zero => rfl
  | succ k ih => rw [wsum, ih]; simp [cnt]

/-- Lengths that end with z. -/
theorem snoc_ind {p : List Int → Prop} (h0 : p []) (h1 : ∀ l z, p l → p (l ++ [z])) (zs : List Int) : p zs := by
  have h : ∀ n, p (zs.take n) := by
    intro n
    induction n with
    | zero => simpa using h0
    | succ n ih =>
      by_cases hn : n < zs.length
      · rw [take_snoc zs n hn]; exact h1 _ _ ih
      · rw [List.take_of_length_le (by omega)]; rw [List.take_of_length_le (by omega)] at ih; exact ih
  simpa using h zs.length

theorem wsum_sumR (zs : List Int) (h : ∀ z ∈ zs, 0 ≤ z ∧ z ≤ 15) : wsum zs 16 = sumR zs := by
  revert h
  refine snoc_ind (p := fun zs => (∀ z ∈ zs, 0 ≤ z ∧ z ≤ 15) → wsum zs 16 = sumR zs) (fun _ => by rw [wsum_nil]; rfl) (fun l z ih h => ?_) zs
  have hz := h z (by simp)
  rw [wsum_snoc, sumR_snoc, ih (fun y hy => h y (by simp [hy]))]
  by_cases h0 : 0 < z
  · rw [if_pos ⟨h0, by omega⟩, if_pos h0]
  · rw [if_neg (by omega), if_neg h0]

theorem cnt_some (zs : List Int) (l : Nat) : cnt zs l ≤ someR zs := by
  unfold cnt someR
  split
  · omega
  · refine List.countP_mono_left (fun z _ hz => ?_)
    have : z = (l : Int) := by simpa using hz
    simp; omega
theorem tal_zero_iff (zs : List Int) (h : ∀ z ∈ zs, 0 ≤ z ∧ z ≤ 15) : (tal zs == z16) = (someR zs == 0) := by
  rw [Bool.eq_iff_iff, beq_iff_eq, beq_iff_eq]
  constructor
  · intro e
    unfold someR
    rw [List.countP_eq_zero]
    intro z hz hpos
    have hpos' : 0 < z := by simpa using hpos
    have hr := h z hz
    have hc : cnt zs z.toNat = 0 := by
      rw [← tal_getD zs z.toNat (by omega), e, z16_getD]
    unfold cnt at hc
    rw [if_neg (by omega), List.countP_eq_zero] at hc
    exact hc z hz (by simp; omega)
  · intro e
    refine list_ext_getD (by simp [tal_length, z16]) (fun i hi => ?_)
    rw [tal_length] at hi
    rw [tal_getD zs i hi]
    have := cnt_some zs i
    rw [z16_getD]; omega
theorem one_split (zs : List Int) (h : ∀ z ∈ zs, 0 ≤ z ∧ z ≤ 15) : (tal zs == one16) = (someR zs == 1 && oneR zs == 1) := by
  have hone : cnt zs 1 = oneR zs := by unfold cnt oneR; simp
  have hsp : someR zs = oneR zs + zs.countP (fun z => decide (1 < z)) := by
    unfold someR oneR
    clear hone h
    induction zs with
    | nil => rfl
    | cons z l ih =>
      rw [List.countP_cons, List.countP_cons, List.countP_cons, ih]
      by_cases h1 : 1 < z
      · simp [h1, show 0 < z from by omega, show ¬ z = 1 from by omega]; omega
      · by_cases h2 : z = 1
        · subst h2; simp; omega
        · simp [h1, h2, show ¬ 0 < z from by omega]
  rw [Bool.eq_iff_iff, beq_iff_eq, Bool.and_eq_true, beq_iff_eq, beq_iff_eq]
  constructor
  · intro e
    have h1 : oneR zs = 1 := by rw [← hone, ← tal_getD zs 1 (by decide), e]; rfl
    have h2 : zs.countP (fun z => decide (1 < z)) = 0 := by
      rw [List.countP_eq_zero]
      intro z hz hpos
      have hpos' : 1 < z := by simpa using hpos
      have hr := h z hz
      have hc : cnt zs z.toNat = 0 := by
        rw [← tal_getD zs z.toNat (by omega), e]
        have : ∀ i, i < 16 → 1 < i → one16.getD i 0 = 0 := by decide
        exact this _ (by omega) (by omega)
      unfold cnt at hc
      rw [if_neg (by omega), List.countP_eq_zero] at hc
      exact hc z hz (by simp; omega)
    omega
  · rintro ⟨h1, h2⟩
    have h3 : zs.countP (fun z => decide (1 < z)) = 0 := by omega
    refine list_ext_getD (by simp [tal_length, one16]) (fun i hi => ?_)
    rw [tal_length] at hi
    rw [tal_getD zs i hi]
    by_cases e0 : i = 0
    · subst e0; rw [cnt_zero]; rfl
    · by_cases e1 : i = 1
      · subst e1; rw [hone, h2]; rfl
      · have : ∀ i, i < 16 → 1 < i → one16.getD i 0 = 0 := by decide
        rw [this i hi (by omega)]
        unfold cnt
        rw [if_neg e0, List.countP_eq_zero]
        intro z hz hzi
        rw [List.countP_eq_zero] at h3
        have : z = (i : Int) := by simpa using hzi
        exact h3 z hz (by simp; omega)

theorem lenOk_all {zs : List Int} (h : lenOk zs = true) : zs.length ≤ 512 ∧ ∀ z ∈ zs, 0 ≤ z ∧ z ≤ 15 := by
  unfold lenOk at h
  rw [Bool.and_eq_true, decide_eq_true_eq, List.all_eq_true] at h
  exact ⟨h.1, fun z hz => by simpa using h.2 z hz⟩
/-- The document's test. -/
def okR (zs : List Int) : Bool := (someR zs == 0 || (someR zs == 1 && oneR zs == 1)) || sumR zs == 32768
theorem okR_okT {zs : List Int} (h : lenOk zs = true) : okR zs = okT zs := by
  have ha := (lenOk_all h).2
  unfold okR okT
  rw [wsum_sumR zs ha, tal_zero_iff zs ha, one_split zs ha]
  cases (sumR zs == 32768) <;> cases (someR zs == 0) <;> cases (someR zs == 1 && oneR zs == 1) <;> rfl
end Hf
end Go.Proofs.Ytgecoiakhmnilaa
