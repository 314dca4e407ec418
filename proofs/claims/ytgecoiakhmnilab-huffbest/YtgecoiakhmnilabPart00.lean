/-
  Plain facts: the two least weights of a code can be put together.
-/
import Derived.Laws.BitsAllLaws
namespace Go.Proofs.Ytgecoiakhmnilab
namespace Hf
/-- What pairs of a weight and a length cost. -/
def costP : List (Int × Nat) → Int
  | [] => 0
  | q :: P => q.1 * (q.2 : Int) + costP P
/-- The shares of pairs of a weight and a length, of a whole of 2 to the M. -/
def kraP (M : Nat) : List (Int × Nat) → Nat
  | [] => 0
  | q :: P => 2 ^ (M - q.2) + kraP M P
theorem costP_perm {P Q : List (Int × Nat)} (h : P.Perm Q) : costP P = costP Q := by
  induction h with
  | nil => rfl
  | cons x _ ih => simp only [costP]; rw [ih]
  | swap x y l => simp only [costP]; omega
  | trans _ _ ih1 ih2 => rw [ih1, ih2]
theorem kraP_perm (M : Nat) {P Q : List (Int × Nat)} (h : P.Perm Q) : kraP M P = kraP M Q := by
  induction h with
  | nil => rfl
  | cons x _ ih => simp only [kraP]; rw [ih]
  | swap x y l => simp only [kraP]; omega
  | trans _ _ ih1 ih2 => rw [ih1, ih2]
theorem costP_nonneg (P : List (Int × Nat)) (h : ∀ q ∈ P, 0 ≤ q.1) : 0 ≤ costP P := by
  induction P with
  | nil => simp [costP]
  | cons x P ih =>
    have h1 := ih (fun q hq => h q (List.mem_cons_of_mem _ hq))
    have h2 : 0 ≤ x.1 * (x.2 : Int) := Int.mul_nonneg (h x List.mem_cons_self) (by omega)
    simp only [costP]; omega
theorem swap_less {a w : Int} {l m : Nat} (h1 : a ≤ w) (h2 : l ≤ m) : a * (m : Int) + w * (l : Int) ≤ a * (l : Int) + w * (m : Int) := by
  have h : 0 ≤ (w - a) * ((m : Int) - (l : Int)) := Int.mul_nonneg (by omega) (by omega)
  rw [Int.sub_mul, Int.mul_sub, Int.mul_sub] at h
  omega
/-- The least weight is given the greatest length. -/
theorem pull (M : Nat) (a : Int) (la : Nat) : ∀ Q : List (Int × Nat), (∀ q ∈ Q, a ≤ q.1) →
    ∃ m Q', Q'.map Prod.fst = Q.map Prod.fst ∧ (∀ q ∈ Q', q.2 ≤ m) ∧ costP ((a, m) :: Q') ≤ costP ((a, la) :: Q) ∧ kraP M ((a, m) :: Q') = kraP M ((a, la) :: Q) ∧
      (∀ K, la ≤ K → (∀ q ∈ Q, q.2 ≤ K) → m ≤ K)
  | [], _ => ⟨la, [], rfl, fun q hq => by simp at hq, Int.le_refl _, rfl, fun K h _ => h⟩
  | q :: Q, h => by
    obtain ⟨m, Q', h1, h2, h3, h4, h5⟩ := pull M a la Q (fun x hx => h x (List.mem_cons_of_mem _ hx))
    have hq := h q List.mem_cons_self
    simp only [costP, kraP] at h3 h4
    by_cases c : q.2 ≤ m
    · refine ⟨m, q :: Q', by simp [h1], fun x hx => ?_, ?_, ?_, fun K k1 k2 => h5 K k1 (fun x hx => k2 x (List.mem_cons_of_mem _ hx))⟩
      · rcases List.mem_cons.1 hx with rfl | hx
        · exact c
        · exact h2 x hx
      · simp only [costP]; omega
      · simp only [kraP]; omega
    · refine ⟨q.2, (q.1, m) :: Q', by simp [h1], fun x hx => ?_, ?_, ?_, fun K k1 k2 => k2 q List.mem_cons_self⟩
      · rcases List.mem_cons.1 hx with rfl | hx
        · show m ≤ q.2; omega
        · have := h2 x hx; omega
      · have := swap_less hq (show m ≤ q.2 by omega)
        simp only [costP]; omega
      · simp only [kraP]; omega
/-- The pair of a weight is drawn to the head. -/
theorem draw {P : List (Int × Nat)} {a : Int} {l : List Int} (h : (P.map Prod.fst).Perm (a :: l)) : ∃ la Q, P.Perm ((a, la) :: Q) ∧ (Q.map Prod.fst).Perm l := by
  have hm : a ∈ P.map Prod.fst := h.symm.subset List.mem_cons_self
  obtain ⟨q, hq, e⟩ := List.mem_map.1 hm
  obtain ⟨x, y⟩ := q
  have e' : x = a := e
  subst e'
  have hp := List.perm_cons_erase hq
  refine ⟨y, P.erase (x, y), hp, ?_⟩
  have h2 := (hp.map Prod.fst).symm.trans h
  exact List.Perm.cons_inv h2
theorem kraP_dvd (M m : Nat) : ∀ Q : List (Int × Nat), (∀ q ∈ Q, q.2 ≤ m) → 2 ^ (M - m) ∣ kraP M Q
  | [], _ => Nat.dvd_zero _
  | q :: Q, h => by
    rw [kraP]
    exact Nat.dvd_add (Nat.pow_dvd_pow 2 (by have := h q List.mem_cons_self; omega)) (kraP_dvd M m Q (fun x hx => h x (List.mem_cons_of_mem _ hx)))
/-- The two least weights of a code are put together: it costs less by as much as both weigh. -/
theorem merge (M : Nat) {P : List (Int × Nat)} {a b : Int} {l : List Int} (h : (P.map Prod.fst).Perm (a :: b :: l)) (h0 : 0 ≤ a) (hab : a ≤ b) (hb : ∀ x ∈ l, b ≤ x) (hk : kraP M P ≤ 2 ^ M) (hM : ∀ q ∈ P, q.2 ≤ M) :
    ∃ P', (P'.map Prod.fst).Perm ((a + b) :: l) ∧ kraP M P' ≤ 2 ^ M ∧ (∀ q ∈ P', q.2 ≤ M) ∧ costP P' + a + b ≤ costP P := by
  obtain ⟨la, Q, p1, f1⟩ := draw h
  have hQ : ∀ q ∈ Q, a ≤ q.1 := fun q hq => by
    have := f1.subset (List.mem_map.2 ⟨q, hq, rfl⟩)
    rcases List.mem_cons.1 this with e | e
    · omega
    · have := hb _ e; omega
  obtain ⟨m, Q', g1, g2, g3, g4, g5⟩ := pull M a la Q hQ
  have hm : m ≤ M := g5 M (hM _ (p1.symm.subset List.mem_cons_self)) (fun q hq => hM q (p1.symm.subset (List.mem_cons_of_mem _ hq)))
  rw [← g1] at f1
  obtain ⟨lb, R, p2, f2⟩ := draw f1
  have hR : ∀ q ∈ R, b ≤ q.1 := fun q hq => hb _ (f2.subset (List.mem_map.2 ⟨q, hq, rfl⟩))
  obtain ⟨m2, R', e1, e2, e3, e4, e5⟩ := pull M b lb R hR
  have hm2 : m2 ≤ m := e5 m (g2 _ (p2.symm.subset List.mem_cons_self)) (fun q hq => g2 q (p2.symm.subset (List.mem_cons_of_mem _ hq)))
  have c1 := costP_perm p1
  have c2 := costP_perm p2
  have k1 := kraP_perm M p1
  have k2 := kraP_perm M p2
  have hdv : 2 ^ (M - m2) ∣ kraP M R' := kraP_dvd M m2 R' e2
  simp only [costP, kraP] at g3 g4 e3 e4 c1 c2 k1 k2
  have hpos : 0 < 2 ^ (M - m) := Nat.two_pow_pos _
  have hle : 2 ^ (M - m2) + 2 ^ (M - m2) + kraP M R' ≤ 2 ^ M := by
    by_cases e : m2 = m
    · subst e; omega
    · have hd1 : 2 ^ (M - m2) ∣ 2 ^ M := Nat.pow_dvd_pow 2 (by omega)
      have hp2 : 0 < 2 ^ (M - m2) := Nat.two_pow_pos _
      obtain ⟨u, hu⟩ := hdv
      obtain ⟨v, hv⟩ := hd1
      have hlt : 2 ^ (M - m2) * (1 + u) < 2 ^ (M - m2) * v := by rw [Nat.mul_add, Nat.mul_one, ← hu, ← hv]; omega
      have huv : 1 + u < v := Nat.lt_of_mul_lt_mul_left hlt
      have : 2 ^ (M - m2) * (2 + u) ≤ 2 ^ (M - m2) * v := Nat.mul_le_mul_left _ (by omega)
      rw [Nat.mul_add, ← hu, ← hv] at this
      omega
  have hm1 : 1 ≤ m2 := by
    by_cases e : m2 = 0
    · subst e
      have : 0 < 2 ^ M := Nat.two_pow_pos _
      rw [Nat.sub_zero] at hle
      omega
    · omega
  refine ⟨(a + b, m2 - 1) :: R', ?_, ?_, ?_, ?_⟩
  · rw [List.map_cons, e1]; exact f2.cons _
  · simp only [kraP]
    rw [show M - (m2 - 1) = (M - m2) + 1 from by omega, Nat.pow_succ]
    omega
  · intro q hq
    rcases List.mem_cons.1 hq with rfl | hq
    · show m2 - 1 ≤ M; omega
    · have := e2 q hq; omega
  · simp only [costP]
    have hc : ((m2 - 1 : Nat) : Int) = (m2 : Int) - 1 := by omega
    rw [hc, Int.add_mul, Int.mul_sub, Int.mul_sub]
    have h1 : a * (m2 : Int) ≤ a * (m : Int) := Int.mul_le_mul_of_nonneg_left (by omega) h0
    omega
end Hf
end Go.Proofs.Ytgecoiakhmnilab
/-
  Plain facts on lengths, how many there are of each, and the codes of lengths.
-/
namespace Go.Proofs.Ytgecoiakhmnilab
namespace Hf

/-- How many codes have that length. -/
def cnt (zs : List Int) (l : Nat) : Nat := if l = 0 then 0 else zs.countP (fun z => z == (l : Int))
def tal (zs : List Int) : List Nat := (List.range 16).map (cnt zs)

theorem cnt_zero (zs : List Int) : cnt zs 0 = 0 := by simp [cnt]
theorem cnt_le (zs : List Int) (l : Nat) : cnt zs l ≤ zs.length := by
  unfold cnt; split
  · omega
  · exact List.countP_le_length
theorem tal_length (zs : List Int) : (tal zs).length = 16 := by simp [tal]
theorem tal_getD (zs : List Int) (l : Nat) (h : l < 16) : (tal zs).getD l 0 = cnt zs l := by
  simp [tal, List.getD, h]
theorem cnt_snoc (zs : List Int) (z : Int) (l : Nat) : cnt (zs ++ [z]) l = cnt zs l + (if l ≠ 0 ∧ z = (l : Int) then 1 else 0) := by
  unfold cnt
  by_cases h : l = 0
  · simp [h]
  · simp only [h, if_false, List.countP_append, List.countP_singleton, ne_eq, not_false_eq_true, true_and]
    by_cases h2 : z = (l : Int)
    · simp [h2]
    · simp [h2]
theorem tal_nil : tal [] = List.replicate 16 0 := by decide
theorem list_ext_getD {l m : List Nat} (h : l.length = m.length) (he : ∀ i, i < l.length → l.getD i 0 = m.getD i 0) : l = m := by
  refine List.ext_getElem h (fun i h1 h2 => ?_)
  have := he i h1
  simpa [List.getD, List.getElem?_eq_getElem h1, List.getElem?_eq_getElem h2] using this
theorem getD_set (l : List Nat) (i j v : Nat) (h : i < l.length) : (l.set i v).getD j 0 = if j = i then v else l.getD j 0 := by
  simp only [List.getD, List.getElem?_set]
  by_cases e : i = j
  · subst e; simp [h]
  · rw [if_neg e, if_neg (fun x => e x.symm)]
theorem tal_snoc (zs : List Int) (l : Nat) (h0 : 0 < l) (h : l < 16) : tal (zs ++ [(l : Int)]) = (tal zs).set l (cnt zs l + 1) := by
  refine list_ext_getD (by simp [tal_length]) (fun i hi => ?_)
  rw [tal_length] at hi
  rw [tal_getD _ _ hi, getD_set _ _ _ _ (by rw [tal_length]; exact h), tal_getD _ _ hi, cnt_snoc]
  by_cases e : i = l
  · subst e; simp; omega
  · rw [if_neg e, if_neg (by omega)]; rfl
theorem tal_snoc0 (zs : List Int) (z : Int) (h : z ≤ 0) : tal (zs ++ [z]) = tal zs := by
  refine list_ext_getD (by simp [tal_length]) (fun i hi => ?_)
  rw [tal_length] at hi
  rw [tal_getD _ _ hi, tal_getD _ _ hi, cnt_snoc, if_neg (by omega)]; rfl

/-- The sum of 2^(15 - l) over the first k lengths. -/
def wsum (zs : List Int) : Nat → Nat
  | 0 => 0
  | k + 1 => wsum zs k + cnt zs k * 2 ^ (15 - k)
theorem wsum_le (zs : List Int) (k : Nat) : wsum zs k ≤ k * (zs.length * 32768) := by
  induction k with
  | zero => simp [wsum]
  | succ k ih =>
    have h1 := cnt_le zs k
    have h2 : 2 ^ (15 - k) ≤ 2 ^ 15 := Nat.pow_le_pow_right (by decide) (by omega)
    have h3 : cnt zs k * 2 ^ (15 - k) ≤ zs.length * 32768 := Nat.mul_le_mul h1 (by simpa using h2)
    rw [wsum, Nat.add_mul]; omega

def z16 : List Nat := List.replicate 16 0
theorem z16_getD (i : Nat) : z16.getD i 0 = 0 := by
  by_cases h : i < 16
  · have : ∀ i, i < 16 → z16.getD i 0 = 0 := by decide
    exact this i h
  · have : z16[i]? = none := List.getElem?_eq_none (by simp [z16]; omega)
    simp [List.getD, this]
def one16 : List Nat := 0 :: 1 :: List.replicate 14 0

/-- Lengths from 0 to 15, at most 512. -/
def lenOk (zs : List Int) : Bool := decide (zs.length ≤ 512) && zs.all (fun z => decide (0 ≤ z) && decide (z ≤ 15))
def okT (zs : List Int) : Bool := wsum zs 16 == 32768 || tal zs == z16 || tal zs == one16
def checkB (zs : List Int) : Bool := lenOk zs && okT zs
def checkF (zs : List Int) : Int := if checkB zs then 0 else 51

/-- The code of the first symbol of each length. -/
def first (zs : List Int) : Nat → Nat
  | 0 => 0
  | k + 1 => (first zs k + cnt zs k) * 2
theorem first_le (zs : List Int) (k : Nat) : first zs k + 2 * zs.length ≤ zs.length * 2 ^ (k + 1) := by
  induction k with
  | zero => simp [first]; omega
  | succ k ih =>
    have h1 := cnt_le zs k
    rw [first, Nat.pow_succ 2 (k + 1), ← Nat.mul_assoc]
    omega
theorem first_small (zs : List Int) (k : Nat) (hk : k < 16) (hl : zs.length ≤ 520) : first zs k + zs.length ≤ 34078720 := by
  have h := first_le zs k
  have h2 : 2 ^ (k + 1) ≤ 2 ^ 16 := Nat.pow_le_pow_right (by decide) (by omega)
  have h3 : zs.length * 2 ^ (k + 1) ≤ 520 * 65536 := Nat.mul_le_mul hl (by simpa using h2)
  omega

/-- The first codes of the lengths below k. -/
def fillF (zs : List Int) (k : Nat) : List Nat := (List.range 16).map (fun l => if l < k then first zs l else 0)
theorem fillF_length (zs : List Int) (k : Nat) : (fillF zs k).length = 16 := by simp [fillF]
theorem fillF_getD (zs : List Int) (k l : Nat) (h : l < 16) : (fillF zs k).getD l 0 = if l < k then first zs l else 0 := by
  simp [fillF, List.getD, h]
theorem fillF_one (zs : List Int) : fillF zs 1 = z16 := by
  refine list_ext_getD (by simp [fillF, z16]) (fun i hi => ?_)
  rw [fillF_length] at hi
  rw [fillF_getD _ _ _ hi]
  rw [z16_getD]
  by_cases h : i < 1
  · obtain rfl : i = 0 := by omega
    simp [first]
  · simp [h]
theorem fillF_set (zs : List Int) (k : Nat) (h0 : 0 < k) (h : k < 16) : (fillF zs k).set k ((first zs (k - 1) + cnt zs (k - 1)) * 2) = fillF zs (k + 1) := by
  have e : (first zs (k - 1) + cnt zs (k - 1)) * 2 = first zs k := by
    conv => rhs; rw [show k = (k - 1) + 1 from by omega, first]
  rw [e]
  refine list_ext_getD (by simp [fillF]) (fun i hi => ?_)
  rw [List.length_set, fillF_length] at hi
  rw [getD_set _ _ _ _ (by rw [fillF_length]; exact h), fillF_getD _ _ _ hi, fillF_getD _ _ _ hi]
  by_cases e : i = k
  · subst e; simp
  · rw [if_neg e]
    by_cases h2 : i < k
    · rw [if_pos h2, if_pos (by omega)]
    · rw [if_neg h2, if_neg (by omega)]

/-- The next codes of the lengths, behind k symbols. -/
def nextL (zs : List Int) (k : Nat) : List Nat := (List.range 16).map (fun l => first zs l + cnt (zs.take k) l)
theorem nextL_length (zs : List Int) (k : Nat) : (nextL zs k).length = 16 := by simp [nextL]
theorem nextL_getD (zs : List Int) (k l : Nat) (h : l < 16) : (nextL zs k).getD l 0 = first zs l + cnt (zs.take k) l := by
  simp [nextL, List.getD, h]
theorem nextL_zero (zs : List Int) : nextL zs 0 = fillF zs 16 := by
  refine list_ext_getD (by simp [fillF, nextL]) (fun i hi => ?_)
  rw [nextL_length] at hi
  rw [nextL_getD _ _ _ hi, fillF_getD _ _ _ hi, if_pos hi]
  simp [cnt]
theorem take_snoc (zs : List Int) (k : Nat) (hk : k < zs.length) : zs.take (k + 1) = zs.take k ++ [zs.getD k 0] := by
  rw [List.take_succ_eq_append_getElem hk]
  simp [List.getD, List.getElem?_eq_getElem hk]
theorem nextL_set (zs : List Int) (k l : Nat) (hk : k < zs.length) (hz : zs.getD k 0 = (l : Int)) (h0 : 0 < l) (h : l < 16) : (nextL zs k).set l (first zs l + cnt (zs.take k) l + 1) = nextL zs (k + 1) := by
  refine list_ext_getD (by simp [nextL]) (fun i hi => ?_)
  rw [List.length_set, nextL_length] at hi
  rw [getD_set _ _ _ _ (by rw [nextL_length]; exact h), nextL_getD _ _ _ hi, nextL_getD _ _ _ hi, take_snoc zs k hk, hz, cnt_snoc]
  by_cases e : i = l
  · subst e; rw [if_pos rfl, if_pos ⟨by omega, rfl⟩]; omega
  · rw [if_neg e, if_neg (by omega)]; rfl
theorem nextL_same (zs : List Int) (k : Nat) (hk : k < zs.length) (hz : zs.getD k 0 ≤ 0) : nextL zs (k + 1) = nextL zs k := by
  refine list_ext_getD (by simp [nextL]) (fun i hi => ?_)
  rw [nextL_length] at hi
  rw [nextL_getD _ _ _ hi, nextL_getD _ _ _ hi, take_snoc zs k hk, cnt_snoc, if_neg (by omega)]; rfl

/-- The code of a symbol, as a number of 16 bits. -/
def codeN (zs : List Int) (s : Nat) : Nat := first zs (zs.getD s 0).toNat + cnt (zs.take s) (zs.getD s 0).toNat
def codeF (zs : List Int) (s : Nat) : Int := if 0 < zs.getD s 0 then ((codeN zs s % 65536 : Nat) : Int) else 0
def codesL (zs : List Int) : List Int := (List.range zs.length).map (codeF zs)
theorem codesL_length (zs : List Int) : (codesL zs).length = zs.length := by simp [codesL]
theorem codesL_getD (zs : List Int) (s : Nat) (h : s < zs.length) : (codesL zs).getD s 0 = codeF zs s := by
  simp [codesL, List.getD, h]
theorem codeF_rng (zs : List Int) (s : Nat) : 0 ≤ codeF zs s ∧ codeF zs s ≤ 65535 := by
  unfold codeF; split
  · have := Nat.mod_lt (codeN zs s) (show 0 < 65536 by decide); omega
  · omega
theorem codesL_rng (zs : List Int) (j : Nat) : 0 ≤ (codesL zs).getD j 0 ∧ (codesL zs).getD j 0 ≤ 65535 := by
  by_cases h : j < zs.length
  · rw [codesL_getD zs j h]; exact codeF_rng zs j
  · have : (codesL zs)[j]? = none := List.getElem?_eq_none (by rw [codesL_length]; omega)
    simp [List.getD, this]

/-- The codes of the first k symbols. -/
def codesK (zs : List Int) (k : Nat) : List Int := (codesL zs).take k ++ List.replicate (zs.length - k) 0

/-- The document's sums over lengths. -/
def sumR (zs : List Int) : Nat := (zs.map (fun z => if 0 < z then 2 ^ (15 - z.toNat) else 0)).sum
def someR (zs : List Int) : Nat := zs.countP (fun z => decide (0 < z))
def oneR (zs : List Int) : Nat := zs.countP (fun z => z == 1)
theorem sumR_snoc (zs : List Int) (z : Int) : sumR (zs ++ [z]) = sumR zs + (if 0 < z then 2 ^ (15 - z.toNat) else 0) := by
  simp [sumR]
theorem someR_snoc (zs : List Int) (z : Int) : someR (zs ++ [z]) = someR zs + (if 0 < z then 1 else 0) := by
  simp [someR, List.countP_append, List.countP_singleton]
theorem oneR_snoc (zs : List Int) (z : Int) : oneR (zs ++ [z]) = oneR zs + (if z = 1 then 1 else 0) := by
  simp [oneR, List.countP_append, List.countP_singleton]
theorem sumR_le (zs : List Int) : sumR zs ≤ zs.length * 32768 := by
  induction zs with
  | nil => simp [sumR]
  | cons z l ih =>
    have h2 : 2 ^ (15 - z.toNat) ≤ 2 ^ 15 := Nat.pow_le_pow_right (by decide) (by omega)
    have h2' : 2 ^ (15 - z.toNat) ≤ 32768 := by simpa using h2
    simp only [sumR, List.map_cons, List.sum_cons, List.length_cons, Nat.add_mul] at ih ⊢
    split <;> omega

theorem wsum_snoc (zs : List Int) (z : Int) (k : Nat) : wsum (zs ++ [z]) k = wsum zs k + (if 0 < z ∧ z.toNat < k then 2 ^ (15 - z.toNat) else 0) := by
  induction k with
  | zero => simp [wsum]
  | succ k ih =>
    rw [wsum, wsum, ih, cnt_snoc]
    by_cases h : k ≠ 0 ∧ z = (k : Int)
    · have h3 : 0 < z ∧ z.toNat < k + 1 := by omega
      have h4 : ¬ (0 < z ∧ z.toNat < k) := by omega
      have h5 : z.toNat = k := by omega
      rw [if_pos h, if_neg h4, if_pos h3, h5, Nat.add_mul]; omega
    · rw [if_neg h]
      by_cases h2 : 0 < z ∧ z.toNat < k
      · rw [if_pos h2, if_pos ⟨h2.1, by omega⟩, Nat.add_zero]; omega
      · rw [if_neg h2, if_neg (by omega)]; rfl
theorem wsum_nil (k : Nat) : wsum [] k = 0 := by
  induction k with
  | zero => rfl
  | succ k ih => rw [wsum, ih]; simp [cnt]

/-- Lengths that end with z. -/
theorem snoc_ind {p : List Int → Prop} (h0 : p []) (h1 : ∀ l z, p l → p (l ++ [z])) (zs : List Int) : p zs := by
  have h : ∀ n, p (zs.take n) := by
    intro n
    induction n with
    | zero => simpa using h0
    | succ n ih =>
      by_cases hn : n < zs.length
      · rw [take_snoc zs n hn]; exact h1 _ _ ih
      · rw [List.take_of_length_le (by omega)]; rw [List.take_of_length_le (by omega)] at ih; exact ih
  simpa using h zs.length

theorem wsum_sumR (zs : List Int) (h : ∀ z ∈ zs, 0 ≤ z ∧ z ≤ 15) : wsum zs 16 = sumR zs := by
  revert h
  refine snoc_ind (p := fun zs => (∀ z ∈ zs, 0 ≤ z ∧ z ≤ 15) → wsum zs 16 = sumR zs) (fun _ => by rw [wsum_nil]; rfl) (fun l z ih h => ?_) zs
  have hz := h z (by simp)
  rw [wsum_snoc, sumR_snoc, ih (fun y hy => h y (by simp [hy]))]
  by_cases h0 : 0 < z
  · rw [if_pos ⟨h0, by omega⟩, if_pos h0]
  · rw [if_neg (by omega), if_neg h0]

theorem cnt_some (zs : List Int) (l : Nat) : cnt zs l ≤ someR zs := by
  unfold cnt someR
  split
  · omega
  · refine List.countP_mono_left (fun z _ hz => ?_)
    have : z = (l : Int) := by simpa using hz
    simp; omega
theorem tal_zero_iff (zs : List Int) (h : ∀ z ∈ zs, 0 ≤ z ∧ z ≤ 15) : (tal zs == z16) = (someR zs == 0) := by
  rw [Bool.eq_iff_iff, beq_iff_eq, beq_iff_eq]
  constructor
  · intro e
    unfold someR
    rw [List.countP_eq_zero]
    intro z hz hpos
    have hpos' : 0 < z := by simpa using hpos
    have hr := h z hz
    have hc : cnt zs z.toNat = 0 := by
      rw [← tal_getD zs z.toNat (by omega), e, z16_getD]
    unfold cnt at hc
    rw [if_neg (by omega), List.countP_eq_zero] at hc
    exact hc z hz (by simp; omega)
  · intro e
    refine list_ext_getD (by simp [tal_length, z16]) (fun i hi => ?_)
    rw [tal_length] at hi
    rw [tal_getD zs i hi]
    have := cnt_some zs i
    rw [z16_getD]; omega
theorem one_split (zs : List Int) (h : ∀ z ∈ zs, 0 ≤ z ∧ z ≤ 15) : (tal zs == one16) = (someR zs == 1 && oneR zs == 1) := by
  have hone : cnt zs 1 = oneR zs := by unfold cnt oneR; simp
  have hsp : someR zs = oneR zs + zs.countP (fun z => decide (1 < z)) := by
    unfold someR oneR
    clear hone h
    induction zs with
    | nil => rfl
    | cons z l ih =>
      rw [List.countP_cons, List.countP_cons, List.countP_cons, ih]
      by_cases h1 : 1 < z
      · simp [h1, show 0 < z from by omega, show ¬ z = 1 from by omega]; omega
      · by_cases h2 : z = 1
        · subst h2; simp; omega
        · simp [h1, h2, show ¬ 0 < z from by omega]
  rw [Bool.eq_iff_iff, beq_iff_eq, Bool.and_eq_true, beq_iff_eq, beq_iff_eq]
  constructor
  · intro e
    have h1 : oneR zs = 1 := by rw [← hone, ← tal_getD zs 1 (by decide), e]; rfl
    have h2 : zs.countP (fun z => decide (1 < z)) = 0 := by
      rw [List.countP_eq_zero]
      intro z hz hpos
      have hpos' : 1 < z := by simpa using hpos
      have hr := h z hz
      have hc : cnt zs z.toNat = 0 := by
        rw [← tal_getD zs z.toNat (by omega), e]
        have : ∀ i, i < 16 → 1 < i → one16.getD i 0 = 0 := by decide
        exact this _ (by omega) (by omega)
      unfold cnt at hc
      rw [if_neg (by omega), List.countP_eq_zero] at hc
      exact hc z hz (by simp; omega)
    omega
  · rintro ⟨h1, h2⟩
    have h3 : zs.countP (fun z => decide (1 < z)) = 0 := by omega
    refine list_ext_getD (by simp [tal_length, one16]) (fun i hi => ?_)
    rw [tal_length] at hi
    rw [tal_getD zs i hi]
    by_cases e0 : i = 0
    · subst e0; rw [cnt_zero]; rfl
    · by_cases e1 : i = 1
      · subst e1; rw [hone, h2]; rfl
      · have : ∀ i, i < 16 → 1 < i → one16.getD i 0 = 0 := by decide
        rw [this i hi (by omega)]
        unfold cnt
        rw [if_neg e0, List.countP_eq_zero]
        intro z hz hzi
        rw [List.countP_eq_zero] at h3
        have : z = (i : Int) := by simpa using hzi
        exact h3 z hz (by simp; omega)

theorem lenOk_all {zs : List Int} (h : lenOk zs = true) : zs.length ≤ 512 ∧ ∀ z ∈ zs, 0 ≤ z ∧ z ≤ 15 := by
  unfold lenOk at h
  rw [Bool.and_eq_true, decide_eq_true_eq, List.all_eq_true] at h
  exact ⟨h.1, fun z hz => by simpa using h.2 z hz⟩
/-- The document's test. -/
def okR (zs : List Int) : Bool := (someR zs == 0 || (someR zs == 1 && oneR zs == 1)) || sumR zs == 32768
theorem okR_okT {zs : List Int} (h : lenOk zs = true) : okR zs = okT zs := by
  have ha := (lenOk_all h).2
  unfold okR okT
  rw [wsum_sumR zs ha, tal_zero_iff zs ha, one_split zs ha]
  cases (sumR zs == 32768) <;> cases (someR zs == 0) <;> cases (someR zs == 1 && oneR zs == 1) <;> rfl
end Hf
end Go.Proofs.Ytgecoiakhmnilab
/-
  Plain facts on rows that are sorted by how often their numbers come, of alike ones the lesser one first.
-/
namespace Go.Proofs.Ytgecoiakhmnilab
namespace Hf

/-- The order by counts cs, of alike ones by number. -/
def key (cs : List Int) (u : Int) : Int := cs.getD u.toNat 0
def Lx (cs : List Int) (u v : Int) : Prop := key cs u < key cs v ∨ (key cs u = key cs v ∧ u < v)
theorem Lx.trans {cs : List Int} {u v x : Int} (h1 : Lx cs u v) (h2 : Lx cs v x) : Lx cs u x := by
  unfold Lx at *; omega
theorem Lx.irrefl {cs : List Int} {u : Int} (h : Lx cs u u) : False := by
  unfold Lx at h; omega
theorem Lx.asymm {cs : List Int} {u v : Int} (h1 : Lx cs u v) (h2 : Lx cs v u) : False := (h1.trans h2).irrefl

/-- Two numbers of a row change places. -/
def swapL (X : List Int) (i j : Nat) : List Int := (X.set i (X.getD j 0)).set j (X.getD i 0)
theorem swapL_length (X : List Int) (i j : Nat) : (swapL X i j).length = X.length := by simp [swapL]
theorem sgetD_set (l : List Int) (i j : Nat) (v : Int) (h : i < l.length) : (l.set i v).getD j 0 = if j = i then v else l.getD j 0 := by
  simp only [List.getD, List.getElem?_set]
  by_cases e : i = j
  · subst e; simp [h]
  · rw [if_neg e, if_neg (fun x => e x.symm)]
theorem swapL_getD (X : List Int) (i j k : Nat) (hi : i < X.length) (hj : j < X.length) : (swapL X i j).getD k 0 = if k = j then X.getD i 0 else if k = i then X.getD j 0 else X.getD k 0 := by
  unfold swapL
  rw [sgetD_set _ _ _ _ (by simpa using hj), sgetD_set _ _ _ _ hi]
theorem swapL_perm (X : List Int) (i j : Nat) (hi : i < X.length) (hj : j < X.length) : (swapL X i j).Perm X := by
  rw [List.perm_iff_count]
  intro v
  have ei : X.getD i 0 = X[i] := by simp [List.getD, List.getElem?_eq_getElem hi]
  have ej : X.getD j 0 = X[j] := by simp [List.getD, List.getElem?_eq_getElem hj]
  unfold swapL
  rw [ei, ej]
  have hj' : j < (X.set i X[j]).length := by simpa using hj
  rw [List.count_set hj', List.count_set hi, List.getElem_set]
  have c1 : X[i] == v → 0 < X.count v := fun h => by
    rw [List.count_pos_iff]
    have : X[i] = v := by simpa using h
    rw [← this]; exact List.getElem_mem hi
  by_cases e : i = j
  · subst e
    simp only [if_true]
    by_cases h : X[i] == v
    · have := c1 h; simp only [h, if_true]; omega
    · simp only [h]; simp
  · simp only [e, if_false]
    by_cases h1 : X[i] == v <;> by_cases h2 : X[j] == v
    · have := c1 h1; simp only [h1, h2, if_true]; omega
    · have := c1 h1; simp only [h1, h2, if_true]; simp; omega
    · simp only [h1, h2, if_true]; simp
    · simp only [h1, h2]; simp

/-- What a part of a row from a to b is, behind the sorting of it. -/
structure Sorted (cs : List Int) (a b : Nat) (o X : List Int) : Prop where
  perm : X.Perm o
  out : ∀ p, p < a ∨ b ≤ p → X.getD p 0 = o.getD p 0
  ord : ∀ p q, a ≤ p → p < q → q < b → Lx cs (X.getD p 0) (X.getD q 0)

/-- Behind the first i numbers of the part. -/
structure InsO (cs : List Int) (a b i : Nat) (o X : List Int) : Prop where
  perm : X.Perm o
  out : ∀ p, p < a ∨ i ≤ p → X.getD p 0 = o.getD p 0
  ord : ∀ p q, a ≤ p → p < q → q < i → Lx cs (X.getD p 0) (X.getD q 0)
  less : ∀ p q, a ≤ p → p < i → i ≤ q → q < b → X.getD p 0 < o.getD q 0
/-- While the number at i is on its way, and stands at j. -/
structure InsJ (cs : List Int) (a b i j : Nat) (o X : List Int) : Prop where
  perm : X.Perm o
  out : ∀ p, p < a ∨ i < p → X.getD p 0 = o.getD p 0
  at' : X.getD j 0 = o.getD i 0
  ord : ∀ p q, a ≤ p → p < q → q ≤ i → p ≠ j → q ≠ j → Lx cs (X.getD p 0) (X.getD q 0)
  right : ∀ q, j < q → q ≤ i → key cs (X.getD j 0) < key cs (X.getD q 0)
  lessx : ∀ p, a ≤ p → p ≤ i → p ≠ j → X.getD p 0 < o.getD i 0
  less : ∀ p q, a ≤ p → p ≤ i → i < q → q < b → X.getD p 0 < o.getD q 0

theorem InsO.start (cs : List Int) (a b : Nat) (o : List Int) (hinc : ∀ p q, a ≤ p → p < q → q < b → o.getD p 0 < o.getD q 0) : InsO cs a b (a + 1) o o :=
  ⟨List.Perm.refl _, fun _ _ => rfl, fun p q h1 h2 h3 => by omega, fun p q h1 h2 h3 h4 => by
    have : p = a := by omega
    subst this
    exact hinc p q (Nat.le_refl _) (by omega) h4⟩
theorem InsO.none (cs : List Int) (a b : Nat) (o : List Int) : InsO cs a b a o o :=
  ⟨List.Perm.refl _, fun _ _ => rfl, fun p q h1 h2 h3 => by omega, fun p q h1 h2 h3 h4 => by omega⟩
theorem InsO.begin {cs : List Int} {a b i : Nat} {o X : List Int} (h : InsO cs a b i o X) (hai : a ≤ i) (hib : i < b) (hinc : ∀ p q, a ≤ p → p < q → q < b → o.getD p 0 < o.getD q 0) : InsJ cs a b i i o X := by
  refine ⟨h.perm, fun p hp => h.out p (by omega), h.out i (by omega), fun p q h1 h2 h3 h4 h5 => h.ord p q h1 h2 (by omega), fun q h1 h2 => by omega, fun p h1 h2 h3 => h.less p i h1 (by omega) (Nat.le_refl _) hib, fun p q h1 h2 h3 h4 => ?_⟩
  by_cases e : p = i
  · subst e; rw [h.out p (by omega)]; exact hinc p q hai h3 h4
  · exact h.less p q h1 (by omega) (by omega) h4
theorem InsJ.swap {cs : List Int} {a b i j : Nat} {o X : List Int} (h : InsJ cs a b i (j + 1) o X) (haj : a ≤ j) (hji : j + 1 ≤ i) (hlen : i < X.length) (hk : key cs (X.getD (j + 1) 0) < key cs (X.getD j 0)) : InsJ cs a b i j o (swapL X (j + 1) j) := by
  have hg := fun k => swapL_getD X (j + 1) j k (by omega) (by omega)
  refine ⟨(swapL_perm X _ _ (by omega) (by omega)).trans h.perm, fun p hp => ?_, ?_, fun p q h1 h2 h3 h4 h5 => ?_, fun q h1 h2 => ?_, fun p h1 h2 h3 => ?_, fun p q h1 h2 h3 h4 => ?_⟩
  · rw [hg, if_neg (by omega), if_neg (by omega)]; exact h.out p hp
  · rw [hg, if_pos rfl]; exact h.at'
  · rw [hg, hg, if_neg h4, if_neg h5]
    by_cases e1 : p = j + 1
    · rw [if_pos e1, if_neg (by omega)]; exact h.ord j q haj (by omega) h3 (by omega) (by omega)
    · rw [if_neg e1]
      by_cases e2 : q = j + 1
      · rw [if_pos e2]; exact h.ord p j h1 (by omega) (by omega) e1 (by omega)
      · rw [if_neg e2]; exact h.ord p q h1 h2 h3 e1 e2
  · rw [hg, hg, if_pos rfl, if_neg (by omega)]
    by_cases e : q = j + 1
    · rw [if_pos e]; exact hk
    · rw [if_neg e]; exact h.right q (by omega) h2
  · rw [hg, if_neg h3]
    by_cases e : p = j + 1
    · rw [if_pos e]; exact h.lessx j haj (by omega) (by omega)
    · rw [if_neg e]; exact h.lessx p h1 h2 e
  · rw [hg]
    by_cases e1 : p = j
    · rw [if_pos e1]; exact h.less (j + 1) q (by omega) hji h3 h4
    · rw [if_neg e1]
      by_cases e2 : p = j + 1
      · rw [if_pos e2]; exact h.less j q haj (by omega) h3 h4
      · rw [if_neg e2]; exact h.less p q h1 h2 h3 h4
theorem InsJ.done {cs : List Int} {a b i j : Nat} {o X : List Int} (h : InsJ cs a b i j o X) (haj : a ≤ j) (hji : j ≤ i) (hs : j = a ∨ ¬ key cs (X.getD j 0) < key cs (X.getD (j - 1) 0)) : InsO cs a b (i + 1) o X := by
  refine ⟨h.perm, fun p hp => h.out p (by omega), fun p q h1 h2 h3 => ?_, fun p q h1 h2 h3 h4 => h.less p q h1 (by omega) (by omega) h4⟩
  by_cases e1 : p = j
  · subst e1; exact Or.inl (h.right q h2 (by omega))
  · by_cases e2 : q = j
    · subst e2
      have hx := h.lessx p h1 (by omega) e1
      rw [← h.at'] at hx
      rcases hs with hs | hs
      · omega
      · have hle : key cs (X.getD p 0) ≤ key cs (X.getD (q - 1) 0) := by
          by_cases e3 : p = q - 1
          · rw [e3]; omega
          · have := h.ord p (q - 1) h1 (by omega) (by omega) e1 (by omega)
            unfold Lx at this; omega
        unfold Lx; omega
    · exact h.ord p q h1 h2 (by omega) e1 e2
theorem InsO.sorted {cs : List Int} {a b : Nat} {o X : List Int} (h : InsO cs a b b o X) : Sorted cs a b o X := ⟨h.perm, h.out, h.ord⟩

/-- Rows in order that have the same numbers are the same. -/
theorem sorted_eq {cs : List Int} : ∀ {l m : List Int}, l.Perm m → l.Pairwise (Lx cs) → m.Pairwise (Lx cs) → l = m
  | [], m, hp, _, _ => by
    have := hp.length_eq
    cases m with
    | nil => rfl
    | cons _ _ => simp at this
  | x :: l, [], hp, _, _ => by have := hp.length_eq; simp at this
  | x :: l, y :: m, hp, h1, h2 => by
    rw [List.pairwise_cons] at h1 h2
    have e : x = y := by
      have hx : x ∈ y :: m := hp.subset (by simp)
      have hy : y ∈ x :: l := hp.symm.subset (by simp)
      rw [List.mem_cons] at hx hy
      rcases hx with hx | hx
      · exact hx
      · rcases hy with hy | hy
        · exact hy.symm
        · exact ((h1.1 y hy).asymm (h2.1 x hx)).elim
    subst e
    rw [sorted_eq (List.Perm.cons_inv hp) h1.2 h2.2]
theorem pairwise_of {cs : List Int} (X : List Int) (h : ∀ p q, p < q → q < X.length → Lx cs (X.getD p 0) (X.getD q 0)) : X.Pairwise (Lx cs) := by
  rw [List.pairwise_iff_getElem]
  intro i j hi hj hij
  have := h i j hij hj
  simpa [List.getD, List.getElem?_eq_getElem hi, List.getElem?_eq_getElem hj] using this

/-- The numbers below k that come. -/
def nz (cs : List Int) : Nat → List Int
  | 0 => []
  | k + 1 => if 0 < cs.getD k 0 then nz cs k ++ [(k : Int)] else nz cs k
theorem nz_mem (cs : List Int) (k : Nat) : ∀ u ∈ nz cs k, 0 ≤ u ∧ u < (k : Int) ∧ 0 < cs.getD u.toNat 0 := by
  induction k with
  | zero => intro u hu; simp [nz] at hu
  | succ k ih =>
    intro u hu
    rw [nz] at hu
    split at hu
    · rw [List.mem_append, List.mem_singleton] at hu
      rcases hu with hu | hu
      · have := ih u hu; omega
      · subst hu; rw [Int.toNat_natCast]; omega
    · have := ih u hu; omega
theorem nz_len (cs : List Int) (k : Nat) : (nz cs k).length ≤ k := by
  induction k with
  | zero => simp [nz]
  | succ k ih =>
    rw [nz]; split
    · rw [List.length_append]; simp; omega
    · omega
theorem nz_inc (cs : List Int) (k : Nat) : (nz cs k).Pairwise (· < ·) := by
  induction k with
  | zero => exact List.Pairwise.nil
  | succ k ih =>
    rw [nz]; split
    · rw [List.pairwise_append]
      refine ⟨ih, List.pairwise_singleton _ _, fun u hu v hv => ?_⟩
      rw [List.mem_singleton] at hv
      have := nz_mem cs k u hu
      omega
    · exact ih
theorem getD_inc {l : List Int} (h : l.Pairwise (· < ·)) : ∀ p q, p < q → q < l.length → l.getD p 0 < l.getD q 0 := by
  intro p q hpq hq
  rw [List.pairwise_iff_getElem] at h
  have := h p q (by omega) hq hpq
  simpa [List.getD, List.getElem?_eq_getElem hq, List.getElem?_eq_getElem (show p < l.length from by omega)] using this

instance (cs : List Int) (u v : Int) : Decidable (Lx cs u v) := by unfold Lx; infer_instance
def insL (cs : List Int) (u : Int) : List Int → List Int
  | [] => [u]
  | v :: l => if Lx cs u v then u :: v :: l else v :: insL cs u l
def srtL (cs : List Int) : List Int → List Int
  | [] => []
  | u :: l => insL cs u (srtL cs l)
/-- The numbers that come, by how often, of alike ones by number. -/
def srt (cs : List Int) : List Int := srtL cs (nz cs cs.length)
theorem insL_perm (cs : List Int) (u : Int) (l : List Int) : (insL cs u l).Perm (u :: l) := by
  induction l with
  | nil => exact List.Perm.refl _
  | cons v l ih =>
    rw [insL]; split
    · exact List.Perm.refl _
    · exact (List.Perm.cons v ih).trans (List.Perm.swap u v l)
theorem insL_ord (cs : List Int) (u : Int) (l : List Int) (h : l.Pairwise (Lx cs)) (hne : ∀ v ∈ l, u ≠ v) : (insL cs u l).Pairwise (Lx cs) := by
  induction l with
  | nil => exact List.pairwise_singleton _ _
  | cons v l ih =>
    rw [List.pairwise_cons] at h
    rw [insL]; split
    · rename_i hl
      refine List.pairwise_cons.2 ⟨fun x hx => ?_, List.pairwise_cons.2 h⟩
      rw [List.mem_cons] at hx
      rcases hx with hx | hx
      · subst hx; exact hl
      · exact hl.trans (h.1 x hx)
    · rename_i hl
      have hvu : Lx cs v u := by
        have := hne v (by simp)
        unfold Lx at hl ⊢; omega
      refine List.pairwise_cons.2 ⟨fun x hx => ?_, ih h.2 (fun w hw => hne w (by simp [hw]))⟩
      have hx' := (insL_perm cs u l).subset hx
      rw [List.mem_cons] at hx'
      rcases hx' with hx' | hx'
      · subst hx'; exact hvu
      · exact h.1 x hx'
theorem srtL_perm (cs : List Int) (l : List Int) : (srtL cs l).Perm l := by
  induction l with
  | nil => exact List.Perm.refl _
  | cons u l ih => rw [srtL]; exact (insL_perm cs u _).trans (List.Perm.cons u ih)
theorem srtL_ord (cs : List Int) (l : List Int) (h : l.Pairwise (· < ·)) : (srtL cs l).Pairwise (Lx cs) := by
  induction l with
  | nil => exact List.Pairwise.nil
  | cons u l ih =>
    rw [List.pairwise_cons] at h
    rw [srtL]
    refine insL_ord cs u _ (ih h.2) (fun v hv => ?_)
    have := h.1 v ((srtL_perm cs l).subset hv)
    omega
theorem srt_perm (cs : List Int) : (srt cs).Perm (nz cs cs.length) := srtL_perm cs _
theorem srt_ord (cs : List Int) : (srt cs).Pairwise (Lx cs) := srtL_ord cs _ (nz_inc cs _)
theorem srt_eq {cs X : List Int} (h : Sorted cs 0 (nz cs cs.length).length (nz cs cs.length) X) : X = srt cs :=
  sorted_eq (h.perm.trans (srt_perm cs).symm) (pairwise_of X (fun p q h1 h2 => h.ord p q (by omega) h1 (by rw [← h.perm.length_eq]; exact h2))) (srt_ord cs)
theorem srt_mem (cs : List Int) : ∀ u ∈ srt cs, 0 ≤ u ∧ u < (cs.length : Int) ∧ 0 < cs.getD u.toNat 0 := fun u hu => nz_mem cs _ u ((srt_perm cs).subset hu)
theorem srt_len (cs : List Int) : (srt cs).length = (nz cs cs.length).length := (srt_perm cs).length_eq
end Hf
end Go.Proofs.Ytgecoiakhmnilab
