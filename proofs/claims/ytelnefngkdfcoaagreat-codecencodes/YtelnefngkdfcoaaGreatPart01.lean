/-
  Plain facts on how codes are found in bits.
-/
import Derived.Test.YtelnefngkdfcoaaGreatPart00
namespace Go.Proofs.YtelnefngkdfcoaaGreat
namespace Hf

/-- The i-th bit of bytes. -/
def bitV (b : List Int) (i : Nat) : Nat := (b.getD (i / 8) 0).toNat / 2 ^ (7 - i % 8) % 2
theorem bitV_lt (b : List Int) (i : Nat) : bitV b i < 2 := Nat.mod_lt _ (by decide)
/-- The number of l bits from that place on. -/
def vb (b : List Int) (at' : Nat) : Nat → Nat
  | 0 => 0
  | l + 1 => vb b at' l * 2 + bitV b (at' + l)
theorem vb_lt (b : List Int) (at' l : Nat) : vb b at' l < 2 ^ l := by
  induction l with
  | zero => simp [vb]
  | succ l ih =>
    have := bitV_lt b (at' + l)
    rw [vb, Nat.pow_succ]; omega

/-- How many symbols have shorter codes. -/
def plc (zs : List Int) : Nat → Nat
  | 0 => 0
  | l + 1 => plc zs l + cnt zs l

/-- The search for a code from the length l on: its place in the order of codes, and its length. -/
def fndG (zs b : List Int) (at' : Nat) : Nat → Nat → Int × Int
  | 0, _ => (0, 0)
  | f + 1, l => if l < 16 ∧ at' + l ≤ 8 * b.length then (if vb b at' l < first zs l + cnt zs l then ((plc zs l : Int) + (vb b at' l : Int) - (first zs l : Int), (l : Int)) else fndG zs b at' f (l + 1)) else (0, 0)
def fnd (zs b : List Int) (at' : Nat) : Int × Int := fndG zs b at' 16 1

/-- The symbol of a length that has that code. -/
def who (zs : List Int) (l c : Nat) : Option Nat := (List.range zs.length).find? (fun s => zs.getD s 0 == (l : Int) && codeN zs s == c)
def oneG (zs b : List Int) (at' : Nat) : Nat → Nat → Int × Int
  | 0, _ => (-1, 0)
  | f + 1, l => if l < 16 ∧ at' + l ≤ 8 * b.length then (match who zs l (vb b at' l) with | some s => ((s : Int), (l : Int)) | none => oneG zs b at' f (l + 1)) else (-1, 0)
def oneF (zs b : List Int) (at' : Nat) : Int × Int := oneG zs b at' 16 1

theorem count_at (p : Int → Bool) (zs : List Int) : ∀ r, r < zs.countP p → ∃ s, s < zs.length ∧ p (zs.getD s 0) = true ∧ (zs.take s).countP p = r := by
  induction zs with
  | nil => intro r hr; simp at hr
  | cons z zs ih =>
    intro r hr
    rw [List.countP_cons] at hr
    by_cases hz : p z = true
    · cases r with
      | zero => exact ⟨0, by simp, by simpa using hz, by simp⟩
      | succ r =>
        rw [if_pos hz] at hr
        obtain ⟨s, h1, h2, h3⟩ := ih r (by omega)
        exact ⟨s + 1, by simpa using h1, by simpa using h2, by rw [List.take_succ_cons, List.countP_cons, if_pos hz, h3]⟩
    · rw [if_neg hz] at hr
      obtain ⟨s, h1, h2, h3⟩ := ih r (by omega)
      exact ⟨s + 1, by simpa using h1, by simpa using h2, by rw [List.take_succ_cons, List.countP_cons, if_neg hz, h3]; rfl⟩
theorem cnt_at (zs : List Int) (l r : Nat) (h0 : 0 < l) (hr : r < cnt zs l) : ∃ s, s < zs.length ∧ zs.getD s 0 = (l : Int) ∧ cnt (zs.take s) l = r := by
  unfold cnt at *
  rw [if_neg (by omega)] at hr
  obtain ⟨s, h1, h2, h3⟩ := count_at _ zs r hr
  exact ⟨s, h1, by simpa using h2, by rw [if_neg (by omega)]; exact h3⟩
theorem codeN_eq (zs : List Int) (s l : Nat) (h : zs.getD s 0 = (l : Int)) : codeN zs s = first zs l + cnt (zs.take s) l := by
  unfold codeN; rw [h, Int.toNat_natCast]
/-- Two symbols of a length have other codes. -/
theorem cnt_take_mono (zs : List Int) (l s t : Nat) (h0 : 0 < l) (hs : s < t) (ht : t ≤ zs.length) (hz : zs.getD s 0 = (l : Int)) : cnt (zs.take s) l < cnt (zs.take t) l := by
  have e : (zs.take t).take s = zs.take s := by rw [List.take_take, Nat.min_eq_left (by omega)]
  rw [← e]
  refine cnt_take_lt (zs.take t) s l (by rw [List.length_take]; omega) ?_ h0
  rw [← hz]
  simp [List.getD, List.getElem?_take_of_lt hs]
theorem code_inj (zs : List Int) (l s t : Nat) (h0 : 0 < l) (hs : s < zs.length) (ht : t < zs.length) (h1 : zs.getD s 0 = (l : Int)) (h2 : zs.getD t 0 = (l : Int)) (he : codeN zs s = codeN zs t) : s = t := by
  rw [codeN_eq zs s l h1, codeN_eq zs t l h2] at he
  rcases Nat.lt_trichotomy s t with h | h | h
  · have := cnt_take_mono zs l s t h0 h (by omega) h1; omega
  · exact h
  · have := cnt_take_mono zs l t s h0 h (by omega) h2; omega
theorem who_some {zs : List Int} {l c s : Nat} (h0 : 0 < l) (hs : s < zs.length) (hz : zs.getD s 0 = (l : Int)) (hc : codeN zs s = c) : who zs l c = some s := by
  unfold who
  cases hf : (List.range zs.length).find? (fun s => zs.getD s 0 == (l : Int) && codeN zs s == c) with
  | none =>
    rw [List.find?_eq_none] at hf
    exact absurd (by rw [hz, hc]; simp) (hf s (by simpa using hs))
  | some t =>
    have h1 := List.find?_some hf
    have h2 := List.mem_of_find?_eq_some hf
    rw [Bool.and_eq_true, beq_iff_eq, beq_iff_eq] at h1
    rw [code_inj zs l t s h0 (by simpa using h2) hs h1.1 hz (by rw [h1.2, hc])]
theorem who_none {zs : List Int} {l c : Nat} (h : ∀ s, s < zs.length → zs.getD s 0 = (l : Int) → codeN zs s ≠ c) : who zs l c = none := by
  unfold who
  rw [List.find?_eq_none]
  intro s hs hb
  rw [Bool.and_eq_true, beq_iff_eq, beq_iff_eq] at hb
  exact h s (by simpa using hs) hb.1 hb.2

/-- A row in which the symbols stand in the order of their codes. -/
def Ordd (zs O : List Int) : Prop := ∀ s, s < zs.length → 0 < zs.getD s 0 → O.getD (plc zs (zs.getD s 0).toNat + cnt (zs.take s) (zs.getD s 0).toNat) 0 = (s : Int)

/-- The two searches find the same. -/
theorem search_same (zs b O : List Int) (at' : Nat) (hO : Ordd zs O) : ∀ (f l : Nat), 0 < l → first zs l ≤ vb b at' l →
    (fndG zs b at' f l = (0, 0) ∧ oneG zs b at' f l = (-1, 0)) ∨
    (∃ l' s : Nat, 0 < l' ∧ l' < 16 ∧ at' + l' ≤ 8 * b.length ∧ s < zs.length ∧ zs.getD s 0 = (l' : Int) ∧ codeN zs s = vb b at' l' ∧ fndG zs b at' f l = (((plc zs l' + cnt (zs.take s) l' : Nat) : Int), (l' : Int)) ∧ oneG zs b at' f l = ((s : Int), (l' : Int)) ∧ O.getD (plc zs l' + cnt (zs.take s) l') 0 = (s : Int))
  | 0, _, _, _ => Or.inl ⟨rfl, rfl⟩
  | f + 1, l, h0, hle => by
    rw [fndG, oneG]
    by_cases hc : l < 16 ∧ at' + l ≤ 8 * b.length
    · rw [if_pos hc, if_pos hc]
      by_cases hv : vb b at' l < first zs l + cnt zs l
      · rw [if_pos hv]
        obtain ⟨s, h1, h2, h3⟩ := cnt_at zs l (vb b at' l - first zs l) h0 (by omega)
        have hcode : codeN zs s = vb b at' l := by rw [codeN_eq zs s l h2, h3]; omega
        rw [who_some h0 h1 h2 hcode]
        have ho := hO s h1 (by rw [h2]; omega)
        rw [h2, Int.toNat_natCast] at ho
        refine Or.inr ⟨l, s, h0, hc.1, hc.2, h1, h2, hcode, ?_, rfl, ho⟩
        rw [h3]
        congr 1
        omega
      · rw [if_neg hv]
        have hw : who zs l (vb b at' l) = none := who_none (fun s h1 h2 h3 => by
          rw [codeN_eq zs s l h2] at h3
          have := cnt_take_lt zs s l h1 h2 h0
          omega)
        rw [hw]
        exact search_same zs b O at' hO f (l + 1) (by omega) (by rw [first, vb]; omega)
    · rw [if_neg hc, if_neg hc]; exact Or.inl ⟨rfl, rfl⟩
theorem fnd_one (zs b O : List Int) (at' : Nat) (hO : Ordd zs O) :
    (fnd zs b at' = (0, 0) ∧ oneF zs b at' = (-1, 0)) ∨
    (∃ l' s : Nat, 0 < l' ∧ l' < 16 ∧ at' + l' ≤ 8 * b.length ∧ s < zs.length ∧ zs.getD s 0 = (l' : Int) ∧ codeN zs s = vb b at' l' ∧ fnd zs b at' = (((plc zs l' + cnt (zs.take s) l' : Nat) : Int), (l' : Int)) ∧ oneF zs b at' = ((s : Int), (l' : Int)) ∧ O.getD (plc zs l' + cnt (zs.take s) l') 0 = (s : Int)) :=
  search_same zs b O at' hO 16 1 (by omega) (by simp [first, cnt_zero])

/-- The symbols of bits, as many as are asked for (fuel: more than there are bits): they, the bits that they take, the error. -/
def decG (zs b : List Int) : Nat → Nat → Nat → List Int × Int × Int
  | 0, _, at' => ([], (at' : Int), 52)
  | _ + 1, 0, at' => ([], (at' : Int), 0)
  | f + 1, n + 1, at' => if (oneF zs b at').1 < 0 then ([], (at' : Int), 52) else
      (let r := decG zs b f n (at' + (oneF zs b at').2.toNat); (if r.2.2 = 0 then (oneF zs b at').1 :: r.1 else [], r.2.1, r.2.2))
theorem plc_le (zs : List Int) (l : Nat) : plc zs l ≤ l * zs.length := by
  induction l with
  | zero => simp [plc]
  | succ l ih => have := cnt_le zs l; rw [plc, Nat.add_mul]; omega
end Hf
end Go.Proofs.YtelnefngkdfcoaaGreat
/-
  Plain facts on the tree of a code, as codec grows it.
-/
namespace Go.Proofs.YtelnefngkdfcoaaGreat
namespace Hf

theorem first_up (zs : List Int) (l d : Nat) : (first zs l + cnt zs l) * 2 ^ (d + 1) ≤ first zs (l + d + 1) := by
  induction d with
  | zero => rw [first]; simp
  | succ d ih =>
    rw [Nat.pow_succ, ← Nat.mul_assoc, show l + (d + 1) + 1 = (l + d + 1) + 1 from by omega, first]
    exact Nat.mul_le_mul_right 2 (Nat.le_trans ih (Nat.le_add_right _ _))
/-- No code is the beginning of another one's. -/
theorem apartN {zs : List Int} (s t l m : Nat) (hs : s < zs.length) (ht : t < zs.length) (hst : s ≠ t) (h1 : zs.getD s 0 = (l : Int)) (h2 : zs.getD t 0 = (m : Int)) (h0 : 0 < l) (hlm : l ≤ m) (e : codeN zs s = codeN zs t / 2 ^ (m - l)) : False := by
  by_cases hlm2 : l = m
  · subst hlm2
    rw [Nat.sub_self, Nat.pow_zero, Nat.div_one] at e
    exact hst (code_inj zs l s t h0 hs ht h1 h2 e)
  · have d1 := codeN_eq zs s l h1
    have d2 := cnt_take_lt zs s l hs h1 h0
    have d3 := codeN_eq zs t m h2
    have d4 := first_up zs l (m - l - 1)
    rw [show m - l - 1 + 1 = m - l from by omega, show l + (m - l - 1) + 1 = m from by omega] at d4
    have d6 : first zs l + cnt zs l ≤ codeN zs t / 2 ^ (m - l) := by
      rw [Nat.le_div_iff_mul_le (Nat.two_pow_pos _)]
      omega
    omega

abbrev Tr := List (Int × Int)
/-- What stands behind a bit. -/
def ent (T : Tr) (i b : Nat) : Int := if b = 0 then (T.getD i (0, 0)).1 else (T.getD i (0, 0)).2
def setE (T : Tr) (i b : Nat) (x : Int) : Tr := T.set i (if b = 0 then (x, (T.getD i (0, 0)).2) else ((T.getD i (0, 0)).1, x))
/-- A tree with a further code in it: behind the branch at, the lowest m + 1 bits of c. -/
def growF (s : Nat) (c : Nat) : Nat → Nat → Tr → Tr
  | 0, at_, T => setE T at_ (c % 2) (-(s : Int) - 1)
  | m + 1, at_, T => if ent T at_ (c / 2 ^ (m + 1) % 2) = 0 then growF s c m T.length (setE T at_ (c / 2 ^ (m + 1) % 2) (T.length : Int) ++ [(0, 0)]) else growF s c m (ent T at_ (c / 2 ^ (m + 1) % 2)).toNat T
theorem setE_length (T : Tr) (i b : Nat) (x : Int) : (setE T i b x).length = T.length := by simp [setE]
theorem ent_setE (T : Tr) (i b : Nat) (x : Int) (hi : i < T.length) (j d : Nat) (hb : b < 2) (hd : d < 2) : ent (setE T i b x) j d = if j = i ∧ d = b then x else ent T j d := by
  unfold ent setE
  by_cases e : j = i
  · subst e
    have h1 : (T.set j (if b = 0 then (x, (T.getD j (0, 0)).2) else ((T.getD j (0, 0)).1, x))).getD j (0, 0) = (if b = 0 then (x, (T.getD j (0, 0)).2) else ((T.getD j (0, 0)).1, x)) := by simp [List.getD, hi]
    rw [h1]
    by_cases eb : b = 0
    · subst eb
      by_cases ed : d = 0
      · subst ed; simp
      · simp [ed]
    · by_cases ed : d = 0
      · subst ed
        have : ¬ 0 = b := fun q => eb q.symm
        simp [eb, this]
      · have : d = b := by omega
        subst this
        simp [ed]
  · have h1 : (T.set i (if b = 0 then (x, (T.getD i (0, 0)).2) else ((T.getD i (0, 0)).1, x))).getD j (0, 0) = T.getD j (0, 0) := by
      simp only [List.getD, List.getElem?_set]
      rw [if_neg (fun q => e q.symm)]
    rw [h1]
    simp [e]
theorem ent_app (T : Tr) (j d : Nat) : ent (T ++ [(0, 0)]) j d = ent T j d := by
  unfold ent
  by_cases h : j < T.length
  · simp [List.getD, List.getElem?_append_left h]
  · have h1 : T.getD j (0, 0) = (0, 0) := by simp [List.getD, List.getElem?_eq_none (show T.length ≤ j by omega)]
    have h2 : (T ++ [((0 : Int), (0 : Int))]).getD j (0, 0) = (0, 0) := by
      by_cases e : j = T.length
      · subst e; simp [List.getD]
      · simp [List.getD, List.getElem?_eq_none (show (T ++ [((0 : Int), (0 : Int))]).length ≤ j by simp; omega)]
    rw [h1, h2]
/-- The branches of T are the beginnings P of codes; S tells the codes that end in it. -/
structure Tv (T : Tr) (P : List (Nat × Nat)) (S : Nat × Nat → Prop) : Prop where
  len : P.length = T.length
  root : P.getD 0 (0, 0) = (0, 0)
  pos : 0 < T.length
  up : ∀ i b, i < T.length → b < 2 → 0 < ent T i b → (ent T i b).toNat < T.length ∧ P.getD (ent T i b).toNat (0, 0) = ((P.getD i (0, 0)).1 + 1, 2 * (P.getD i (0, 0)).2 + b)
  leaf : ∀ i b, i < T.length → b < 2 → ent T i b < 0 → S ((P.getD i (0, 0)).1 + 1, 2 * (P.getD i (0, 0)).2 + b)
theorem Tv.mono {T : Tr} {P : List (Nat × Nat)} {S S' : Nat × Nat → Prop} (h : Tv T P S) (hs : ∀ x, S x → S' x) : Tv T P S' := ⟨h.len, h.root, h.pos, h.up, fun i b h1 h2 h3 => hs _ (h.leaf i b h1 h2 h3)⟩
theorem half (c m : Nat) : c / 2 ^ m = 2 * (c / 2 ^ (m + 1)) + c / 2 ^ m % 2 := by
  rw [Nat.pow_succ, ← Nat.div_div_eq_div_mul]; omega
/-- A branch more. -/
theorem Tv.node {T : Tr} {P : List (Nat × Nat)} {S : Nat × Nat → Prop} (h : Tv T P S) (i b : Nat) (hi : i < T.length) (hb : b < 2) : Tv (setE T i b (T.length : Int) ++ [(0, 0)]) (P ++ [((P.getD i (0, 0)).1 + 1, 2 * (P.getD i (0, 0)).2 + b)]) S := by
  have hl := h.len
  have hP : ∀ j, j < T.length → (P ++ [((P.getD i (0, 0)).1 + 1, 2 * (P.getD i (0, 0)).2 + b)]).getD j (0, 0) = P.getD j (0, 0) := fun j hj => by simp [List.getD, List.getElem?_append_left (show j < P.length by omega)]
  have hPn : (P ++ [((P.getD i (0, 0)).1 + 1, 2 * (P.getD i (0, 0)).2 + b)]).getD T.length (0, 0) = ((P.getD i (0, 0)).1 + 1, 2 * (P.getD i (0, 0)).2 + b) := by rw [← hl]; simp [List.getD]
  have hz : ∀ d, ent T T.length d = 0 := fun d => by
    unfold ent
    have : T.getD T.length (0, 0) = (0, 0) := by simp [List.getD]
    rw [this]; split <;> rfl
  refine ⟨by simp [setE_length, hl], by rw [hP 0 h.pos]; exact h.root, by simp, fun j d hj hd hx => ?_, fun j d hj hd hx => ?_⟩
  · rw [ent_app, ent_setE T i b _ hi j d hb hd] at hx ⊢
    rw [List.length_append, setE_length, List.length_singleton] at hj ⊢
    by_cases e : j = i ∧ d = b
    · obtain ⟨rfl, rfl⟩ := e
      rw [if_pos ⟨rfl, rfl⟩, Int.toNat_natCast]
      exact ⟨by omega, by rw [hPn, hP j hi]⟩
    · rw [if_neg e] at hx ⊢
      by_cases c : j < T.length
      · have h1 := h.up j d c hd hx
        refine ⟨by omega, ?_⟩
        rw [hP _ h1.1, hP j c]; exact h1.2
      · have : j = T.length := by omega
        rw [this, hz] at hx
        omega
  · rw [ent_app, ent_setE T i b _ hi j d hb hd] at hx
    rw [List.length_append, setE_length, List.length_singleton] at hj
    by_cases e : j = i ∧ d = b
    · rw [if_pos e] at hx; omega
    · rw [if_neg e] at hx
      by_cases c : j < T.length
      · rw [hP j c]; exact h.leaf j d c hd hx
      · have : j = T.length := by omega
        rw [this, hz] at hx
        omega
theorem Tv.put {T : Tr} {P : List (Nat × Nat)} {S : Nat × Nat → Prop} (h : Tv T P S) (i b s : Nat) (hi : i < T.length) (hb : b < 2) (hS : S ((P.getD i (0, 0)).1 + 1, 2 * (P.getD i (0, 0)).2 + b)) : Tv (setE T i b (-(s : Int) - 1)) P S := by
  refine ⟨by rw [setE_length]; exact h.len, h.root, by rw [setE_length]; exact h.pos, fun j d hj hd hx => ?_, fun j d hj hd hx => ?_⟩
  · rw [setE_length] at hj ⊢
    rw [ent_setE T i b _ hi j d hb hd] at hx ⊢
    by_cases e : j = i ∧ d = b
    · rw [if_pos e] at hx; omega
    · rw [if_neg e] at hx ⊢; exact h.up j d hj hd hx
  · rw [setE_length] at hj
    rw [ent_setE T i b _ hi j d hb hd] at hx
    by_cases e : j = i ∧ d = b
    · obtain ⟨rfl, rfl⟩ := e; exact hS
    · rw [if_neg e] at hx; exact h.leaf j d hj hd hx
theorem Tv.grow {S : Nat × Nat → Prop} (s c : Nat) : ∀ (m at_ d : Nat) (T : Tr) (P : List (Nat × Nat)), Tv T P S → at_ < T.length → P.getD at_ (0, 0) = (d, c / 2 ^ (m + 1)) → (∀ l p, S (l, p) → l < d + m + 1 → c / 2 ^ (d + m + 1 - l) ≠ p) → S (d + m + 1, c) →
    ∃ P', Tv (growF s c m at_ T) P' S ∧ (growF s c m at_ T).length ≤ T.length + m := by
  intro m
  induction m with
  | zero =>
    intro at_ d T P h hat hP hap hS
    refine ⟨P, ?_, ?_⟩
    · rw [growF]
      refine h.put at_ (c % 2) s hat (Nat.mod_lt _ (by decide)) ?_
      rw [hP]
      have h3 := half c 0
      rw [Nat.pow_zero, Nat.div_one] at h3
      dsimp only
      rw [← h3]
      exact hS
    · rw [growF, setE_length]; exact Nat.le_refl _
  | succ m ih =>
    intro at_ d T P h hat hP hap hS
    have hb : c / 2 ^ (m + 1) % 2 < 2 := Nat.mod_lt _ (by decide)
    have h3 := half c (m + 1)
    rw [growF]
    by_cases he : ent T at_ (c / 2 ^ (m + 1) % 2) = 0
    · rw [if_pos he]
      obtain ⟨P', h1, h2⟩ := ih T.length (d + 1) _ _ (h.node at_ (c / 2 ^ (m + 1) % 2) hat hb) (by simp [setE_length]) (by
        rw [← h.len, hP]
        simp only [List.getD, List.getElem?_concat_length, Option.getD_some, Prod.mk.injEq]
        exact ⟨trivial, by omega⟩) (by rw [show d + 1 + m + 1 = d + (m + 1) + 1 from by omega]; exact hap) (by rw [show d + 1 + m + 1 = d + (m + 1) + 1 from by omega]; exact hS)
      refine ⟨P', h1, ?_⟩
      rw [List.length_append, setE_length, List.length_singleton] at h2
      omega
    · rw [if_neg he]
      have hpos : 0 < ent T at_ (c / 2 ^ (m + 1) % 2) := by
        rcases Int.lt_trichotomy (ent T at_ (c / 2 ^ (m + 1) % 2)) 0 with q | q | q
        · exfalso
          have h1 := h.leaf at_ _ hat hb q
          rw [hP] at h1
          refine hap _ _ h1 (by dsimp only; omega) ?_
          dsimp only
          rw [show d + (m + 1) + 1 - (d + 1) = m + 1 from by omega]
          omega
        · exact absurd q he
        · exact q
      have hup := h.up at_ _ hat hb hpos
      obtain ⟨P', h1, h2⟩ := ih _ (d + 1) _ _ h hup.1 (by
        rw [hup.2, hP]
        simp only [Prod.mk.injEq]
        exact ⟨trivial, by omega⟩) (by rw [show d + 1 + m + 1 = d + (m + 1) + 1 from by omega]; exact hap) (by rw [show d + 1 + m + 1 = d + (m + 1) + 1 from by omega]; exact hS)
      exact ⟨P', h1, by omega⟩
/-- The tree of the first k symbols' codes. -/
def treeG (zs : List Int) : Nat → Tr
  | 0 => [(0, 0)]
  | k + 1 => if 0 < zs.getD k 0 then growF k (codeN zs k) ((zs.getD k 0).toNat - 1) 0 (treeG zs k) else treeG zs k
/-- The codes of the first k symbols. -/
def coS (zs : List Int) (k : Nat) (x : Nat × Nat) : Prop := ∃ s, s < k ∧ 0 < zs.getD s 0 ∧ x = ((zs.getD s 0).toNat, codeN zs s)
theorem coS_apart {zs : List Int} (k n : Nat) (hk : k < zs.length) (hz : zs.getD k 0 = (n : Int)) : ∀ l p, coS zs (k + 1) (l, p) → l < n → codeN zs k / 2 ^ (n - l) ≠ p := by
  rintro l p ⟨s, hs, h0, e⟩ hl heq
  simp only [Prod.mk.injEq] at e
  obtain ⟨rfl, rfl⟩ := e
  have hne : s ≠ k := by
    rintro rfl
    rw [hz] at hl
    omega
  exact apartN s k (zs.getD s 0).toNat n (by omega) hk hne (by omega) hz (by omega) (by omega) heq.symm
theorem treeG_tv {zs : List Int} (hc : checkB zs = true) : ∀ k, k ≤ zs.length → ∃ P, Tv (treeG zs k) P (coS zs k) ∧ (treeG zs k).length ≤ 1 + 15 * k := by
  have hok : lenOk zs = true := by unfold checkB at hc; rw [Bool.and_eq_true] at hc; exact hc.1
  intro k
  induction k with
  | zero =>
    intro _
    refine ⟨[(0, 0)], ⟨rfl, rfl, by simp [treeG], fun i b hi hb hx => ?_, fun i b hi hb hx => ?_⟩, by simp [treeG]⟩
    · have : i = 0 := by simpa [treeG] using hi
      subst this
      simp [treeG, ent] at hx
    · have : i = 0 := by simpa [treeG] using hi
      subst this
      simp [treeG, ent] at hx
  | succ k ih =>
    intro hk
    obtain ⟨P, h1, h2⟩ := ih (by omega)
    have h1' : Tv (treeG zs k) P (coS zs (k + 1)) := h1.mono (fun x ⟨s, hs, hx⟩ => ⟨s, by omega, hx⟩)
    rw [treeG]
    by_cases h0 : 0 < zs.getD k 0
    · rw [if_pos h0]
      have hr := (lenOk_all hok).2 _ (show zs.getD k 0 ∈ zs from by simp [List.getD, List.getElem?_eq_getElem (show k < zs.length by omega)])
      obtain ⟨n, hn⟩ : ∃ n : Nat, zs.getD k 0 = ((n + 1 : Nat) : Int) := ⟨(zs.getD k 0).toNat - 1, by omega⟩
      have hlt := codeN_lt hc k (n + 1) (by omega) hn (by omega) (by omega)
      have hap := coS_apart (zs := zs) k (n + 1) (by omega) hn
      obtain ⟨P', h3, h4⟩ := Tv.grow (S := coS zs (k + 1)) k (codeN zs k) n 0 0 (treeG zs k) P h1' h1.pos (by rw [h1.root, Nat.div_eq_of_lt hlt]) (by rw [Nat.zero_add]; exact hap) ⟨k, by omega, h0, by rw [hn]; simp⟩
      rw [hn, Int.toNat_natCast, Nat.add_sub_cancel]
      exact ⟨P', h3, by omega⟩
    · rw [if_neg h0]
      exact ⟨P, h1', by omega⟩
end Hf
end Go.Proofs.YtelnefngkdfcoaaGreat
/-
  Plain facts: the tree of a code leads from a symbol's bits to the symbol.
-/
namespace Go.Proofs.YtelnefngkdfcoaaGreat
namespace Hf

/-- The n lowest bits, the highest first. -/
def low (x : Nat) : Nat → List Nat
  | 0 => []
  | n + 1 => x / 2 ^ n % 2 :: low x n
theorem low_length (x : Nat) : ∀ n, (low x n).length = n
  | 0 => rfl
  | n + 1 => by rw [low, List.length_cons, low_length x n]
theorem low_two (x : Nat) : ∀ n b, b ∈ low x n → b < 2
  | 0, b, h => by simp [low] at h
  | n + 1, b, h => by
    rw [low, List.mem_cons] at h
    rcases h with rfl | h
    · exact Nat.mod_lt _ (by decide)
    · exact low_two x n b h
/-- These bits lead from branch i to what stands as x. -/
def wk (T : Tr) (x : Int) : Nat → List Nat → Prop
  | _, [] => False
  | i, b :: r => (r = [] ∧ ent T i b = x) ∨ (r ≠ [] ∧ 0 < ent T i b ∧ wk T x (ent T i b).toNat r)
/-- All that stands in T stands in T', too. -/
def Sub (T T' : Tr) : Prop := ∀ i b, b < 2 → ent T i b ≠ 0 → ent T' i b = ent T i b
theorem Sub.refl (T : Tr) : Sub T T := fun _ _ _ _ => rfl
theorem Sub.trans {a b c : Tr} (h : Sub a b) (k : Sub b c) : Sub a c := fun i d hd hx => by
  have h1 := h i d hd hx
  rw [k i d hd (by rw [h1]; exact hx), h1]
theorem wk_sub {T T' : Tr} (h : Sub T T') {x : Int} (hx : x ≠ 0) : ∀ (l : List Nat) (i : Nat), (∀ b ∈ l, b < 2) → wk T x i l → wk T' x i l
  | [], _, _, k => k
  | b :: r, i, hb, k => by
    rw [wk] at k ⊢
    have h2 := hb b (List.mem_cons_self ..)
    rcases k with ⟨k1, k2⟩ | ⟨k1, k2, k3⟩
    · exact .inl ⟨k1, by rw [h i b h2 (by rw [k2]; exact hx), k2]⟩
    · have e := h i b h2 (by omega)
      exact .inr ⟨k1, by rw [e]; exact k2, by rw [e]; exact wk_sub h hx r _ (fun c hc => hb c (List.mem_cons_of_mem _ hc)) k3⟩
theorem sub_put {T : Tr} (i b : Nat) (x : Int) (hi : i < T.length) (hb : b < 2) (h0 : ent T i b = 0) : Sub T (setE T i b x) := fun j d hd hx => by
  rw [ent_setE T i b x hi j d hb hd]
  by_cases e : j = i ∧ d = b
  · obtain ⟨rfl, rfl⟩ := e; exact absurd h0 hx
  · rw [if_neg e]
theorem sub_app (T : Tr) : Sub T (T ++ [(0, 0)]) := fun j d _ _ => ent_app T j d

theorem grow_walk {S Q : Nat × Nat → Prop} (s c N : Nat) (hQ : ∀ l, 0 < l → l < N → Q (l, c / 2 ^ (N - l))) (hQc : ¬ Q (N, c)) (hSc : ¬ S (N, c)) (hap : ∀ l p, S (l, p) → l < N → c / 2 ^ (N - l) ≠ p) :
    ∀ (m at_ d : Nat) (T : Tr) (P : List (Nat × Nat)), d + m + 1 = N → Tv T P S → at_ < T.length → P.getD at_ (0, 0) = (d, c / 2 ^ (m + 1)) → (∀ i, 0 < i → i < T.length → Q (P.getD i (0, 0))) →
    ∃ P', Tv (growF s c m at_ T) P' (fun x => S x ∨ x = (N, c)) ∧ (∀ i, 0 < i → i < (growF s c m at_ T).length → Q (P'.getD i (0, 0))) ∧ Sub T (growF s c m at_ T) ∧ wk (growF s c m at_ T) (-(s : Int) - 1) at_ (low c (m + 1)) := by
  intro m
  induction m with
  | zero =>
    intro at_ d T P hN h hat hP hnd
    have hb : c % 2 < 2 := Nat.mod_lt _ (by decide)
    have h3 := half c 0
    rw [Nat.pow_zero, Nat.div_one] at h3
    have h0 : ent T at_ (c % 2) = 0 := by
      rcases Int.lt_trichotomy (ent T at_ (c % 2)) 0 with q | q | q
      · exfalso
        have h1 := h.leaf at_ _ hat hb q
        rw [hP] at h1
        dsimp only at h1
        rw [← h3, show d + 1 = N from by omega] at h1
        exact hSc h1
      · exact q
      · exfalso
        have hup := h.up at_ _ hat hb q
        have h1 := hnd _ (by omega) hup.1
        rw [hup.2, hP] at h1
        dsimp only at h1
        rw [← h3, show d + 1 = N from by omega] at h1
        exact hQc h1
    refine ⟨P, ?_, ?_, ?_, ?_⟩
    · rw [growF]
      refine (h.mono (fun x hx => Or.inl hx)).put at_ (c % 2) s hat hb (.inr ?_)
      rw [hP]
      dsimp only
      rw [← h3, show d + 1 = N from by omega]
    · rw [growF, setE_length]; exact hnd
    · rw [growF]; exact sub_put _ _ _ hat hb h0
    · rw [growF, low, low, wk]
      refine .inl ⟨rfl, ?_⟩
      rw [Nat.pow_zero, Nat.div_one, ent_setE T at_ _ _ hat at_ _ hb hb, if_pos ⟨rfl, rfl⟩]
  | succ m ih =>
    intro at_ d T P hN h hat hP hnd
    have hb : c / 2 ^ (m + 1) % 2 < 2 := Nat.mod_lt _ (by decide)
    have h3 := half c (m + 1)
    rw [growF]
    by_cases he : ent T at_ (c / 2 ^ (m + 1) % 2) = 0
    · rw [if_pos he]
      have hv := h.node at_ (c / 2 ^ (m + 1) % 2) hat hb
      have hlen : (setE T at_ (c / 2 ^ (m + 1) % 2) (T.length : Int) ++ [((0 : Int), (0 : Int))]).length = T.length + 1 := by simp [setE_length]
      have hPn : (P ++ [((P.getD at_ (0, 0)).1 + 1, 2 * (P.getD at_ (0, 0)).2 + c / 2 ^ (m + 1) % 2)]).getD T.length (0, 0) = (d + 1, c / 2 ^ (m + 1)) := by
        rw [← h.len, hP]
        simp only [List.getD, List.getElem?_concat_length, Option.getD_some, Prod.mk.injEq]
        exact ⟨trivial, by omega⟩
      have hsub : Sub T (setE T at_ (c / 2 ^ (m + 1) % 2) (T.length : Int) ++ [(0, 0)]) := (sub_put at_ _ _ hat hb he).trans (sub_app _)
      have hent : ent (setE T at_ (c / 2 ^ (m + 1) % 2) (T.length : Int) ++ [(0, 0)]) at_ (c / 2 ^ (m + 1) % 2) = (T.length : Int) := by
        rw [ent_app, ent_setE T at_ _ _ hat at_ _ hb hb, if_pos ⟨rfl, rfl⟩]
      obtain ⟨P', h1, h2, h4, h5⟩ := ih T.length (d + 1) _ _ (by omega) hv (by omega) hPn (fun i hi hl => by
        rw [hlen] at hl
        by_cases e : i = T.length
        · rw [e, hPn]
          have := hQ (d + 1) (by omega) (by omega)
          rwa [show N - (d + 1) = m + 1 from by omega] at this
        · have : (P ++ [((P.getD at_ (0, 0)).1 + 1, 2 * (P.getD at_ (0, 0)).2 + c / 2 ^ (m + 1) % 2)]).getD i (0, 0) = P.getD i (0, 0) := by
            simp [List.getD, List.getElem?_append_left (show i < P.length by have := h.len; omega)]
          rw [this]
          exact hnd i hi (by omega))
      refine ⟨P', h1, h2, hsub.trans h4, ?_⟩
      rw [low, wk]
      have hpT := h.pos
      have e2 := h4 at_ _ hb (by rw [hent]; omega)
      rw [hent] at e2
      refine .inr ⟨by simp [low], by rw [e2]; omega, ?_⟩
      rw [e2, Int.toNat_natCast]
      exact h5
    · rw [if_neg he]
      have hpos : 0 < ent T at_ (c / 2 ^ (m + 1) % 2) := by
        rcases Int.lt_trichotomy (ent T at_ (c / 2 ^ (m + 1) % 2)) 0 with q | q | q
        · exfalso
          have h1 := h.leaf at_ _ hat hb q
          rw [hP] at h1
          refine hap _ _ h1 (by dsimp only; omega) ?_
          dsimp only
          rw [show N - (d + 1) = m + 1 from by omega]
          omega
        · exact absurd q he
        · exact q
      have hup := h.up at_ _ hat hb hpos
      obtain ⟨P', h1, h2, h4, h5⟩ := ih _ (d + 1) _ _ (by omega) h hup.1 (by
        rw [hup.2, hP]
        simp only [Prod.mk.injEq]
        exact ⟨trivial, by omega⟩) hnd
      refine ⟨P', h1, h2, h4, ?_⟩
      rw [low, wk]
      have e2 := h4 at_ _ hb he
      refine .inr ⟨by simp [low], by rw [e2]; exact hpos, ?_⟩
      rw [e2]
      exact h5
/-- A proper beginning of the code of one of the first k symbols. -/
def beS (zs : List Int) (k : Nat) (x : Nat × Nat) : Prop := ∃ s, s < k ∧ x.1 < (zs.getD s 0).toNat ∧ 0 < x.1 ∧ x.2 = codeN zs s / 2 ^ ((zs.getD s 0).toNat - x.1)
theorem treeG_walk {zs : List Int} (hc : checkB zs = true) : ∀ k, k ≤ zs.length → ∃ P, Tv (treeG zs k) P (coS zs k) ∧ (∀ i, 0 < i → i < (treeG zs k).length → beS zs k (P.getD i (0, 0))) ∧ ∀ s, s < k → 0 < zs.getD s 0 → wk (treeG zs k) (-(s : Int) - 1) 0 (low (codeN zs s) (zs.getD s 0).toNat) := by
  have hok : lenOk zs = true := by unfold checkB at hc; rw [Bool.and_eq_true] at hc; exact hc.1
  intro k
  induction k with
  | zero =>
    intro _
    obtain ⟨P, h1, _⟩ := treeG_tv hc 0 (by omega)
    refine ⟨P, h1, fun i h0 hi => ?_, fun s hs => by omega⟩
    simp [treeG] at hi
    omega
  | succ k ih =>
    intro hk
    obtain ⟨P, h1, h2, h3⟩ := ih (by omega)
    rw [treeG]
    by_cases h0 : 0 < zs.getD k 0
    · rw [if_pos h0]
      have hr := (lenOk_all hok).2 _ (show zs.getD k 0 ∈ zs from by simp [List.getD, List.getElem?_eq_getElem (show k < zs.length by omega)])
      obtain ⟨n, hn⟩ : ∃ n : Nat, zs.getD k 0 = ((n + 1 : Nat) : Int) := ⟨(zs.getD k 0).toNat - 1, by omega⟩
      have hlt := codeN_lt hc k (n + 1) (by omega) hn (by omega) (by omega)
      have hnN : (zs.getD k 0).toNat = n + 1 := by omega
      obtain ⟨P', h4, h5, h6, h7⟩ := grow_walk (S := coS zs k) (Q := beS zs (k + 1)) k (codeN zs k) (n + 1)
        (fun l hl0 hl => ⟨k, by omega, by dsimp only; omega, hl0, by dsimp only; rw [hnN]⟩)
        (by
          rintro ⟨t, ht, hx, _, he⟩
          dsimp only at hx he
          have hne : k ≠ t := by rintro rfl; omega
          exact apartN k t (n + 1) (zs.getD t 0).toNat (by omega) (by omega) hne hn (by omega) (by omega) (by omega) he)
        (by
          rintro ⟨t, ht, hx, he⟩
          simp only [Prod.mk.injEq] at he
          have hne : k ≠ t := by omega
          exact hne (code_inj zs (n + 1) k t (by omega) (by omega) (by omega) hn (by omega) he.2))
        (fun l p hS hl => coS_apart (zs := zs) k (n + 1) (by omega) hn l p (by obtain ⟨s, hs, hx⟩ := hS; exact ⟨s, by omega, hx⟩) hl)
        n 0 0 (treeG zs k) P (by omega) h1 h1.pos (by rw [h1.root, Nat.div_eq_of_lt hlt])
        (fun i hi hl => by obtain ⟨t, ht, hx⟩ := h2 i hi hl; exact ⟨t, by omega, hx⟩)
      rw [hnN, Nat.add_sub_cancel]
      refine ⟨P', h4.mono (fun x hx => ?_), h5, fun s hs hs0 => ?_⟩
      · rcases hx with ⟨t, ht, hx⟩ | rfl
        · exact ⟨t, by omega, hx⟩
        · exact ⟨k, by omega, h0, by rw [hnN]⟩
      · by_cases e : s = k
        · rw [e, hnN]
          exact h7
        · exact wk_sub h6 (by omega) _ _ (fun b hb => low_two _ _ b hb) (h3 s (by omega) hs0)
    · rw [if_neg h0]
      refine ⟨P, h1.mono (fun x ⟨t, ht, hx⟩ => ⟨t, by omega, hx⟩), fun i hi hl => ?_, fun s hs hs0 => ?_⟩
      · obtain ⟨t, ht, hx⟩ := h2 i hi hl
        exact ⟨t, by omega, hx⟩
      · have hne : s ≠ k := by rintro rfl; exact h0 hs0
        exact h3 s (by omega) hs0
end Hf
end Go.Proofs.YtelnefngkdfcoaaGreat
