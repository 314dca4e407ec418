/-
  Plain facts: what the merging of two sorted stretches that stand side by side owes, step by step.
-/
import Derived.Test.YtgecoiakhmnilaaSortMath
namespace Go.Proofs.Ytgecoiakhmnilaa
namespace Hf

/-- A row whose numbers from a to b stand otherwise. -/
structure Same (a b : Nat) (o X : List Int) : Prop where
  perm : X.Perm o
  out : ∀ p, p < a ∨ b ≤ p → X.getD p 0 = o.getD p 0
theorem Sorted.same {cs : List Int} {a b : Nat} {o X : List Int} (h : Sorted cs a b o X) : Same a b o X := ⟨h.perm, h.out⟩
theorem ext_getD {l m : List Int} (hl : l.length = m.length) (h : ∀ p, p < l.length → l.getD p 0 = m.getD p 0) : l = m := by
  refine List.ext_getElem hl (fun i h1 h2 => ?_)
  have := h i h1
  simpa [List.getD, List.getElem?_eq_getElem h1, List.getElem?_eq_getElem h2] using this
theorem getD_take' (l : List Int) (n p : Nat) (h : p < n) : (l.take n).getD p 0 = l.getD p 0 := by
  simp only [List.getD, List.getElem?_take, if_pos h]
theorem getD_drop' (l : List Int) (n p : Nat) : (l.drop n).getD p 0 = l.getD (n + p) 0 := by
  simp only [List.getD, List.getElem?_drop]
theorem mem_getD {l : List Int} {u : Int} (h : u ∈ l) : ∃ p, p < l.length ∧ l.getD p 0 = u := by
  obtain ⟨p, hp, e⟩ := List.getElem_of_mem h
  exact ⟨p, hp, by simp [List.getD, List.getElem?_eq_getElem hp, e]⟩
theorem getD_in {l : List Int} (p : Nat) (h : p < l.length) : l.getD p 0 ∈ l := by
  have e : l.getD p 0 = l[p] := by simp [List.getD, List.getElem?_eq_getElem h]
  rw [e]; exact List.getElem_mem h
theorem cut3 (l : List Int) (a k : Nat) : l = l.take a ++ ((l.drop a).take k ++ l.drop (a + k)) := by
  have h1 : (l.drop a).take k ++ l.drop (a + k) = l.drop a := by
    rw [← List.drop_drop]; exact List.take_append_drop k (l.drop a)
  rw [h1, List.take_append_drop]
theorem Same.mem {a b : Nat} {o X : List Int} (h : Same a b o X) (hb : b ≤ o.length) (p : Nat) (h1 : a ≤ p) (h2 : p < b) : ∃ q, a ≤ q ∧ q < b ∧ X.getD p 0 = o.getD q 0 := by
  obtain ⟨k, rfl⟩ : ∃ k, b = a + k := ⟨b - a, by omega⟩
  have hl := h.perm.length_eq
  have e1 : X.take a = o.take a := ext_getD (by simp [hl]) (fun q hq => by
    rw [List.length_take] at hq
    rw [getD_take' _ _ _ (by omega), getD_take' _ _ _ (by omega)]
    exact h.out q (by omega))
  have e2 : X.drop (a + k) = o.drop (a + k) := ext_getD (by simp [hl]) (fun q _ => by
    rw [getD_drop', getD_drop']
    exact h.out _ (by omega))
  have hp := h.perm
  rw [cut3 X a k, cut3 o a k, e1, e2] at hp
  have hp2 := (List.perm_append_right_iff _).1 ((List.perm_append_left_iff _).1 hp)
  have hm : X.getD p 0 ∈ (X.drop a).take k := by
    have e3 : ((X.drop a).take k).getD (p - a) 0 = X.getD p 0 := by
      rw [getD_take' _ _ _ (by omega), getD_drop']; congr 1; omega
    rw [← e3]
    exact getD_in _ (by rw [List.length_take, List.length_drop]; omega)
  obtain ⟨q, hq, e⟩ := mem_getD (hp2.subset hm)
  rw [List.length_take, List.length_drop] at hq
  refine ⟨a + q, by omega, by omega, ?_⟩
  rw [← e, getD_take' _ _ _ (by omega), getD_drop']

/-- Two sorted stretches side by side; every number of the first is less than every one of the second. -/
structure Mrg (cs : List Int) (a m b : Nat) (o : List Int) : Prop where
  lo : ∀ p q, a ≤ p → p < q → q < m → Lx cs (o.getD p 0) (o.getD q 0)
  hi : ∀ p q, m ≤ p → p < q → q < b → Lx cs (o.getD p 0) (o.getD q 0)
  less : ∀ p q, a ≤ p → p < m → m ≤ q → q < b → o.getD p 0 < o.getD q 0
theorem Mrg.left {cs : List Int} {a m b : Nat} {o : List Int} (h : Mrg cs a m b o) {p q : Nat} (h1 : a ≤ p) (h2 : p < m) (h3 : m ≤ q) (h4 : q < b) (hk : key cs (o.getD p 0) ≤ key cs (o.getD q 0)) : Lx cs (o.getD p 0) (o.getD q 0) := by
  have := h.less p q h1 h2 h3 h4
  unfold Lx; omega
theorem Mrg.lo' {cs : List Int} {a m b : Nat} {o : List Int} (h : Mrg cs a m b o) {x : Int} {p q : Nat} (h1 : a ≤ p) (h2 : p ≤ q) (h3 : q < m) (hx : Lx cs (o.getD q 0) x) : Lx cs (o.getD p 0) x := by
  by_cases e : p = q
  · rw [e]; exact hx
  · exact (h.lo p q h1 (by omega) h3).trans hx
theorem Mrg.lo'' {cs : List Int} {a m b : Nat} {o : List Int} (h : Mrg cs a m b o) {x : Int} {p q : Nat} (h1 : a ≤ p) (h2 : p ≤ q) (h3 : q < m) (hx : Lx cs x (o.getD p 0)) : Lx cs x (o.getD q 0) := by
  by_cases e : p = q
  · rw [← e]; exact hx
  · exact hx.trans (h.lo p q h1 (by omega) h3)
theorem Mrg.hi' {cs : List Int} {a m b : Nat} {o : List Int} (h : Mrg cs a m b o) {x : Int} {p q : Nat} (h1 : m ≤ p) (h2 : p ≤ q) (h3 : q < b) (hx : Lx cs (o.getD q 0) x) : Lx cs (o.getD p 0) x := by
  by_cases e : p = q
  · rw [e]; exact hx
  · exact (h.hi p q h1 (by omega) h3).trans hx
theorem Mrg.hi'' {cs : List Int} {a m b : Nat} {o : List Int} (h : Mrg cs a m b o) {x : Int} {p q : Nat} (h1 : m ≤ p) (h2 : p ≤ q) (h3 : q < b) (hx : Lx cs x (o.getD p 0)) : Lx cs x (o.getD q 0) := by
  by_cases e : p = q
  · rw [← e]; exact hx
  · exact hx.trans (h.hi p q h1 (by omega) h3)

/-- The first number of a stretch on its way up: it stands at k. -/
structure Up (a k : Nat) (o X : List Int) : Prop where
  perm : X.Perm o
  at' : ∀ p, X.getD p 0 = if a ≤ p ∧ p < k then o.getD (p + 1) 0 else if p = k then o.getD a 0 else o.getD p 0
theorem Up.start (a : Nat) (o : List Int) : Up a a o o := ⟨List.Perm.refl _, fun p => by
  rw [if_neg (by omega)]
  by_cases e : p = a
  · rw [if_pos e, e]
  · rw [if_neg e]⟩
theorem Up.step {a k : Nat} {o X : List Int} (h : Up a k o X) (ha : a ≤ k) (hl : k + 1 < X.length) : Up a (k + 1) o (swapL X k (k + 1)) := by
  refine ⟨(swapL_perm X _ _ (by omega) hl).trans h.perm, fun p => ?_⟩
  rw [swapL_getD X _ _ _ (by omega) hl, h.at', h.at', h.at']
  by_cases e1 : p = k + 1
  · subst e1
    rw [if_pos rfl, if_neg (by omega), if_pos rfl, if_neg (by omega), if_pos rfl]
  · rw [if_neg e1, if_neg e1]
    by_cases e2 : p = k
    · subst e2
      rw [if_pos rfl, if_neg (by omega), if_neg (by omega), if_pos (by omega)]
    · rw [if_neg e2, if_neg e2]
      by_cases e3 : a ≤ p ∧ p < k
      · rw [if_pos e3, if_pos (by omega)]
      · rw [if_neg e3, if_neg (by omega)]
theorem Up.sorted {cs : List Int} {a b i : Nat} {o X : List Int} (hm : Mrg cs a (a + 1) b o) (hi : a + 1 ≤ i) (hib : i ≤ b) (h1 : i = a + 1 ∨ key cs (o.getD (i - 1) 0) < key cs (o.getD a 0)) (h2 : i = b ∨ key cs (o.getD a 0) ≤ key cs (o.getD i 0)) (h : Up a (i - 1) o X) : Sorted cs a b o X := by
  have hl1 : ∀ q, a + 1 ≤ q → q < i → Lx cs (o.getD q 0) (o.getD a 0) := fun q e1 e2 => by
    rcases h1 with h1 | h1
    · omega
    · exact hm.hi' e1 (show q ≤ i - 1 by omega) (by omega) (Or.inl h1)
  have hl2 : ∀ q, i ≤ q → q < b → Lx cs (o.getD a 0) (o.getD q 0) := fun q e1 e2 => by
    rcases h2 with h2 | h2
    · omega
    · exact hm.hi'' hi e1 e2 (hm.left (Nat.le_refl _) (by omega) hi (by omega) h2)
  refine ⟨h.perm, fun p hp => ?_, fun p q e1 e2 e3 => ?_⟩
  · rw [h.at', if_neg (by omega), if_neg (by omega)]
  · rw [h.at', h.at']
    by_cases c1 : p < i - 1
    · rw [if_pos ⟨e1, c1⟩]
      by_cases c2 : q < i - 1
      · rw [if_pos (by omega)]; exact hm.hi _ _ (by omega) (by omega) (by omega)
      · rw [if_neg (by omega)]
        by_cases c3 : q = i - 1
        · rw [if_pos c3]; exact hl1 _ (by omega) (by omega)
        · rw [if_neg c3]; exact hm.hi _ _ (by omega) (by omega) e3
    · rw [if_neg (by omega), if_neg (show ¬ (a ≤ q ∧ q < i - 1) by omega), if_neg (show q ≠ i - 1 by omega)]
      by_cases c3 : p = i - 1
      · rw [if_pos c3]; exact hl2 _ (by omega) e3
      · rw [if_neg c3]; exact hm.hi _ _ (by omega) e2 e3

/-- The last number of a stretch on its way down: it stands at k. -/
structure Dn (k m : Nat) (o X : List Int) : Prop where
  perm : X.Perm o
  at' : ∀ p, X.getD p 0 = if k < p ∧ p ≤ m then o.getD (p - 1) 0 else if p = k then o.getD m 0 else o.getD p 0
theorem Dn.start (m : Nat) (o : List Int) : Dn m m o o := ⟨List.Perm.refl _, fun p => by
  rw [if_neg (by omega)]
  by_cases e : p = m
  · rw [if_pos e, e]
  · rw [if_neg e]⟩
theorem Dn.step {k m : Nat} {o X : List Int} (h : Dn (k + 1) m o X) (hk : k + 1 ≤ m) (hl : k + 1 < X.length) : Dn k m o (swapL X (k + 1) k) := by
  refine ⟨(swapL_perm X _ _ hl (by omega)).trans h.perm, fun p => ?_⟩
  rw [swapL_getD X _ _ _ hl (by omega), h.at', h.at', h.at']
  by_cases e1 : p = k
  · subst e1
    rw [if_pos rfl, if_neg (by omega), if_pos rfl, if_neg (by omega), if_pos rfl]
  · rw [if_neg e1, if_neg e1]
    by_cases e2 : p = k + 1
    · subst e2
      rw [if_pos rfl, if_neg (by omega), if_neg (by omega), if_pos (by omega)]
      rfl
    · rw [if_neg e2, if_neg e2]
      by_cases e3 : k + 1 < p ∧ p ≤ m
      · rw [if_pos e3, if_pos (by omega)]
      · rw [if_neg e3, if_neg (by omega)]
theorem Dn.sorted {cs : List Int} {a m i : Nat} {o X : List Int} (hm : Mrg cs a m (m + 1) o) (hi : a ≤ i) (him : i ≤ m) (h1 : i = a ∨ key cs (o.getD (i - 1) 0) ≤ key cs (o.getD m 0)) (h2 : i = m ∨ key cs (o.getD m 0) < key cs (o.getD i 0)) (h : Dn i m o X) : Sorted cs a (m + 1) o X := by
  have hl1 : ∀ q, a ≤ q → q < i → Lx cs (o.getD q 0) (o.getD m 0) := fun q e1 e2 => by
    rcases h1 with h1 | h1
    · omega
    · exact hm.lo' e1 (show q ≤ i - 1 by omega) (by omega) (hm.left (by omega) (by omega) (Nat.le_refl _) (by omega) h1)
  have hl2 : ∀ q, i ≤ q → q < m → Lx cs (o.getD m 0) (o.getD q 0) := fun q e1 e2 => by
    rcases h2 with h2 | h2
    · omega
    · exact hm.lo'' hi e1 e2 (Or.inl h2)
  refine ⟨h.perm, fun p hp => ?_, fun p q e1 e2 e3 => ?_⟩
  · rw [h.at', if_neg (by omega)]
    by_cases c : p = i
    · omega
    · rw [if_neg c]
  · rw [h.at', h.at']
    by_cases c1 : p < i
    · rw [if_neg (by omega), if_neg (show p ≠ i by omega)]
      by_cases c2 : q < i
      · rw [if_neg (by omega), if_neg (show q ≠ i by omega)]; exact hm.lo _ _ e1 e2 (by omega)
      · by_cases c3 : q = i
        · rw [if_neg (by omega), if_pos c3]; exact hl1 _ e1 c1
        · rw [if_pos (by omega)]; exact hm.lo _ _ e1 (by omega) (by omega)
    · rw [if_pos (show i < q ∧ q ≤ m by omega)]
      by_cases c3 : p = i
      · rw [if_neg (by omega), if_pos c3]; exact hl2 _ (by omega) (by omega)
      · rw [if_pos (by omega)]; exact hm.lo _ _ (by omega) (by omega) (by omega)

/-- Two stretches, cut at s and e, the inner parts exchanged. -/
structure Turned (a m b mid s e : Nat) (o Y : List Int) : Prop where
  perm : Y.Perm o
  sum : s + e = mid + m
  sm : s ≤ m
  me : m ≤ e
  as : a ≤ s
  eb : e ≤ b
  smid : s ≤ mid
  mide : mid ≤ e
  at' : ∀ p, Y.getD p 0 = o.getD (if s ≤ p ∧ p < mid then p + (m - s) else if mid ≤ p ∧ p < e then p - (e - m) else p) 0
/-- Where the search for the cut ends. -/
structure Cutd (cs : List Int) (a m b mid s : Nat) (o : List Int) : Prop where
  low : (m > mid ∧ s = mid + m - b) ∨ (m ≤ mid ∧ s = a) ∨ Lx cs (o.getD (s - 1) 0) (o.getD (mid + m - s) 0)
  high : (m > mid ∧ s = mid) ∨ (m ≤ mid ∧ s = m) ∨ Lx cs (o.getD (mid + m - 1 - s) 0) (o.getD s 0)
theorem Turned.first {cs : List Int} {a m b mid s e : Nat} {o Y : List Int} (hm : Mrg cs a m b o) (h : Turned a m b mid s e o Y) : Mrg cs a s mid Y := by
  obtain ⟨_, h1, h2, h3, h4, h5, h6, h7, hat⟩ := h
  refine ⟨fun p q e1 e2 e3 => ?_, fun p q e1 e2 e3 => ?_, fun p q e1 e2 e3 e4 => ?_⟩
  · rw [hat, hat, if_neg (by omega), if_neg (by omega), if_neg (by omega), if_neg (by omega)]; exact hm.lo _ _ e1 e2 (by omega)
  · rw [hat, hat, if_pos (by omega), if_pos (by omega)]; exact hm.hi _ _ (by omega) (by omega) (by omega)
  · rw [hat, hat, if_neg (by omega), if_neg (by omega), if_pos (by omega)]; exact hm.less _ _ e1 (by omega) (by omega) (by omega)
theorem Turned.second {cs : List Int} {a m b mid s e : Nat} {o Y Z : List Int} (hm : Mrg cs a m b o) (h : Turned a m b mid s e o Y) (hz : Same a mid Y Z) : Mrg cs mid e b Z := by
  obtain ⟨_, h1, h2, h3, h4, h5, h6, h7, hat⟩ := h
  refine ⟨fun p q e1 e2 e3 => ?_, fun p q e1 e2 e3 => ?_, fun p q e1 e2 e3 e4 => ?_⟩
  · rw [hz.out p (by omega), hz.out q (by omega), hat, hat, if_neg (by omega), if_pos (by omega), if_neg (by omega), if_pos (by omega)]; exact hm.lo _ _ (by omega) (by omega) (by omega)
  · rw [hz.out p (by omega), hz.out q (by omega), hat, hat, if_neg (by omega), if_neg (by omega), if_neg (by omega), if_neg (by omega)]; exact hm.hi _ _ (by omega) (by omega) (by omega)
  · rw [hz.out p (by omega), hz.out q (by omega), hat, hat, if_neg (by omega), if_pos (by omega), if_neg (by omega), if_neg (by omega)]; exact hm.less _ _ (by omega) (by omega) (by omega) (by omega)
theorem Turned.cross {cs : List Int} {a m b mid s e : Nat} {o Y : List Int} (hm : Mrg cs a m b o) (h : Turned a m b mid s e o Y) (hc : Cutd cs a m b mid s o) : ∀ p q, a ≤ p → p < mid → mid ≤ q → q < b → Lx cs (Y.getD p 0) (Y.getD q 0) := by
  obtain ⟨_, h1, h2, h3, h4, h5, h6, h7, hat⟩ := h
  intro p q e1 e2 e3 e4
  rw [hat, hat]
  by_cases c1 : p < s
  · rw [if_neg (by omega), if_neg (by omega)]
    by_cases c2 : q < e
    · rw [if_neg (by omega), if_pos (by omega)]; exact hm.lo _ _ e1 (by omega) (by omega)
    · rw [if_neg (by omega), if_neg (by omega)]
      rcases hc.low with c | c | c
      · omega
      · omega
      · rw [show mid + m - s = e by omega] at c
        exact hm.hi'' h3 (show e ≤ q by omega) e4 (hm.lo' e1 (show p ≤ s - 1 by omega) (by omega) c)
  · rw [if_pos (by omega)]
    by_cases c2 : q < e
    · rw [if_neg (by omega), if_pos (by omega)]
      rcases hc.high with c | c | c
      · omega
      · omega
      · rw [show mid + m - 1 - s = e - 1 by omega] at c
        exact hm.lo'' h4 (show s ≤ q - (e - m) by omega) (by omega) (hm.hi' (by omega) (show p + (m - s) ≤ e - 1 by omega) (by omega) c)
    · rw [if_neg (by omega), if_neg (by omega)]; exact hm.hi _ _ (by omega) (by omega) e4
theorem Turned.same {a m b mid s e : Nat} {o Y : List Int} (h : Turned a m b mid s e o Y) : Same a b o Y := by
  obtain ⟨hp, h1, h2, h3, h4, h5, h6, h7, hat⟩ := h
  exact ⟨hp, fun p hp => by rw [hat, if_neg (by omega), if_neg (by omega)]⟩
theorem merged {cs : List Int} {a m b mid s e : Nat} {o Y Z1 Z2 : List Int} (hb : b ≤ o.length) (hm : Mrg cs a m b o) (h : Turned a m b mid s e o Y) (hc : Cutd cs a m b mid s o) (h1 : Sorted cs a mid Y Z1) (h2 : Sorted cs mid b Z1 Z2) : Sorted cs a b o Z2 := by
  have hx := Turned.cross hm h hc
  have hs := h.same
  have hamid : a ≤ mid := Nat.le_trans h.as h.smid
  have hmidb : mid ≤ b := Nat.le_trans h.mide h.eb
  refine ⟨h2.perm.trans (h1.perm.trans h.perm), fun p hp => ?_, fun p q e1 e2 e3 => ?_⟩
  · rw [h2.out p (by omega), h1.out p (by omega)]; exact hs.out p hp
  · by_cases c1 : q < mid
    · rw [h2.out p (by omega), h2.out q (by omega)]; exact h1.ord p q e1 e2 c1
    · by_cases c2 : mid ≤ p
      · exact h2.ord p q c2 e2 e3
      · rw [h2.out p (by omega)]
        obtain ⟨p', p1, p2, pe⟩ := h1.same.mem (by rw [h.perm.length_eq]; omega) p e1 (by omega)
        obtain ⟨q', q1, q2, qe⟩ := h2.same.mem (by rw [h1.perm.length_eq, h.perm.length_eq]; omega) q (by omega) e3
        rw [pe, qe, h1.out q' (by omega)]
        exact hx p' q' p1 p2 q1 q2
/-- A stretch that is in order already. -/
theorem Mrg.one {cs : List Int} {a m b : Nat} {o : List Int} (hm : Mrg cs a m b o) (h : m = a ∨ m = b) : Sorted cs a b o o := by
  refine ⟨List.Perm.refl _, fun _ _ => rfl, fun p q e1 e2 e3 => ?_⟩
  rcases h with h | h
  · exact hm.hi p q (by omega) e2 e3
  · exact hm.lo p q e1 e2 (by omega)
theorem Turned.still {a m b mid s e : Nat} {o : List Int} (hsum : s + e = mid + m) (h1 : a ≤ s) (h2 : s ≤ m) (h3 : m ≤ e) (h4 : e ≤ b) (h5 : s ≤ mid) (h6 : mid ≤ e) (h : s = m ∨ m = e) : Turned a m b mid s e o o := by
  refine ⟨List.Perm.refl _, hsum, h2, h3, h1, h4, h5, h6, fun p => ?_⟩
  congr 1
  repeat' split
  all_goals omega
end Hf
end Go.Proofs.Ytgecoiakhmnilaa
