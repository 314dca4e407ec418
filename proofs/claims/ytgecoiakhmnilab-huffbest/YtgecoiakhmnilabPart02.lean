/-
  Plain facts on bits that are put into bytes.
-/
import Derived.Test.YtgecoiakhmnilabPart00
namespace Go.Proofs.Ytgecoiakhmnilab
namespace Hf

/-- The whole bytes of the n bits of N, the highest one first. -/
def fullB (N n : Nat) : List Int := (List.range (n / 8)).map (fun i => ((N / 2 ^ (n - 8 * (i + 1)) % 256 : Nat) : Int))
theorem fullB_length (N n : Nat) : (fullB N n).length = n / 8 := by simp [fullB]
theorem fullB_getD (N n i : Nat) (h : i < n / 8) : (fullB N n).getD i 0 = ((N / 2 ^ (n - 8 * (i + 1)) % 256 : Nat) : Int) := by
  simp [fullB, List.getD, h]
theorem fullB_rng (N n j : Nat) : 0 ≤ (fullB N n).getD j 0 ∧ (fullB N n).getD j 0 ≤ 255 := by
  by_cases h : j < n / 8
  · rw [fullB_getD N n j h]
    have := Nat.mod_lt (N / 2 ^ (n - 8 * (j + 1))) (show 0 < 256 by decide)
    omega
  · have : (fullB N n)[j]? = none := List.getElem?_eq_none (by rw [fullB_length]; omega)
    simp [List.getD, this]
theorem il_ext {l m : List Int} (h : l.length = m.length) (he : ∀ i, i < l.length → l.getD i 0 = m.getD i 0) : l = m := by
  refine List.ext_getElem h (fun i h1 h2 => ?_)
  have := he i h1
  simpa [List.getD, List.getElem?_eq_getElem h1, List.getElem?_eq_getElem h2] using this

theorem div_up (N c len e : Nat) (hc : c < 2 ^ len) : (N * 2 ^ len + c) / 2 ^ (e + len) = N / 2 ^ e := by
  rw [Nat.add_comm e len, Nat.pow_add, ← Nat.div_div_eq_div_mul, Nat.mul_comm N, Nat.mul_add_div (Nat.two_pow_pos len), Nat.div_eq_of_lt hc, Nat.add_zero]
theorem fullB_keep (N n c len : Nat) (hc : c < 2 ^ len) : (fullB (N * 2 ^ len + c) (n + len)).take (n / 8) = fullB N n := by
  have hle : n / 8 ≤ (n + len) / 8 := Nat.div_le_div_right (by omega)
  refine il_ext (by rw [List.length_take, fullB_length, fullB_length]; omega) (fun i hi => ?_)
  rw [List.length_take, fullB_length] at hi
  have e : ((fullB (N * 2 ^ len + c) (n + len)).take (n / 8)).getD i 0 = (fullB (N * 2 ^ len + c) (n + len)).getD i 0 := by
    simp [List.getD, List.getElem?_take_of_lt (show i < n / 8 from by omega)]
  rw [e, fullB_getD _ _ _ (by omega), fullB_getD _ _ _ (by omega)]
  rw [show n + len - 8 * (i + 1) = (n - 8 * (i + 1)) + len from by omega, div_up N c len _ hc]

theorem or_low (x c len : Nat) (hlen : len ≤ 15) (hc : c < 2 ^ len) : (x * 2 ^ len % 4294967296) ||| c = (x * 2 ^ len + c) % 4294967296 := by
  have e : (4294967296 : Nat) = 2 ^ len * 2 ^ (32 - len) := by
    rw [← Nat.pow_add, show len + (32 - len) = 32 from by omega]
  have h1 : x * 2 ^ len % 4294967296 = (x % 2 ^ (32 - len)) * 2 ^ len := by
    rw [e, Nat.mul_comm x, Nat.mul_mod_mul_left, Nat.mul_comm]
  rw [h1]
  have h2 := Nat.shiftLeft_add_eq_or_of_lt hc (x % 2 ^ (32 - len))
  rw [Nat.shiftLeft_eq] at h2
  rw [← h2, Nat.add_mod, h1]
  have h3 : x % 2 ^ (32 - len) < 2 ^ (32 - len) := Nat.mod_lt _ (Nat.two_pow_pos _)
  have h4 : (x % 2 ^ (32 - len)) * 2 ^ len + 2 ^ len ≤ 4294967296 := by
    have : (x % 2 ^ (32 - len) + 1) * 2 ^ len ≤ 2 ^ (32 - len) * 2 ^ len := Nat.mul_le_mul_right _ h3
    rw [Nat.add_mul, Nat.one_mul, Nat.mul_comm (2 ^ (32 - len)), ← e] at this
    exact this
  rw [Nat.mod_eq_of_lt (show c < 4294967296 from by omega), Nat.mod_eq_of_lt (show (x % 2 ^ (32 - len)) * 2 ^ len + c < 4294967296 from by omega)]

theorem byte_low (N e : Nat) (he : e ≤ 14) : N % 4294967296 / 2 ^ e % 256 = N / 2 ^ e % 256 := by
  have h : ∀ e, e ≤ 14 → N % 4294967296 / 2 ^ e % 256 = N / 2 ^ e % 256 := by
    intro e he
    match e, he with
    | 0, _ => omega
    | 1, _ => omega
    | 2, _ => omega
    | 3, _ => omega
    | 4, _ => omega
    | 5, _ => omega
    | 6, _ => omega
    | 7, _ => omega
    | 8, _ => omega
    | 9, _ => omega
    | 10, _ => omega
    | 11, _ => omega
    | 12, _ => omega
    | 13, _ => omega
    | 14, _ => omega
  exact h e he

theorem mod_step (N len c : Nat) : (N % 4294967296 * 2 ^ len + c) % 4294967296 = (N * 2 ^ len + c) % 4294967296 := by
  rw [Nat.add_mod, Nat.mul_mod, Nat.mod_mod, ← Nat.mul_mod, ← Nat.add_mod]
end Hf
end Go.Proofs.Ytgecoiakhmnilab
/-
  Plain facts: what the merging of two sorted stretches that stand side by side owes, step by step.
-/
namespace Go.Proofs.Ytgecoiakhmnilab
namespace Hf

/-- A row whose numbers from a to b stand otherwise. -/
structure Same (a b : Nat) (o X : List Int) : Prop where
  perm : X.Perm o
  out : ∀ p, p < a ∨ b ≤ p → X.getD p 0 = o.getD p 0
theorem Sorted.same {cs : List Int} {a b : Nat} {o X : List Int} (h : Sorted cs a b o X) : Same a b o X := ⟨h.perm, h.out⟩
theorem ext_getD {l m : List Int} (hl : l.length = m.length) (h : ∀ p, p < l.length → l.getD p 0 = m.getD p 0) : l = m := by
  refine List.ext_getElem hl (fun i h1 h2 => ?_)
  have := h i h1
  simpa [List.getD, List.getElem?_eq_getElem h1, List.getElem?_eq_getElem h2] using this
theorem getD_take' (l : List Int) (n p : Nat) (h : p < n) : (l.take n).getD p 0 = l.getD p 0 := by
  simp only [List.getD, List.getElem?_take, if_pos h]
theorem getD_drop' (l : List Int) (n p : Nat) : (l.drop n).getD p 0 = l.getD (n + p) 0 := by
  simp only [List.getD, List.getElem?_drop]
theorem mem_getD {l : List Int} {u : Int} (h : u ∈ l) : ∃ p, p < l.length ∧ l.getD p 0 = u := by
  obtain ⟨p, hp, e⟩ := List.getElem_of_mem h
  exact ⟨p, hp, by simp [List.getD, List.getElem?_eq_getElem hp, e]⟩
theorem getD_in {l : List Int} (p : Nat) (h : p < l.length) : l.getD p 0 ∈ l := by
  have e : l.getD p 0 = l[p] := by simp [List.getD, List.getElem?_eq_getElem h]
  rw [e]; exact List.getElem_mem h
theorem cut3 (l : List Int) (a k : Nat) : l = l.take a ++ ((l.drop a).take k ++ l.drop (a + k)) := by
  have h1 : (l.drop a).take k ++ l.drop (a + k) = l.drop a := by
    rw [← List.drop_drop]; exact List.take_append_drop k (l.drop a)
  rw [h1, List.take_append_drop]
theorem Same.mem {a b : Nat} {o X : List Int} (h : Same a b o X) (hb : b ≤ o.length) (p : Nat) (h1 : a ≤ p) (h2 : p < b) : ∃ q, a ≤ q ∧ q < b ∧ X.getD p 0 = o.getD q 0 := by
  obtain ⟨k, rfl⟩ : ∃ k, b = a + k := ⟨b - a, by omega⟩
  have hl := h.perm.length_eq
  have e1 : X.take a = o.take a := ext_getD (by simp [hl]) (fun q hq => by
    rw [List.length_take] at hq
    rw [getD_take' _ _ _ (by omega), getD_take' _ _ _ (by omega)]
    exact h.out q (by omega))
  have e2 : X.drop (a + k) = o.drop (a + k) := ext_getD (by simp [hl]) (fun q _ => by
    rw [getD_drop', getD_drop']
    exact h.out _ (by omega))
  have hp := h.perm
  rw [cut3 X a k, cut3 o a k, e1, e2] at hp
  have hp2 := (List.perm_append_right_iff _).1 ((List.perm_append_left_iff _).1 hp)
  have hm : X.getD p 0 ∈ (X.drop a).take k := by
    have e3 : ((X.drop a).take k).getD (p - a) 0 = X.getD p 0 := by
      rw [getD_take' _ _ _ (by omega), getD_drop']; congr 1; omega
    rw [← e3]
    exact getD_in _ (by rw [List.length_take, List.length_drop]; omega)
  obtain ⟨q, hq, e⟩ := mem_getD (hp2.subset hm)
  rw [List.length_take, List.length_drop] at hq
  refine ⟨a + q, by omega, by omega, ?_⟩
  rw [← e, getD_take' _ _ _ (by omega), getD_drop']

/-- Two sorted stretches side by side; every number of the first is less than every one of the second. -/
structure Mrg (cs : List Int) (a m b : Nat) (o : List Int) : Prop where
  lo : ∀ p q, a ≤ p → p < q → q < m → Lx cs (o.getD p 0) (o.getD q 0)
  hi : ∀ p q, m ≤ p → p < q → q < b → Lx cs (o.getD p 0) (o.getD q 0)
  less : ∀ p q, a ≤ p → p < m → m ≤ q → q < b → o.getD p 0 < o.getD q 0
theorem Mrg.left {cs : List Int} {a m b : Nat} {o : List Int} (h : Mrg cs a m b o) {p q : Nat} (h1 : a ≤ p) (h2 : p < m) (h3 : m ≤ q) (h4 : q < b) (hk : key cs (o.getD p 0) ≤ key cs (o.getD q 0)) : Lx cs (o.getD p 0) (o.getD q 0) := by
  have := h.less p q h1 h2 h3 h4
  unfold Lx; omega
theorem Mrg.lo' {cs : List Int} {a m b : Nat} {o : List Int} (h : Mrg cs a m b o) {x : Int} {p q : Nat} (h1 : a ≤ p) (h2 : p ≤ q) (h3 : q < m) (hx : Lx cs (o.getD q 0) x) : Lx cs (o.getD p 0) x := by
  by_cases e : p = q
  · rw [e]; exact hx
  · exact (h.lo p q h1 (by omega) h3).trans hx
theorem Mrg.lo'' {cs : List Int} {a m b : Nat} {o : List Int} (h : Mrg cs a m b o) {x : Int} {p q : Nat} (h1 : a ≤ p) (h2 : p ≤ q) (h3 : q < m) (hx : Lx cs x (o.getD p 0)) : Lx cs x (o.getD q 0) := by
  by_cases e : p = q
  · rw [← e]; exact hx
  · exact hx.trans (h.lo p q h1 (by omega) h3)
theorem Mrg.hi' {cs : List Int} {a m b : Nat} {o : List Int} (h : Mrg cs a m b o) {x : Int} {p q : Nat} (h1 : m ≤ p) (h2 : p ≤ q) (h3 : q < b) (hx : Lx cs (o.getD q 0) x) : Lx cs (o.getD p 0) x := by
  by_cases e : p = q
  · rw [e]; exact hx
  · exact (h.hi p q h1 (by omega) h3).trans hx
theorem Mrg.hi'' {cs : List Int} {a m b : Nat} {o : List Int} (h : Mrg cs a m b o) {x : Int} {p q : Nat} (h1 : m ≤ p) (h2 : p ≤ q) (h3 : q < b) (hx : Lx cs x (o.getD p 0)) : Lx cs x (o.getD q 0) := by
  by_cases e : p = q
  · rw [← e]; exact hx
  · exact hx.trans (h.hi p q h1 (by omega) h3)

/-- The first number of a stretch on its way up: it stands at k. -/
structure Up (a k : Nat) (o X : List Int) : Prop where
  perm : X.Perm o
  at' : ∀ p, X.getD p 0 = if a ≤ p ∧ p < k then o.getD (p + 1) 0 else if p = k then o.getD a 0 else o.getD p 0
theorem Up.start (a : Nat) (o : List Int) : Up a a o o := ⟨List.Perm.refl _, fun p => by
  rw [if_neg (by omega)]
  by_cases e : p = a
  · rw [if_pos e, e]
  · rw [if_neg e]⟩
theorem Up.step {a k : Nat} {o X : List Int} (h : Up a k o X) (ha : a ≤ k) (hl : k + 1 < X.length) : Up a (k + 1) o (swapL X k (k + 1)) := by
  refine ⟨(swapL_perm X _ _ (by omega) hl).trans h.perm, fun p => ?_⟩
  rw [swapL_getD X _ _ _ (by omega) hl, h.at', h.at', h.at']
  by_cases e1 : p = k + 1
  · subst e1
    rw [if_pos rfl, if_neg (by omega), if_pos rfl, if_neg (by omega), if_pos rfl]
  · rw [if_neg e1, if_neg e1]
    by_cases e2 : p = k
    · subst e2
      rw [if_pos rfl, if_neg (by omega), if_neg (by omega), if_pos (by omega)]
    · rw [if_neg e2, if_neg e2]
      by_cases e3 : a ≤ p ∧ p < k
      · rw [if_pos e3, if_pos (by omega)]
      · rw [if_neg e3, if_neg (by omega)]
theorem Up.sorted {cs : List Int} {a b i : Nat} {o X : List Int} (hm : Mrg cs a (a + 1) b o) (hi : a + 1 ≤ i) (hib : i ≤ b) (h1 : i = a + 1 ∨ key cs (o.getD (i - 1) 0) < key cs (o.getD a 0)) (h2 : i = b ∨ key cs (o.getD a 0) ≤ key cs (o.getD i 0)) (h : Up a (i - 1) o X) : Sorted cs a b o X := by
  have hl1 : ∀ q, a + 1 ≤ q → q < i → Lx cs (o.getD q 0) (o.getD a 0) := fun q e1 e2 => by
    rcases h1 with h1 | h1
    · omega
    · exact hm.hi' e1 (show q ≤ i - 1 by omega) (by omega) (Or.inl h1)
  have hl2 : ∀ q, i ≤ q → q < b → Lx cs (o.getD a 0) (o.getD q 0) := fun q e1 e2 => by
    rcases h2 with h2 | h2
    · omega
    · exact hm.hi'' hi e1 e2 (hm.left (Nat.le_refl _) (by omega) hi (by omega) h2)
  refine ⟨h.perm, fun p hp => ?_, fun p q e1 e2 e3 => ?_⟩
  · rw [h.at', if_neg (by omega), if_neg (by omega)]
  · rw [h.at', h.at']
    by_cases c1 : p < i - 1
    · rw [if_pos ⟨e1, c1⟩]
      by_cases c2 : q < i - 1
      · rw [if_pos (by omega)]; exact hm.hi _ _ (by omega) (by omega) (by omega)
      · rw [if_neg (by omega)]
        by_cases c3 : q = i - 1
        · rw [if_pos c3]; exact hl1 _ (by omega) (by omega)
        · rw [if_neg c3]; exact hm.hi _ _ (by omega) (by omega) e3
    · rw [if_neg (by omega), if_neg (show ¬ (a ≤ q ∧ q < i - 1) by omega), if_neg (show q ≠ i - 1 by omega)]
      by_cases c3 : p = i - 1
      · rw [if_pos c3]; exact hl2 _ (by omega) e3
      · rw [if_neg c3]; exact hm.hi _ _ (by omega) e2 e3

/-- The last number of a stretch on its way down: it stands at k. -/
structure Dn (k m : Nat) (o X : List Int) : Prop where
  perm : X.Perm o
  at' : ∀ p, X.getD p 0 = if k < p ∧ p ≤ m then o.getD (p - 1) 0 else if p = k then o.getD m 0 else o.getD p 0
theorem Dn.start (m : Nat) (o : List Int) : Dn m m o o := ⟨List.Perm.refl _, fun p => by
  rw [if_neg (by omega)]
  by_cases e : p = m
  · rw [if_pos e, e]
  · rw [if_neg e]⟩
theorem Dn.step {k m : Nat} {o X : List Int} (h : Dn (k + 1) m o X) (hk : k + 1 ≤ m) (hl : k + 1 < X.length) : Dn k m o (swapL X (k + 1) k) := by
  refine ⟨(swapL_perm X _ _ hl (by omega)).trans h.perm, fun p => ?_⟩
  rw [swapL_getD X _ _ _ hl (by omega), h.at', h.at', h.at']
  by_cases e1 : p = k
  · subst e1
    rw [if_pos rfl, if_neg (by omega), if_pos rfl, if_neg (by omega), if_pos rfl]
  · rw [if_neg e1, if_neg e1]
    by_cases e2 : p = k + 1
    · subst e2
      rw [if_pos rfl, if_neg (by omega), if_neg (by omega), if_pos (by omega)]
      rfl
    · rw [if_neg e2, if_neg e2]
      by_cases e3 : k + 1 < p ∧ p ≤ m
      · rw [if_pos e3, if_pos (by omega)]
      · rw [if_neg e3, if_neg (by omega)]
theorem Dn.sorted {cs : List Int} {a m i : Nat} {o X : List Int} (hm : Mrg cs a m (m + 1) o) (hi : a ≤ i) (him : i ≤ m) (h1 : i = a ∨ key cs (o.getD (i - 1) 0) ≤ key cs (o.getD m 0)) (h2 : i = m ∨ key cs (o.getD m 0) < key cs (o.getD i 0)) (h : Dn i m o X) : Sorted cs a (m + 1) o X := by
  have hl1 : ∀ q, a ≤ q → q < i → Lx cs (o.getD q 0) (o.getD m 0) := fun q e1 e2 => by
    rcases h1 with h1 | h1
    · omega
    · exact hm.lo' e1 (show q ≤ i - 1 by omega) (by omega) (hm.left (by omega) (by omega) (Nat.le_refl _) (by omega) h1)
  have hl2 : ∀ q, i ≤ q → q < m → Lx cs (o.getD m 0) (o.getD q 0) := fun q e1 e2 => by
    rcases h2 with h2 | h2
    · omega
    · exact hm.lo'' hi e1 e2 (Or.inl h2)
  refine ⟨h.perm, fun p hp => ?_, fun p q e1 e2 e3 => ?_⟩
  · rw [h.at', if_neg (by omega)]
    by_cases c : p = i
    · omega
    · rw [if_neg c]
  · rw [h.at', h.at']
    by_cases c1 : p < i
    · rw [if_neg (by omega), if_neg (show p ≠ i by omega)]
      by_cases c2 : q < i
      · rw [if_neg (by omega), if_neg (show q ≠ i by omega)]; exact hm.lo _ _ e1 e2 (by omega)
      · by_cases c3 : q = i
        · rw [if_neg (by omega), if_pos c3]; exact hl1 _ e1 c1
        · rw [if_pos (by omega)]; exact hm.lo _ _ e1 (by omega) (by omega)
    · rw [if_pos (show i < q ∧ q ≤ m by omega)]
      by_cases c3 : p = i
      · rw [if_neg (by omega), if_pos c3]; exact hl2 _ (by omega) (by omega)
      · rw [if_pos (by omega)]; exact hm.lo _ _ (by omega) (by omega) (by omega)

/-- Two stretches, cut at s and e, the inner parts exchanged. -/
structure Turned (a m b mid s e : Nat) (o Y : List Int) : Prop where
  perm : Y.Perm o
  sum : s + e = mid + m
  sm : s ≤ m
  me : m ≤ e
  as : a ≤ s
  eb : e ≤ b
  smid : s ≤ mid
  mide : mid ≤ e
  at' : ∀ p, Y.getD p 0 = o.getD (if s ≤ p ∧ p < mid then p + (m - s) else if mid ≤ p ∧ p < e then p - (e - m) else p) 0
/-- Where the search for the cut ends. -/
structure Cutd (cs : List Int) (a m b mid s : Nat) (o : List Int) : Prop where
  low : (m > mid ∧ s = mid + m - b) ∨ (m ≤ mid ∧ s = a) ∨ Lx cs (o.getD (s - 1) 0) (o.getD (mid + m - s) 0)
  high : (m > mid ∧ s = mid) ∨ (m ≤ mid ∧ s = m) ∨ Lx cs (o.getD (mid + m - 1 - s) 0) (o.getD s 0)
theorem Turned.first {cs : List Int} {a m b mid s e : Nat} {o Y : List Int} (hm : Mrg cs a m b o) (h : Turned a m b mid s e o Y) : Mrg cs a s mid Y := by
  obtain ⟨_, h1, h2, h3, h4, h5, h6, h7, hat⟩ := h
  refine ⟨fun p q e1 e2 e3 => ?_, fun p q e1 e2 e3 => ?_, fun p q e1 e2 e3 e4 => ?_⟩
  · rw [hat, hat, if_neg (by omega), if_neg (by omega), if_neg (by omega), if_neg (by omega)]; exact hm.lo _ _ e1 e2 (by omega)
  · rw [hat, hat, if_pos (by omega), if_pos (by omega)]; exact hm.hi _ _ (by omega) (by omega) (by omega)
  · rw [hat, hat, if_neg (by omega), if_neg (by omega), if_pos (by omega)]; exact hm.less _ _ e1 (by omega) (by omega) (by omega)
theorem Turned.second {cs : List Int} {a m b mid s e : Nat} {o Y Z : List Int} (hm : Mrg cs a m b o) (h : Turned a m b mid s e o Y) (hz : Same a mid Y Z) : Mrg cs mid e b Z := by
  obtain ⟨_, h1, h2, h3, h4, h5, h6, h7, hat⟩ := h
  refine ⟨fun p q e1 e2 e3 => ?_, fun p q e1 e2 e3 => ?_, fun p q e1 e2 e3 e4 => ?_⟩
  · rw [hz.out p (by omega), hz.out q (by omega), hat, hat, if_neg (by omega), if_pos (by omega), if_neg (by omega), if_pos (by omega)]; exact hm.lo _ _ (by omega) (by omega) (by omega)
  · rw [hz.out p (by omega), hz.out q (by omega), hat, hat, if_neg (by omega), if_neg (by omega), if_neg (by omega), if_neg (by omega)]; exact hm.hi _ _ (by omega) (by omega) (by omega)
  · rw [hz.out p (by omega), hz.out q (by omega), hat, hat, if_neg (by omega), if_pos (by omega), if_neg (by omega), if_neg (by omega)]; exact hm.less _ _ (by omega) (by omega) (by omega) (by omega)
theorem Turned.cross {cs : List Int} {a m b mid s e : Nat} {o Y : List Int} (hm : Mrg cs a m b o) (h : Turned a m b mid s e o Y) (hc : Cutd cs a m b mid s o) : ∀ p q, a ≤ p → p < mid → mid ≤ q → q < b → Lx cs (Y.getD p 0) (Y.getD q 0) := by
  obtain ⟨_, h1, h2, h3, h4, h5, h6, h7, hat⟩ := h
  intro p q e1 e2 e3 e4
  rw [hat, hat]
  by_cases c1 : p < s
  · rw [if_neg (by omega), if_neg (by omega)]
    by_cases c2 : q < e
    · rw [if_neg (by omega), if_pos (by omega)]; exact hm.lo _ _ e1 (by omega) (by omega)
    · rw [if_neg (by omega), if_neg (by omega)]
      rcases hc.low with c | c | c
      · omega
      · omega
      · rw [show mid + m - s = e by omega] at c
        exact hm.hi'' h3 (show e ≤ q by omega) e4 (hm.lo' e1 (show p ≤ s - 1 by omega) (by omega) c)
  · rw [if_pos (by omega)]
    by_cases c2 : q < e
    · rw [if_neg (by omega), if_pos (by omega)]
      rcases hc.high with c | c | c
      · omega
      · omega
      · rw [show mid + m - 1 - s = e - 1 by omega] at c
        exact hm.lo'' h4 (show s ≤ q - (e - m) by omega) (by omega) (hm.hi' (by omega) (show p + (m - s) ≤ e - 1 by omega) (by omega) c)
    · rw [if_neg (by omega), if_neg (by omega)]; exact hm.hi _ _ (by omega) (by omega) e4
theorem Turned.same {a m b mid s e : Nat} {o Y : List Int} (h : Turned a m b mid s e o Y) : Same a b o Y := by
  obtain ⟨hp, h1, h2, h3, h4, h5, h6, h7, hat⟩ := h
  exact ⟨hp, fun p hp => by rw [hat, if_neg (by omega), if_neg (by omega)]⟩
theorem merged {cs : List Int} {a m b mid s e : Nat} {o Y Z1 Z2 : List Int} (hb : b ≤ o.length) (hm : Mrg cs a m b o) (h : Turned a m b mid s e o Y) (hc : Cutd cs a m b mid s o) (h1 : Sorted cs a mid Y Z1) (h2 : Sorted cs mid b Z1 Z2) : Sorted cs a b o Z2 := by
  have hx := Turned.cross hm h hc
  have hs := h.same
  have hamid : a ≤ mid := Nat.le_trans h.as h.smid
  have hmidb : mid ≤ b := Nat.le_trans h.mide h.eb
  refine ⟨h2.perm.trans (h1.perm.trans h.perm), fun p hp => ?_, fun p q e1 e2 e3 => ?_⟩
  · rw [h2.out p (by omega), h1.out p (by omega)]; exact hs.out p hp
  · by_cases c1 : q < mid
    · rw [h2.out p (by omega), h2.out q (by omega)]; exact h1.ord p q e1 e2 c1
    · by_cases c2 : mid ≤ p
      · exact h2.ord p q c2 e2 e3
      · rw [h2.out p (by omega)]
        obtain ⟨p', p1, p2, pe⟩ := h1.same.mem (by rw [h.perm.length_eq]; omega) p e1 (by omega)
        obtain ⟨q', q1, q2, qe⟩ := h2.same.mem (by rw [h1.perm.length_eq, h.perm.length_eq]; omega) q (by omega) e3
        rw [pe, qe, h1.out q' (by omega)]
        exact hx p' q' p1 p2 q1 q2
/-- A stretch that is in order already. -/
theorem Mrg.one {cs : List Int} {a m b : Nat} {o : List Int} (hm : Mrg cs a m b o) (h : m = a ∨ m = b) : Sorted cs a b o o := by
  refine ⟨List.Perm.refl _, fun _ _ => rfl, fun p q e1 e2 e3 => ?_⟩
  rcases h with h | h
  · exact hm.hi p q (by omega) e2 e3
  · exact hm.lo p q e1 e2 (by omega)
theorem Turned.still {a m b mid s e : Nat} {o : List Int} (hsum : s + e = mid + m) (h1 : a ≤ s) (h2 : s ≤ m) (h3 : m ≤ e) (h4 : e ≤ b) (h5 : s ≤ mid) (h6 : mid ≤ e) (h : s = m ∨ m = e) : Turned a m b mid s e o o := by
  refine ⟨List.Perm.refl _, hsum, h2, h3, h1, h4, h5, h6, fun p => ?_⟩
  congr 1
  repeat' split
  all_goals omega
end Hf
end Go.Proofs.Ytgecoiakhmnilab
/-
  Plain facts on codes, and on symbols as bits.
-/
namespace Go.Proofs.Ytgecoiakhmnilab
namespace Hf

theorem first_wsum (zs : List Int) (k : Nat) (hk : k ≤ 15) : first zs k * 2 ^ (15 - k) = wsum zs k := by
  induction k with
  | zero => simp [first, wsum]
  | succ k ih =>
    have ih := ih (by omega)
    rw [first, wsum, ← ih, Nat.mul_assoc, show 2 * 2 ^ (15 - (k + 1)) = 2 ^ (15 - k) from by rw [show 15 - k = (15 - (k + 1)) + 1 from by omega, Nat.pow_succ]; omega, Nat.add_mul]
theorem wsum_mono (zs : List Int) (k n : Nat) : wsum zs k ≤ wsum zs (k + n) := by
  induction n with
  | zero => exact Nat.le_refl _
  | succ n ih => rw [← Nat.add_assoc, wsum]; omega
theorem wsum_tal (zs : List Int) (l : List Nat) (h : tal zs = l) (k : Nat) (hk : k ≤ 16) : wsum zs k = ((List.range k).map (fun i => l.getD i 0 * 2 ^ (15 - i))).sum := by
  induction k with
  | zero => rfl
  | succ k ih =>
    rw [wsum, ih (by omega), List.range_succ, List.map_append, List.sum_append, ← h]
    simp only [List.map_cons, List.map_nil, List.sum_cons, List.sum_nil, Nat.add_zero, tal_getD zs k (show k < 16 by omega)]
theorem wsum_top {zs : List Int} (h : checkB zs = true) : wsum zs 16 ≤ 32768 := by
  unfold checkB okT at h
  rw [Bool.and_eq_true, Bool.or_eq_true, Bool.or_eq_true, beq_iff_eq, beq_iff_eq, beq_iff_eq] at h
  rcases h.2 with (h | h) | h
  · omega
  · rw [wsum_tal zs _ h 16 (Nat.le_refl _)]; decide
  · rw [wsum_tal zs _ h 16 (Nat.le_refl _)]; decide
theorem first_cnt_le {zs : List Int} (h : checkB zs = true) (l : Nat) (hl : l ≤ 15) : first zs l + cnt zs l ≤ 2 ^ l := by
  have h1 : (first zs l + cnt zs l) * 2 ^ (15 - l) = wsum zs (l + 1) := by rw [Nat.add_mul, first_wsum zs l hl, wsum]
  have h2 := wsum_mono zs (l + 1) (16 - (l + 1))
  rw [show l + 1 + (16 - (l + 1)) = 16 from by omega] at h2
  have h3 := wsum_top h
  have h4 : (first zs l + cnt zs l) * 2 ^ (15 - l) ≤ 2 ^ l * 2 ^ (15 - l) := by
    rw [h1, ← Nat.pow_add, show l + (15 - l) = 15 from by omega]; omega
  exact Nat.le_of_mul_le_mul_right h4 (Nat.two_pow_pos _)
theorem countP_take_lt (p : Int → Bool) (zs : List Int) (s : Nat) (hs : s < zs.length) (h : p (zs.getD s 0) = true) : (zs.take s).countP p < zs.countP p := by
  have e : zs.countP p = (zs.take s).countP p + (zs.drop s).countP p := by
    rw [← List.countP_append, List.take_append_drop]
  have e2 : zs.drop s = zs.getD s 0 :: zs.drop (s + 1) := by
    rw [List.drop_eq_getElem_cons hs]
    simp [List.getD, List.getElem?_eq_getElem hs]
  rw [e, e2, List.countP_cons, if_pos h]
  omega
theorem cnt_take_lt (zs : List Int) (s l : Nat) (hs : s < zs.length) (hz : zs.getD s 0 = (l : Int)) (h0 : 0 < l) : cnt (zs.take s) l < cnt zs l := by
  unfold cnt
  rw [if_neg (by omega), if_neg (by omega)]
  exact countP_take_lt _ zs s hs (by rw [hz]; simp)
theorem codeN_lt {zs : List Int} (h : checkB zs = true) (s l : Nat) (hs : s < zs.length) (hz : zs.getD s 0 = (l : Int)) (h0 : 0 < l) (hl : l ≤ 15) : codeN zs s < 2 ^ l := by
  have h1 := first_cnt_le h l hl
  have h2 := cnt_take_lt zs s l hs hz h0
  unfold codeN
  rw [hz, Int.toNat_natCast]
  omega
theorem codeF_lt {zs : List Int} (h : checkB zs = true) (s l : Nat) (hs : s < zs.length) (hz : zs.getD s 0 = (l : Int)) (h0 : 0 < l) (hl : l ≤ 15) : codeF zs s = ((codeN zs s : Nat) : Int) := by
  have h1 := codeN_lt h s l hs hz h0 hl
  have h2 : 2 ^ l ≤ 2 ^ 15 := Nat.pow_le_pow_right (by decide) hl
  unfold codeF
  rw [if_pos (by rw [hz]; omega), Nat.mod_eq_of_lt (by omega)]

/-- The number of the first k symbols' bits, and how many they are. -/
def symL (zs ys : List Int) (k : Nat) : Nat := (zs.getD (ys.getD k 0).toNat 0).toNat
def symC (zs ys : List Int) (k : Nat) : Nat := codeN zs (ys.getD k 0).toNat
def encN (zs ys : List Int) : Nat → Nat
  | 0 => 0
  | k + 1 => encN zs ys k * 2 ^ symL zs ys k + symC zs ys k
def encL (zs ys : List Int) : Nat → Nat
  | 0 => 0
  | k + 1 => encL zs ys k + symL zs ys k

/-- A symbol that has a code. -/
def has (zs : List Int) (s : Int) : Bool := decide (0 ≤ s) && decide (s < (zs.length : Int)) && zs.getD s.toNat 0 != 0

/-- Bits with zeros behind them, so that they fill bytes. -/
def padN (n : Nat) : Nat := if n % 8 = 0 then 0 else 8 - n % 8
def packN (N n : Nat) : List Int := fullB (N * 2 ^ padN n) (n + padN n)
theorem packN_rng (N n j : Nat) : 0 ≤ (packN N n).getD j 0 ∧ (packN N n).getD j 0 ≤ 255 := fullB_rng _ _ _
theorem packN_length (N n : Nat) : (packN N n).length = (n + 7) / 8 := by
  unfold packN padN
  rw [fullB_length]
  split <;> omega

theorem encL_le (zs ys : List Int) (hz : ∀ k, zs.getD k 0 ≤ 15) (k : Nat) : encL zs ys k ≤ 15 * k := by
  induction k with
  | zero => simp [encL]
  | succ k ih =>
    have := hz (ys.getD k 0).toNat
    unfold encL symL
    omega
end Hf
end Go.Proofs.Ytgecoiakhmnilab
/-
  Plain facts on rows of bits, and how they stand in bytes.
-/
namespace Go.Proofs.Ytgecoiakhmnilab
namespace Hf

/-- The number of the first k bits. -/
def nB (bs : List Bool) : Nat → Nat
  | 0 => 0
  | k + 1 => nB bs k * 2 + (if bs.getD k false then 1 else 0)

def bitAt (c n i : Nat) : Bool := c / 2 ^ (n - 1 - i) % 2 == 1
def bitsL (c n : Nat) : List Bool := (List.range n).map (bitAt c n)
theorem bitsL_length (c n : Nat) : (bitsL c n).length = n := by simp [bitsL]
theorem bitsL_getD (c n i : Nat) (h : i < n) : (bitsL c n).getD i false = bitAt c n i := by simp [bitsL, List.getD, h]
/-- The last j bits of a code. -/
def backL (c n j : Nat) : List Bool := (List.range n).map (fun i => if n - j ≤ i then bitAt c n i else false)
theorem backL_length (c n j : Nat) : (backL c n j).length = n := by simp [backL]
theorem backL_getD (c n j i : Nat) (h : i < n) : (backL c n j).getD i false = if n - j ≤ i then bitAt c n i else false := by simp [backL, List.getD, h]
theorem bl_ext {l m : List Bool} (h : l.length = m.length) (he : ∀ i, i < l.length → l.getD i false = m.getD i false) : l = m := by
  refine List.ext_getElem h (fun i h1 h2 => ?_)
  have := he i h1
  simpa [List.getD, List.getElem?_eq_getElem h1, List.getElem?_eq_getElem h2] using this
theorem bgetD_set (l : List Bool) (i j : Nat) (v : Bool) (h : i < l.length) : (l.set i v).getD j false = if j = i then v else l.getD j false := by
  simp only [List.getD, List.getElem?_set]
  by_cases e : i = j
  · subst e; simp [h]
  · rw [if_neg e, if_neg (fun x => e x.symm)]
theorem backL_zero (c n : Nat) : backL c n 0 = List.replicate n false := by
  refine bl_ext (by simp [backL]) (fun i hi => ?_)
  rw [backL_length] at hi
  rw [backL_getD _ _ _ _ hi, if_neg (by omega)]
  simp [List.getD, hi]
theorem backL_full (c n : Nat) : backL c n n = bitsL c n := by
  refine bl_ext (by simp [backL, bitsL]) (fun i hi => ?_)
  rw [backL_length] at hi
  rw [backL_getD _ _ _ _ hi, bitsL_getD _ _ _ hi, if_pos (by omega)]
theorem backL_set (c n j : Nat) (hj : j < n) : (backL c n j).set (n - 1 - j) (c / 2 ^ j % 2 == 1) = backL c n (j + 1) := by
  refine bl_ext (by simp [backL]) (fun i hi => ?_)
  rw [List.length_set, backL_length] at hi
  rw [bgetD_set _ _ _ _ (by rw [backL_length]; omega), backL_getD _ _ _ _ hi, backL_getD _ _ _ _ hi]
  by_cases e : i = n - 1 - j
  · rw [if_pos e, if_pos (by omega)]
    unfold bitAt
    rw [show n - 1 - i = j from by omega]
  · rw [if_neg e]
    by_cases h : n - j ≤ i
    · rw [if_pos h, if_pos (by omega)]
    · rw [if_neg h, if_neg (by omega)]

theorem bitAt_num (c n i : Nat) : (if bitAt c n i then 1 else 0) = c / 2 ^ (n - 1 - i) % 2 := by
  unfold bitAt
  by_cases h : c / 2 ^ (n - 1 - i) % 2 = 1
  · simp [h]
  · simp [h]; omega
theorem nB_bits (c n : Nat) (hc : c < 2 ^ n) (j : Nat) (hj : j ≤ n) : nB (bitsL c n) j = c / 2 ^ (n - j) := by
  induction j with
  | zero => rw [nB, Nat.sub_zero, Nat.div_eq_of_lt hc]
  | succ j ih =>
    rw [nB, ih (by omega), bitsL_getD _ _ _ (by omega), bitAt_num]
    rw [show n - j = (n - (j + 1)) + 1 from by omega, show n - 1 - j = n - (j + 1) from by omega, Nat.pow_succ, ← Nat.div_div_eq_div_mul]
    omega
theorem nB_take (xs ys : List Bool) (j : Nat) (hj : j ≤ xs.length) : nB (xs ++ ys) j = nB xs j := by
  induction j with
  | zero => rfl
  | succ j ih =>
    rw [nB, nB, ih (by omega)]
    have e : (xs ++ ys).getD j false = xs.getD j false := by simp [List.getD, List.getElem?_append_left (show j < xs.length from by omega)]
    rw [e]
theorem nB_append (xs ys : List Bool) (j : Nat) : nB (xs ++ ys) (xs.length + j) = nB xs xs.length * 2 ^ j + nB ys j := by
  induction j with
  | zero => simp [nB, nB_take xs ys xs.length (Nat.le_refl _)]
  | succ j ih =>
    rw [← Nat.add_assoc, nB, ih]
    have e : (xs ++ ys).getD (xs.length + j) false = ys.getD j false := by simp [List.getD, List.getElem?_append_right (show xs.length ≤ xs.length + j from by omega)]
    rw [e, nB, Nat.pow_succ, Nat.add_mul, Nat.mul_assoc]
    omega
theorem nB_code (xs : List Bool) (c l : Nat) (hc : c < 2 ^ l) : nB (xs ++ bitsL c l) (xs ++ bitsL c l).length = nB xs xs.length * 2 ^ l + c := by
  rw [List.length_append, bitsL_length, nB_append, nB_bits c l hc l (Nat.le_refl _)]
  simp

/-- The bits of the first k symbols. -/
def bitsE (zs ys : List Int) : Nat → List Bool
  | 0 => []
  | k + 1 => bitsE zs ys k ++ bitsL (symC zs ys k) (symL zs ys k)
theorem bitsE_length (zs ys : List Int) (k : Nat) : (bitsE zs ys k).length = encL zs ys k := by
  induction k with
  | zero => rfl
  | succ k ih => rw [bitsE, List.length_append, ih, bitsL_length, encL]
theorem bitsE_num (zs ys : List Int) (k : Nat) (h : ∀ j, j < k → symC zs ys j < 2 ^ symL zs ys j) : nB (bitsE zs ys k) (bitsE zs ys k).length = encN zs ys k := by
  induction k with
  | zero => rfl
  | succ k ih =>
    rw [bitsE, nB_code _ _ _ (h k (by omega)), ih (fun j hj => h j (by omega)), encN]

theorem pad_up (i : Nat) : padN (i + 1) = 7 - i % 8 := by
  unfold padN; split <;> omega
theorem packN_up (M i : Nat) : packN M (i + 1) = fullB (M * 2 ^ (7 - i % 8)) (8 * (i / 8 + 1)) := by
  unfold packN
  rw [pad_up, show i + 1 + (7 - i % 8) = 8 * (i / 8 + 1) from by omega]
theorem pack_even_old (N i : Nat) (h : i % 8 ≠ 0) : packN (N * 2) (i + 1) = packN N i := by
  rw [packN_up]
  unfold packN padN
  rw [if_neg h, show i + (8 - i % 8) = 8 * (i / 8 + 1) from by omega, Nat.mul_assoc, show 2 * 2 ^ (7 - i % 8) = 2 ^ (8 - i % 8) from by rw [show 8 - i % 8 = (7 - i % 8) + 1 from by omega, Nat.pow_succ]; omega]
theorem fullB_cut (N q : Nat) : fullB (N * 256) (8 * (q + 1)) = fullB N (8 * q) ++ [0] := by
  refine il_ext (by rw [List.length_append, fullB_length, fullB_length]; simp) (fun j hj => ?_)
  rw [fullB_length] at hj
  have hq : 8 * (q + 1) / 8 = q + 1 := by omega
  have hq2 : 8 * q / 8 = q := by omega
  rw [hq] at hj
  rw [fullB_getD _ _ _ (by omega)]
  by_cases h : j < q
  · have e : (fullB N (8 * q) ++ [0]).getD j 0 = (fullB N (8 * q)).getD j 0 := by
      simp [List.getD, List.getElem?_append_left (show j < (fullB N (8 * q)).length from by rw [fullB_length]; omega)]
    rw [e, fullB_getD _ _ _ (by omega)]
    have hd := div_up N 0 8 (8 * q - 8 * (j + 1)) (by decide)
    rw [Nat.add_zero, show 8 * q - 8 * (j + 1) + 8 = 8 * (q + 1) - 8 * (j + 1) from by omega] at hd
    rw [show (256 : Nat) = 2 ^ 8 from rfl, hd]
  · obtain rfl : j = q := by omega
    have e : (fullB N (8 * j) ++ [0]).getD j 0 = 0 := by
      simp [List.getD, fullB_length, hq2]
    rw [e, Nat.sub_self, Nat.pow_zero, Nat.div_one, Nat.mul_mod_left]
    rfl
theorem pack_even_new (N i : Nat) (h : i % 8 = 0) : packN (N * 2) (i + 1) = packN N i ++ [0] := by
  rw [packN_up, h, Nat.mul_assoc, show 2 * 2 ^ (7 - 0) = 256 from rfl, fullB_cut]
  unfold packN padN
  rw [if_pos h, Nat.pow_zero, Nat.mul_one, Nat.add_zero, show 8 * (i / 8) = i from by omega]
theorem last_byte (N k : Nat) (hk : k < 8) : (N * 2 + 1) * 2 ^ (7 - k) % 256 = N * 2 * 2 ^ (7 - k) % 256 + 2 ^ (7 - k) := by
  match k, hk with
  | 0, _ => omega
  | 1, _ => omega
  | 2, _ => omega
  | 3, _ => omega
  | 4, _ => omega
  | 5, _ => omega
  | 6, _ => omega
  | 7, _ => omega
theorem high_byte (N k e : Nat) (hk : k < 8) : (N * 2 + 1) * 2 ^ (7 - k) / 2 ^ (e + 8) = N * 2 * 2 ^ (7 - k) / 2 ^ (e + 8) := by
  have e2 : 2 ^ (8 - k) = 2 * 2 ^ (7 - k) := by rw [show 8 - k = (7 - k) + 1 from by omega, Nat.pow_succ]; omega
  have e1 : (N * 2 + 1) * 2 ^ (7 - k) = N * 2 ^ (8 - k) + 2 ^ (7 - k) := by rw [Nat.add_mul, e2, Nat.mul_assoc]; omega
  have e3 : N * 2 * 2 ^ (7 - k) = N * 2 ^ (8 - k) + 0 := by rw [e2, Nat.mul_assoc]; omega
  rw [e1, e3, show e + 8 = (e + k) + (8 - k) from by omega, div_up _ _ _ _ (by rw [e2]; have := Nat.two_pow_pos (7 - k); omega), div_up _ _ _ _ (Nat.two_pow_pos _)]
theorem pack_odd (N i : Nat) : packN (N * 2 + 1) (i + 1) = (packN (N * 2) (i + 1)).set (i / 8) ((packN (N * 2) (i + 1)).getD (i / 8) 0 + ((2 ^ (7 - i % 8) : Nat) : Int)) := by
  have hq : 8 * (i / 8 + 1) / 8 = i / 8 + 1 := by omega
  refine il_ext (by rw [List.length_set, packN_length, packN_length]) (fun j hj => ?_)
  rw [packN_length] at hj
  have hset : ∀ (l : List Int) (a b : Nat) (v : Int), a < l.length → (l.set a v).getD b 0 = if b = a then v else l.getD b 0 := by
    intro l a b v h
    simp only [List.getD, List.getElem?_set]
    by_cases e : a = b
    · subst e; simp [h]
    · rw [if_neg e, if_neg (fun x => e x.symm)]
  rw [hset _ _ _ _ (by rw [packN_length]; omega), packN_up, packN_up, fullB_getD _ _ _ (by omega), fullB_getD _ _ _ (by omega), fullB_getD _ _ _ (by omega)]
  by_cases e : j = i / 8
  · rw [if_pos e, e, Nat.sub_self, Nat.pow_zero, Nat.div_one, Nat.div_one, last_byte N (i % 8) (by omega)]
    simp
  · rw [if_neg e]
    have hh := high_byte N (i % 8) (8 * (i / 8 + 1) - 8 * (j + 1) - 8) (by omega)
    rw [show 8 * (i / 8 + 1) - 8 * (j + 1) - 8 + 8 = 8 * (i / 8 + 1) - 8 * (j + 1) from by omega] at hh
    rw [hh]
end Hf
end Go.Proofs.Ytgecoiakhmnilab
