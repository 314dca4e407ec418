/-
  What List tells, as a function of the files; halfway through them.
-/
import Derived.Test.YtcbjlnabbfkkeaaNmLa
import Derived.Test.YtcbjlnabbfkkeaaNmZ
namespace Go.Proofs.Ytcbjlnabbfkkeaa
open Go.ChangeShapes Go.WideShapes Go.ChangeAt Go.RowKit Go.Deep Go.Lib

/-- The told file i says what f is. -/
def Mt (f : Fl) (i : Fi) : Prop := i.path = f.path ∧ i.size = f.size ∧ i.seq = f.seq ∧ i.ps = f.ps
def preB (s p : ByteArray) : Bool := Lib.hasPrefix s.data.toList p.data.toList
/-- A row of told files, rising, of just the files whose paths begin with p. -/
structure LstP (M : List Fl) (p : ByteArray) (L : List Fi) : Prop where
  sound : ∀ i ∈ L, ∃ f, fnd M i.path = some f ∧ Mt f i ∧ preB i.path p = true
  all : ∀ s f, fnd M s = some f → preB s p = true → ∃ i ∈ L, i.path = s
  rise : L.Pairwise fun x y => ltF x y = true
structure Acc (M : List Fl) (p : ByteArray) (acc : List Fi) (left : Lit → Bool) (cnt : Nat) : Prop where
  sound : ∀ i ∈ acc, ∃ f, fnd M i.path = some f ∧ Mt f i ∧ preB i.path p = true ∧ left (kS i.path) = false
  done : ∀ s f, fnd M s = some f → left (kS s) = false → preB s p = true → ∃ i ∈ acc, i.path = s
  apart : acc.Pairwise fun x y => x.path ≠ y.path
  cnt_ : acc.length + cnt ≤ M.length
theorem Acc.skip {M : List Fl} {p : ByteArray} {acc : List Fi} {left : Lit → Bool} {cnt cnt' : Nat} {f : Fl} (h : Acc M p acc left cnt) (hp : preB f.path p = false) (hc : cnt' < cnt) : Acc M p acc (fun z => left z && !z.sameKey (kS f.path)) cnt' := by
  refine ⟨fun i hi => ?_, fun s g hg hn hs => ?_, h.apart, by have := h.cnt_; omega⟩
  · obtain ⟨g, h1, h2, h3, h4⟩ := h.sound i hi
    exact ⟨g, h1, h2, h3, by simp [h4]⟩
  · refine h.done s g hg ?_ hs
    have hne : s ≠ f.path := fun e => by rw [e, hp] at hs; cases hs
    have hk : (kS s).sameKey (kS f.path) = false := Maps.sameKey_ne (kS_ne hne)
    simpa [hk] using hn
theorem Acc.step {M : List Fl} {p : ByteArray} {acc : List Fi} {left : Lit → Bool} {cnt cnt' : Nat} {f : Fl} {i : Fi} (h : Acc M p acc left cnt) (hf : fnd M f.path = some f) (hl : left (kS f.path) = true) (hm : Mt f i) (hp : preB f.path p = true) (hc : cnt' < cnt) :
    Acc M p (acc ++ [i]) (fun z => left z && !z.sameKey (kS f.path)) cnt' := by
  refine ⟨fun j hj => ?_, fun s g hg hn hs => ?_, ?_, by have := h.cnt_; simp; omega⟩
  · rcases List.mem_append.1 hj with hj | hj
    · obtain ⟨g, h1, h2, h3, h4⟩ := h.sound j hj
      exact ⟨g, h1, h2, h3, by simp [h4]⟩
    · rw [List.mem_singleton.1 hj, hm.1]
      exact ⟨f, hf, hm, hp, by simp [WideAt.sameKey_self (kS_is _)]⟩
  · by_cases e : s = f.path
    · exact ⟨i, by simp, by rw [hm.1, e]⟩
    · have hk : (kS s).sameKey (kS f.path) = false := Maps.sameKey_ne (kS_ne e)
      obtain ⟨j, hj, he⟩ := h.done s g hg (by simpa [hk] using hn) hs
      exact ⟨j, by simp [hj], he⟩
  · rw [List.pairwise_append]
    refine ⟨h.apart, List.pairwise_singleton .., fun x hx y hy e => ?_⟩
    rw [List.mem_singleton.1 hy, hm.1] at e
    obtain ⟨g, _, _, _, h4⟩ := h.sound x hx
    rw [e, hl] at h4
    cases h4
theorem lt_or {x y : Fi} (h1 : ltF x y = false) (h2 : ltF y x = false) : x.path = y.path := by
  rw [ltF_str] at h1 h2
  simp only [Sort.ltStr, decide_eq_false_iff_not, List.not_lt] at h1 h2
  exact ba_inj (List.le_antisymm h2 h1)
theorem LstP.mk' {M : List Fl} {p : ByteArray} {acc L : List Fi} {left : Lit → Bool} {cnt : Nat} (h : Acc M p acc left cnt) (hl : ∀ z, left z = false) (hp : L.Perm acc) (hs : L.Pairwise fun x y => ltF y x = false) : LstP M p L := by
  refine ⟨fun i hi => ?_, fun s f hf hq => ?_, ?_⟩
  · obtain ⟨f, h1, h2, h3, _⟩ := h.sound i (hp.mem_iff.1 hi)
    exact ⟨f, h1, h2, h3⟩
  · obtain ⟨i, hi, e⟩ := h.done s f hf (hl _) hq
    exact ⟨i, hp.mem_iff.2 hi, e⟩
  · have ha : L.Pairwise fun x y => x.path ≠ y.path := (hp.pairwise_iff (fun h e => h e.symm)).2 h.apart
    refine (hs.and ha).imp ?_
    rintro x y ⟨h1, h2⟩
    cases h3 : ltF x y with
    | true => rfl
    | false => exact absurd (lt_or h3 h1) h2
def ltP (a b : ByteArray) : Prop := Op.bytesLess a.toList b.toList = true
theorem ltP_irr (a : ByteArray) : ¬ ltP a a := fun h => by
  have := Sort.swo_ltStr.irrefl a.toList
  unfold ltP at h
  rw [bytesLess_eq] at h
  exact absurd (h.symm.trans this) (by decide)
theorem ltP_asym {a b : ByteArray} (h : ltP a b) : ¬ ltP b a := fun h2 => by
  unfold ltP at h h2
  rw [bytesLess_eq] at h h2
  have := Sort.swo_ltStr.trans _ _ _ h h2
  rw [Sort.swo_ltStr.irrefl] at this
  cases this
theorem rise_eq : ∀ (A B : List ByteArray), A.Pairwise ltP → B.Pairwise ltP → (∀ s, s ∈ A ↔ s ∈ B) → A = B
  | [], [], _, _, _ => rfl
  | [], b :: B, _, _, h => by have := (h b).2 (by simp); cases this
  | a :: A, [], _, _, h => by have := (h a).1 (by simp); cases this
  | a :: A, b :: B, ha, hb, h => by
    rw [List.pairwise_cons] at ha hb
    have hab : a = b := by
      have h1 := (h a).1 (by simp)
      have h2 := (h b).2 (by simp)
      rcases List.mem_cons.1 h1 with h1 | h1
      · exact h1
      · rcases List.mem_cons.1 h2 with h2 | h2
        · exact h2.symm
        · exact absurd (ha.1 b h2) (ltP_asym (hb.1 a h1))
    subst hab
    rw [rise_eq A B ha.2 hb.2 (fun s => ⟨fun hs => ?_, fun hs => ?_⟩)]
    · rcases List.mem_cons.1 ((h s).1 (List.mem_cons_of_mem _ hs)) with e | e
      · subst e; exact absurd (ha.1 s hs) (ltP_irr s)
      · exact e
    · rcases List.mem_cons.1 ((h s).2 (List.mem_cons_of_mem _ hs)) with e | e
      · subst e; exact absurd (hb.1 s hs) (ltP_irr s)
      · exact e
theorem LstP.paths {M : List Fl} {p : ByteArray} {L : List Fi} (h : LstP M p L) : (L.map Fi.path).Pairwise ltP := by
  rw [List.pairwise_map]
  exact h.rise
theorem LstP.mem {M : List Fl} {p : ByteArray} {L : List Fi} (h : LstP M p L) (s : ByteArray) : s ∈ L.map Fi.path ↔ (fnd M s).isSome = true ∧ preB s p = true := by
  constructor
  · intro hs
    obtain ⟨i, hi, rfl⟩ := List.mem_map.1 hs
    obtain ⟨f, h1, _, h3⟩ := h.sound i hi
    exact ⟨by rw [h1]; rfl, h3⟩
  · rintro ⟨h1, h2⟩
    obtain ⟨f, hf⟩ := Option.isSome_iff_exists.1 h1
    obtain ⟨i, hi, e⟩ := h.all s f hf h2
    exact List.mem_map.2 ⟨i, hi, e⟩
/-- Two rows of the same files say the same. -/
theorem LstP.one {M : List Fl} {p : ByteArray} {L L' : List Fi} (h : LstP M p L) (h' : LstP M p L') : L.length = L'.length ∧ ∀ i, i < L.length → Sm (L.getD i fiZ) (L'.getD i fiZ) := by
  have e := rise_eq _ _ h.paths h'.paths (fun s => by rw [h.mem, h'.mem])
  have hl : L.length = L'.length := by have := congrArg List.length e; simpa using this
  refine ⟨hl, fun i hi => ?_⟩
  have hi' : i < L'.length := by omega
  have e1 : L.getD i fiZ = L[i] := by simp [List.getD, List.getElem?_eq_getElem hi]
  have e2 : L'.getD i fiZ = L'[i] := by simp [List.getD, List.getElem?_eq_getElem hi']
  rw [e1, e2]
  have hp : L[i].path = L'[i].path := by
    have := congrArg (fun l => l[i]?) e
    simpa [List.getElem?_map, List.getElem?_eq_getElem hi, List.getElem?_eq_getElem hi'] using this
  obtain ⟨f, h1, h2, _⟩ := h.sound L[i] (List.getElem_mem hi)
  obtain ⟨f', h3, h4, _⟩ := h'.sound L'[i] (List.getElem_mem hi')
  rw [← hp, h1] at h3
  injection h3 with h3
  subst h3
  exact ⟨hp, by rw [h2.2.1, h4.2.1], by rw [h2.2.2.1, h4.2.2.1], by rw [h2.2.2.2, h4.2.2.2]⟩
end Go.Proofs.Ytcbjlnabbfkkeaa
