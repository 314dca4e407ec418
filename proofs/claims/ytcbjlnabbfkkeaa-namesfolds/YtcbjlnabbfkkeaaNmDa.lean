/-
  What the document's Apply makes of its row of files.
-/
import Derived.Test.YtcbjlnabbfkkeaaNmMb
namespace Go.Proofs.Ytcbjlnabbfkkeaa
open Go.ChangeShapes Go.WideShapes Go.ChangeAt Go.RowKit Go.Deep Go.Lib

def geP (s p : ByteArray) : Bool := !Op.bytesLess s.toList p.toList
def dins (p : ByteArray) (f : Fi) : Bool → List Fi → List Fi
  | put, [] => if put = true then [] else [f]
  | put, x :: l => (if (!put && geP x.path p) = true then [f] else []) ++ ((if x.path = p then [] else [x]) ++ dins p f (put || geP x.path p) l)
theorem dins_true (p : ByteArray) (f : Fi) : ∀ l, dins p f true l = l.filter fun x => !decide (x.path = p)
  | [] => rfl
  | x :: l => by
    rw [dins, List.filter_cons]
    simp only [Bool.not_true, Bool.false_and, Bool.true_or]
    rw [dins_true p f l]
    by_cases h : x.path = p <;> simp [h]
theorem ltF_trans {x y z : Fi} (h1 : ltF x y = true) (h2 : ltF y z = true) : ltF x z = true := by
  rw [ltF_str] at *
  exact Sort.swo_ltStr.trans _ _ _ h1 h2
theorem ge_lt {x f : Fi} (h : geP x.path f.path = true) (hne : x.path ≠ f.path) : ltF f x = true := by
  cases h2 : ltF f x with
  | true => rfl
  | false =>
    unfold geP at h
    have h1 : ltF x f = false := by unfold ltF; simpa using h
    exact absurd (lt_or h1 h2) hne
theorem dins_spec (f : Fi) : ∀ l : List Fi, (l.Pairwise fun x y => ltF x y = true) → ((dins f.path f false l).Pairwise fun x y => ltF x y = true) ∧ ∀ y, y ∈ dins f.path f false l ↔ y = f ∨ (y ∈ l ∧ y.path ≠ f.path)
  | [], _ => by
    refine ⟨List.pairwise_singleton .., fun y => ?_⟩
    simp [dins]
  | x :: l, h => by
    rw [List.pairwise_cons] at h
    rw [dins]
    cases hg : geP x.path f.path with
    | true =>
      simp only [Bool.not_false, Bool.and_self, if_true, Bool.or_true, dins_true]
      have hfl : ∀ y ∈ (if x.path = f.path then [] else [x]) ++ l.filter (fun y => !decide (y.path = f.path)), ltF f y = true := by
        intro y hy
        rcases List.mem_append.1 hy with hy | hy
        · by_cases e : x.path = f.path
          · rw [if_pos e] at hy; cases hy
          · rw [if_neg e] at hy
            rw [List.mem_singleton.1 hy]
            exact ge_lt hg e
        · rw [List.mem_filter] at hy
          have hy2 : y.path ≠ f.path := by simpa using hy.2
          by_cases e : x.path = f.path
          · have := h.1 y hy.1
            unfold ltF at this ⊢
            rwa [← e]
          · exact ltF_trans (ge_lt hg e) (h.1 y hy.1)
      have hrl : ((if x.path = f.path then [] else [x]) ++ l.filter (fun y => !decide (y.path = f.path))).Pairwise fun x y => ltF x y = true := by
        have h2 := h.2.sublist (List.filter_sublist (p := fun y => !decide (y.path = f.path)))
        by_cases e : x.path = f.path
        · rw [if_pos e]; exact h2
        · rw [if_neg e]
          exact List.pairwise_cons.2 ⟨fun y hy => h.1 y (List.mem_filter.1 hy).1, h2⟩
      refine ⟨List.pairwise_cons.2 ⟨hfl, hrl⟩, fun y => ?_⟩
      by_cases e : x.path = f.path
      · simp only [if_pos e, List.nil_append, List.singleton_append, List.mem_cons, List.mem_filter]
        constructor
        · rintro (h1 | ⟨h1, h2⟩)
          · exact .inl h1
          · exact .inr ⟨.inr h1, by simpa using h2⟩
        · rintro (h1 | ⟨h1 | h1, h2⟩)
          · exact .inl h1
          · rw [h1] at h2; exact absurd e h2
          · exact .inr ⟨h1, by simpa using h2⟩
      · simp only [if_neg e, List.singleton_append, List.mem_cons, List.mem_filter]
        constructor
        · rintro (h1 | h1 | ⟨h1, h2⟩)
          · exact .inl h1
          · exact .inr ⟨.inl h1, by rw [h1]; exact e⟩
          · exact .inr ⟨.inr h1, by simpa using h2⟩
        · rintro (h1 | ⟨h1 | h1, h2⟩)
          · exact .inl h1
          · exact .inr (.inl h1)
          · exact .inr (.inr ⟨h1, by simpa using h2⟩)
    | false =>
      obtain ⟨i1, i2⟩ := dins_spec f l h.2
      have hxf : ltF x f = true := by unfold geP at hg; unfold ltF; simpa using hg
      have e : x.path ≠ f.path := fun e => by
        unfold ltF at hxf
        rw [e] at hxf
        exact ltP_irr _ hxf
      simp only [Bool.not_false, Bool.and_false, Bool.or_self, Bool.false_eq_true, if_false, if_neg e, List.nil_append, List.singleton_append]
      refine ⟨List.pairwise_cons.2 ⟨fun y hy => ?_, i1⟩, fun y => ?_⟩
      · rcases (i2 y).1 hy with h1 | ⟨h1, _⟩
        · rw [h1]; exact hxf
        · exact h.1 y h1
      · rw [List.mem_cons, i2, List.mem_cons]
        constructor
        · rintro (h1 | h1 | ⟨h1, h2⟩)
          · exact .inr ⟨.inl h1, by rw [h1]; exact e⟩
          · exact .inl h1
          · exact .inr ⟨.inr h1, h2⟩
        · rintro (h1 | ⟨h1 | h1, h2⟩)
          · exact .inr (.inl h1)
          · exact .inl h1
          · exact .inr (.inr ⟨h1, h2⟩)
/-- The document's row L has just the files M, none of them of the empty path. -/
structure Rel (M : List Fl) (L : List Fi) : Prop where
  lst : LstP M ByteArray.empty L
  ne : fnd M ByteArray.empty = none
  apart : M.Pairwise fun f f' => f.path ≠ f'.path
theorem Rel.zero : Rel [] [] := ⟨⟨(fun i hi => by cases hi), (fun s f hf => by cases hf), List.Pairwise.nil⟩, rfl, List.Pairwise.nil⟩
theorem Rel.len {M : List Fl} {L : List Fi} (h : Rel M L) : L.length = M.length := h.lst.len h.apart
theorem Rel.fix {M : List Fl} {L : List Fi} (h : Rel M L) (s : ByteArray) : decide (0 ≤ fixI L s) = (fnd M s).isSome := by
  have hm := h.lst.mem s
  rw [pre_empty] at hm
  by_cases hs : ∃ i, i < L.length ∧ (L.getD i fiZ).path = s
  · obtain ⟨i, hi, he⟩ := hs
    have h1 : s ∈ L.map Fi.path := List.mem_map.2 ⟨L.getD i fiZ, by simp [List.getD, List.getElem?_eq_getElem hi], he⟩
    rw [((hm.1 h1).1)]
    have h2 : (L.findIdx? fun f => decide (f.path = s)) ≠ none := by
      rw [Ne, List.findIdx?_eq_none_iff]
      intro hall
      have := hall (L.getD i fiZ) (by simp [List.getD, List.getElem?_eq_getElem hi])
      rw [he] at this
      simp at this
    unfold fixI
    cases h3 : L.findIdx? fun f => decide (f.path = s) with
    | none => exact absurd h3 h2
    | some j => simp
  · have h1 : fixI L s = -1 := fix_none (fun j hj e => hs ⟨j, hj, e⟩)
    rw [h1]
    have h2 : ¬ s ∈ L.map Fi.path := fun hh => by
      obtain ⟨f, hf, e⟩ := List.mem_map.1 hh
      obtain ⟨i, hi, rfl⟩ := List.getElem_of_mem hf
      exact hs ⟨i, hi, by simpa [List.getD, List.getElem?_eq_getElem hi] using e⟩
    cases hq : (fnd M s).isSome with
    | false => rfl
    | true => exact absurd (hm.2 ⟨hq, rfl⟩) h2
theorem Rel.may {M : List Fl} {L : List Fi} (h : Rel M L) (r : Rec) : dmayE L r = mayE M r := by
  unfold dmayE mayE
  rw [h.fix, h.len]
/-- What the document's Apply makes of L. -/
def DApp (r : Rec) (L L' : List Fi) : Prop :=
  if dmayE L r = 0 then ∃ i : Fi, i.path = r.path ∧ i.size = (sizO r.ps).1 ∧ i.seq = r.seq ∧ i.ps = r.ps ∧ L' = dins r.path i (!decide (r.kind = 2)) L else L' = L
end Go.Proofs.Ytcbjlnabbfkkeaa
