/-
  Rows of extents, as lists: which blocks they have, that there is one row of given blocks, and how the program and the document make rows.
-/
namespace Go.Proofs.Ytkfoeijhhfaceab

abbrev Ext := Int × Int
def inE (x : Ext) (k : Int) : Prop := x.1 ≤ k ∧ k < x.1 + x.2
def inR (l : List Ext) (k : Int) : Prop := ∃ x, x ∈ l ∧ inE x k
structure Nrm (l : List Ext) : Prop where
  pos : ∀ x, x ∈ l → 0 ≤ x.1 ∧ 1 ≤ x.2
  sep : l.Pairwise (fun x y => x.1 + x.2 < y.1)
def Upto (b : Int) (l : List Ext) : Prop := ∀ x, x ∈ l → x.1 + x.2 ≤ b

theorem inR_nil (k : Int) : ¬ inR [] k := by rintro ⟨x, hx, _⟩; cases hx
theorem inR_cons (x : Ext) (l : List Ext) (k : Int) : inR (x :: l) k ↔ inE x k ∨ inR l k := by
  constructor
  · rintro ⟨y, hy, hk⟩
    rcases List.mem_cons.1 hy with rfl | hy
    · exact .inl hk
    · exact .inr ⟨y, hy, hk⟩
  · rintro (h | ⟨y, hy, hk⟩)
    · exact ⟨x, by simp, h⟩
    · exact ⟨y, by simp [hy], hk⟩
theorem inR_append (l m : List Ext) (k : Int) : inR (l ++ m) k ↔ inR l k ∨ inR m k := by
  induction l with
  | nil => simp [inR_nil]
  | cons x l ih => rw [List.cons_append, inR_cons, inR_cons, ih]; exact or_assoc.symm
theorem nrm_nil : Nrm [] := ⟨fun x hx => (by cases hx), List.Pairwise.nil⟩
theorem nrm_tail {x : Ext} {l : List Ext} (h : Nrm (x :: l)) : Nrm l := ⟨fun y hy => h.pos y (by simp [hy]), (List.pairwise_cons.1 h.sep).2⟩
theorem nrm_head {x : Ext} {l : List Ext} (h : Nrm (x :: l)) : (0 ≤ x.1 ∧ 1 ≤ x.2) ∧ ∀ y, y ∈ l → x.1 + x.2 < y.1 := ⟨h.pos x (by simp), (List.pairwise_cons.1 h.sep).1⟩

/-- Of given blocks there is one row alone. -/
theorem nrm_ext : ∀ (l m : List Ext), Nrm l → Nrm m → (∀ k, inR l k ↔ inR m k) → l = m
  | [], [], _, _, _ => rfl
  | [], y :: m, _, hm, h => by
    have h1 := (nrm_head hm).1
    exact absurd ((h y.1).2 ((inR_cons _ _ _).2 (.inl ⟨by omega, by omega⟩))) (inR_nil _)
  | x :: l, [], hl, _, h => by
    have h1 := (nrm_head hl).1
    exact absurd ((h x.1).1 ((inR_cons _ _ _).2 (.inl ⟨by omega, by omega⟩))) (inR_nil _)
  | x :: l, y :: m, hl, hm, h => by
    obtain ⟨hx, hxl⟩ := nrm_head hl
    obtain ⟨hy, hym⟩ := nrm_head hm
    have low : ∀ {z : Ext} {r : List Ext}, (0 ≤ z.1 ∧ 1 ≤ z.2) → (∀ y, y ∈ r → z.1 + z.2 < y.1) → ∀ k, inR (z :: r) k → z.1 ≤ k := by
      intro z r hz hr k hk
      rcases (inR_cons _ _ _).1 hk with hk | ⟨u, hu, hk⟩
      · exact hk.1
      · have := hr u hu; have := hk.1; omega
    have above : ∀ {z : Ext} {r : List Ext}, (∀ y, y ∈ r → z.1 + z.2 < y.1) → ∀ k, inR r k → z.1 + z.2 < k := by
      intro z r hr k ⟨u, hu, hk⟩
      have := hr u hu; have := hk.1; omega
    have e1 : x.1 = y.1 := by
      have a := low hy hym x.1 ((h x.1).1 ((inR_cons _ _ _).2 (.inl ⟨by omega, by omega⟩)))
      have b := low hx hxl y.1 ((h y.1).2 ((inR_cons _ _ _).2 (.inl ⟨by omega, by omega⟩)))
      omega
    have e2 : x.2 = y.2 := by
      have a : ¬ inR (x :: l) (x.1 + x.2) := fun hk => by
        rcases (inR_cons _ _ _).1 hk with hk | hk
        · have := hk.2; omega
        · have := above hxl _ hk; omega
      have b : ¬ inR (y :: m) (y.1 + y.2) := fun hk => by
        rcases (inR_cons _ _ _).1 hk with hk | hk
        · have := hk.2; omega
        · have := above hym _ hk; omega
      have c : ¬ inE y (x.1 + x.2) := fun hk => a ((h _).2 ((inR_cons _ _ _).2 (.inl hk)))
      have d : ¬ inE x (y.1 + y.2) := fun hk => b ((h _).1 ((inR_cons _ _ _).2 (.inl hk)))
      unfold inE at c d
      omega
    have e : x = y := Prod.ext e1 e2
    subst e
    have e3 : l = m := nrm_ext l m (nrm_tail hl) (nrm_tail hm) (fun k => by
      constructor
      · intro hk
        have a := above hxl k hk
        rcases (inR_cons _ _ _).1 ((h k).1 ((inR_cons _ _ _).2 (.inr hk))) with q | q
        · have := q.2; omega
        · exact q
      · intro hk
        have a := above hym k hk
        rcases (inR_cons _ _ _).1 ((h k).2 ((inR_cons _ _ _).2 (.inr hk))) with q | q
        · have := q.2; omega
        · exact q)
    rw [e3]

/-- Blocks from one place up to another, put behind those of a row. -/
def putL (l : List Ext) (f t : Int) : List Ext :=
  if t ≤ f then l else match l.getLast? with
    | some z => if z.1 + z.2 = f then l.dropLast ++ [(z.1, z.2 + (t - f))] else l ++ [(f, t - f)]
    | none => [(f, t - f)]
theorem put_no {l : List Ext} {f t : Int} (h : t ≤ f) : putL l f t = l := by unfold putL; rw [if_pos h]
theorem put_nil {f t : Int} (h : ¬ t ≤ f) : putL [] f t = [(f, t - f)] := by unfold putL; rw [if_neg h]; rfl
theorem put_join {l : List Ext} {z : Ext} {f t : Int} (h : ¬ t ≤ f) (hz : z.1 + z.2 = f) : putL (l ++ [z]) f t = l ++ [(z.1, z.2 + (t - f))] := by
  unfold putL; rw [if_neg h, List.getLast?_append]; simp [hz]
theorem put_more {l : List Ext} {z : Ext} {f t : Int} (h : ¬ t ≤ f) (hz : ¬ z.1 + z.2 = f) : putL (l ++ [z]) f t = (l ++ [z]) ++ [(f, t - f)] := by
  unfold putL; rw [if_neg h, List.getLast?_append]; simp [hz]
theorem snoc_or (l : List Ext) : l = [] ∨ ∃ m z, l = m ++ [z] := by
  rcases List.eq_nil_or_concat l with h | ⟨m, z, h⟩
  · exact .inl h
  · exact .inr ⟨m, z, by simpa using h⟩

theorem put_ok {l : List Ext} {f t : Int} (hl : Nrm l) (hu : Upto f l) (hf : 0 ≤ f) :
    Nrm (putL l f t) ∧ (f ≤ t → Upto t (putL l f t)) ∧ (t ≤ f → Upto f (putL l f t)) ∧ ∀ k, inR (putL l f t) k ↔ inR l k ∨ (f ≤ k ∧ k < t) := by
  by_cases h : t ≤ f
  · rw [put_no h]
    exact ⟨hl, fun h2 x hx => by have := hu x hx; omega, fun _ => hu, fun k => ⟨.inl, fun h2 => h2.elim id (fun h2 => by omega)⟩⟩
  rcases snoc_or l with rfl | ⟨m, z, rfl⟩
  · rw [put_nil h]
    refine ⟨⟨fun x hx => ?_, by simp⟩, fun _ x hx => ?_, fun h2 => by omega, fun k => ?_⟩
    · simp at hx; subst hx; exact ⟨hf, by simp only; omega⟩
    · simp at hx; subst hx; simp only; omega
    · rw [inR_cons]
      simp only [inR_nil, or_false, false_or, inE]
      omega
  · have hz := hu z (by simp)
    have hzp := hl.pos z (by simp)
    by_cases hj : z.1 + z.2 = f
    · rw [put_join h hj]
      have hsep := List.pairwise_append.1 hl.sep
      refine ⟨⟨fun x hx => ?_, List.pairwise_append.2 ⟨hsep.1, by simp, fun a ha b hb => ?_⟩⟩, fun _ x hx => ?_, fun h2 => by omega, fun k => ?_⟩
      · rcases List.mem_append.1 hx with hx | hx
        · exact hl.pos x (by simp [hx])
        · simp at hx; subst hx; simp only; omega
      · simp at hb; subst hb
        exact hsep.2.2 a ha z (by simp)
      · rcases List.mem_append.1 hx with hx | hx
        · have := hu x (by simp [hx]); omega
        · simp at hx; subst hx; simp only; omega
      · rw [inR_append, inR_append, inR_cons, inR_cons]
        simp only [inR_nil, or_false, inE]
        constructor
        · rintro (h2 | h2)
          · exact .inl (.inl h2)
          · by_cases hk : k < f
            · exact .inl (.inr (by omega))
            · exact .inr (by omega)
        · rintro ((h2 | h2) | h2)
          · exact .inl h2
          · exact .inr (by omega)
          · exact .inr (by omega)
    · rw [put_more h hj]
      refine ⟨⟨fun x hx => ?_, List.pairwise_append.2 ⟨hl.sep, by simp, fun a ha b hb => ?_⟩⟩, fun _ x hx => ?_, fun h2 => by omega, fun k => ?_⟩
      · rcases List.mem_append.1 hx with hx | hx
        · exact hl.pos x hx
        · simp at hx; subst hx; simp only; omega
      · simp at hb; subst hb
        have h1 := hu a ha
        simp only
        rcases List.mem_append.1 ha with ha | ha
        · have h2 := (List.pairwise_append.1 hl.sep).2.2 a ha z (by simp)
          omega
        · simp at ha; subst ha; omega
      · rcases List.mem_append.1 hx with hx | hx
        · have := hu x hx; omega
        · simp at hx; subst hx; simp only; omega
      · rw [inR_append, inR_cons]
        simp only [inR_nil, or_false, inE]
        constructor
        · rintro (h2 | h2)
          · exact .inl h2
          · exact .inr (by omega)
        · rintro (h2 | h2)
          · exact .inl h2
          · exact .inr (by omega)

/-! Which rows may be. -/
def lieB (b : Int) (x : Ext) : Bool := decide (0 ≤ x.1) && decide (1 ≤ x.2) && decide (x.2 ≤ b - x.1)
theorem lieB_iff (b : Int) (x : Ext) : lieB b x = true ↔ 0 ≤ x.1 ∧ 1 ≤ x.2 ∧ x.1 + x.2 ≤ b := by
  unfold lieB
  simp only [Bool.and_eq_true, decide_eq_true_eq]
  omega
def rowB (b : Int) : Int → List Ext → Bool
  | _, [] => true
  | c, x :: r => decide (c ≤ x.1) && lieB b x && rowB b (x.1 + x.2 + 1) r
theorem rowB_iff (b : Int) : ∀ (l : List Ext) (c : Int), rowB b c l = true ↔ Nrm l ∧ Upto b l ∧ ∀ x, x ∈ l → c ≤ x.1
  | [], c => by simp [rowB, nrm_nil, Upto]
  | x :: r, c => by
    rw [rowB, Bool.and_eq_true, Bool.and_eq_true, lieB_iff, rowB_iff b r, decide_eq_true_eq]
    constructor
    · rintro ⟨⟨h1, h2, h3, h4⟩, hn, hu, hc⟩
      refine ⟨⟨fun y hy => ?_, List.pairwise_cons.2 ⟨fun y hy => by have := hc y hy; omega, hn.sep⟩⟩, fun y hy => ?_, fun y hy => ?_⟩
      · rcases List.mem_cons.1 hy with rfl | hy
        · exact ⟨h2, h3⟩
        · exact hn.pos y hy
      · rcases List.mem_cons.1 hy with rfl | hy
        · exact h4
        · exact hu y hy
      · rcases List.mem_cons.1 hy with rfl | hy
        · exact h1
        · have := hc y hy; omega
    · rintro ⟨hn, hu, hc⟩
      obtain ⟨h1, h2⟩ := nrm_head hn
      exact ⟨⟨hc x (by simp), h1.1, h1.2, hu x (by simp)⟩, nrm_tail hn, fun y hy => hu y (by simp [hy]), fun y hy => by have := h2 y hy; omega⟩
/-- Check. -/
def chkO (b : Int) (l : List Ext) : Int := if b < 0 ∨ 4096 < b then 1 else if rowB b 0 l = true then 0 else 100
structure Row (b : Int) (l : List Ext) : Prop where
  lo : 0 ≤ b
  hi : b ≤ 4096
  nrm : Nrm l
  upto : Upto b l
theorem chk_row {b : Int} {l : List Ext} (h : chkO b l = 0) : Row b l := by
  unfold chkO at h
  by_cases h1 : b < 0 ∨ 4096 < b
  · rw [if_pos h1] at h; omega
  · rw [if_neg h1] at h
    by_cases h2 : rowB b 0 l = true
    · obtain ⟨hn, hu, _⟩ := (rowB_iff b l 0).1 h2
      exact ⟨by omega, by omega, hn, hu⟩
    · rw [if_neg h2] at h; omega
theorem row_chk {b : Int} {l : List Ext} (h : Row b l) : chkO b l = 0 := by
  unfold chkO
  rw [if_neg (by have := h.lo; have := h.hi; omega), if_pos ((rowB_iff b l 0).2 ⟨h.nrm, h.upto, fun x hx => (h.nrm.pos x hx).1⟩)]
theorem chk_three (b : Int) (l : List Ext) : chkO b l = 0 ∨ chkO b l = 1 ∨ chkO b l = 100 := by
  unfold chkO
  split
  · simp
  · split <;> simp
theorem row_wide {b : Int} {l : List Ext} (h : Row b l) : Row 4096 l := ⟨by omega, by omega, h.nrm, fun x hx => by have := h.upto x hx; have := h.hi; omega⟩
theorem row_len {b : Int} {l : List Ext} (h : Row b l) : (l.length : Int) ≤ b ∧ l.length ≤ 4096 := by
  have key : ∀ (l : List Ext) (c : Int), rowB b c l = true → 0 ≤ c → c ≤ b + 1 → c + (l.length : Int) ≤ b + 1 := by
    intro l
    induction l with
    | nil => intro c _ _ h2; simp only [List.length_nil, Int.natCast_zero]; omega
    | cons x r ih =>
      intro c hc h0 _
      obtain ⟨hn, hu, hcc⟩ := (rowB_iff b (x :: r) c).1 hc
      rw [rowB, Bool.and_eq_true] at hc
      have h1 := (nrm_head hn).1
      have h2 := hcc x (by simp)
      have h3 := hu x (by simp)
      have := ih (x.1 + x.2 + 1) hc.2 (by omega) (by omega)
      rw [List.length_cons]
      omega
  have lo := h.lo
  have hi := h.hi
  cases l with
  | nil => simp; omega
  | cons x r =>
    have hr := (rowB_iff b (x :: r) 0).2 ⟨h.nrm, h.upto, fun y hy => (h.nrm.pos y hy).1⟩
    have := key (x :: r) 0 hr (by omega) (by omega)
    have h1 := (nrm_head h.nrm).1
    have h3 := h.upto x (by simp)
    rw [rowB, Bool.and_eq_true] at hr
    have := key r (x.1 + x.2 + 1) hr.2 (by omega) (by omega)
    rw [List.length_cons] at *
    omega
theorem row_ext {b c : Int} {l m : List Ext} (hl : Row b l) (hm : Row c m) (h : ∀ k, inR l k ↔ inR m k) : l = m := nrm_ext l m hl.nrm hm.nrm h
end Go.Proofs.Ytkfoeijhhfaceab
/-
  Rows without some blocks, with some more, of all others; and the document's row of some blocks.
-/
namespace Go.Proofs.Ytkfoeijhhfaceab

/-! Without. -/
def woutS (e : Ext) (acc : List Ext) (x : Ext) : List Ext := putL (putL acc x.1 (min (x.1 + x.2) e.1)) (max x.1 (e.1 + e.2)) (x.1 + x.2)
def wout (l : List Ext) (e : Ext) : List Ext := l.foldl (woutS e) []
theorem woutS_ok {e x : Ext} {acc : List Ext} (ha : Nrm acc) (hu : Upto x.1 acc) (hx : 0 ≤ x.1 ∧ 1 ≤ x.2) (he : 1 ≤ e.2) :
    Nrm (woutS e acc x) ∧ Upto (x.1 + x.2) (woutS e acc x) ∧ ∀ k, inR (woutS e acc x) k ↔ inR acc k ∨ (inE x k ∧ ¬ inE e k) := by
  obtain ⟨n1, u1, v1, m1⟩ := put_ok (t := min (x.1 + x.2) e.1) ha hu hx.1
  have u2 : Upto (max x.1 (e.1 + e.2)) (putL acc x.1 (min (x.1 + x.2) e.1)) := fun y hy => by
    by_cases h : x.1 ≤ min (x.1 + x.2) e.1
    · have := u1 h y hy; omega
    · have := v1 (by omega) y hy; omega
  obtain ⟨n2, u3, v3, m2⟩ := put_ok (t := x.1 + x.2) n1 u2 (by omega)
  unfold woutS
  refine ⟨n2, fun y hy => ?_, fun k => ?_⟩
  · by_cases h : max x.1 (e.1 + e.2) ≤ x.1 + x.2
    · exact u3 h y hy
    · rw [put_no (by omega)] at hy
      by_cases h2 : x.1 ≤ min (x.1 + x.2) e.1
      · have := u1 h2 y hy; omega
      · have := v1 (by omega) y hy; omega
  · rw [m2, m1]
    unfold inE
    constructor
    · rintro ((h | h) | h)
      · exact .inl h
      · exact .inr (by omega)
      · exact .inr (by omega)
    · rintro (h | h)
      · exact .inl (.inl h)
      · by_cases h2 : k < e.1
        · exact .inl (.inr (by omega))
        · exact .inr (by omega)
theorem wout_all {e : Ext} (he : 1 ≤ e.2) : ∀ (r acc : List Ext), Nrm acc → (∀ x, x ∈ r → Upto x.1 acc) → Nrm r →
    Nrm (r.foldl (woutS e) acc) ∧ (∀ b, Upto b acc → Upto b r → Upto b (r.foldl (woutS e) acc)) ∧ ∀ k, inR (r.foldl (woutS e) acc) k ↔ inR acc k ∨ (inR r k ∧ ¬ inE e k)
  | [], acc, ha, _, _ => by
    refine ⟨ha, fun b h _ => h, fun k => ?_⟩
    simp only [List.foldl_nil, inR_nil, false_and, or_false]
  | x :: r, acc, ha, hu, hr => by
    obtain ⟨hx, hxr⟩ := nrm_head hr
    obtain ⟨n1, u1, m1⟩ := woutS_ok (e := e) ha (hu x (by simp)) hx he
    obtain ⟨n2, u2, m2⟩ := wout_all he r (woutS e acc x) n1 (fun y hy z hz => by have := u1 z hz; have := hxr y hy; omega) (nrm_tail hr)
    rw [List.foldl_cons]
    refine ⟨n2, fun b hb hb2 => u2 b (fun z hz => by have := u1 z hz; have := hb2 x (by simp); omega) (fun y hy => hb2 y (by simp [hy])), fun k => ?_⟩
    rw [m2, m1, inR_cons]
    constructor
    · rintro ((h | h) | h)
      · exact .inl h
      · exact .inr ⟨.inl h.1, h.2⟩
      · exact .inr ⟨.inr h.1, h.2⟩
    · rintro (h | ⟨h | h, h2⟩)
      · exact .inl (.inl h)
      · exact .inl (.inr ⟨h, h2⟩)
      · exact .inr ⟨h, h2⟩
theorem upto_nil (b : Int) : Upto b [] := fun x hx => by cases hx
theorem wout_ok {b : Int} {l : List Ext} {e : Ext} (hl : Row b l) (he : 1 ≤ e.2) : Row b (wout l e) ∧ ∀ k, inR (wout l e) k ↔ inR l k ∧ ¬ inE e k := by
  obtain ⟨n, u, m⟩ := wout_all he l [] nrm_nil (fun x _ => upto_nil _) hl.nrm
  refine ⟨⟨hl.lo, hl.hi, n, u b (upto_nil _) hl.upto⟩, fun k => ?_⟩
  unfold wout
  rw [m]
  simp only [inR_nil, false_or]

/-! With. -/
def joinS (acc : List Ext) (x : Ext) : List Ext := putL acc x.1 (x.1 + x.2)
def joinL (s : List Ext) : List Ext := s.foldl joinS []
theorem join_all : ∀ (r acc : List Ext), Nrm acc → (∀ x, x ∈ r → Upto x.1 acc) → (∀ x, x ∈ r → 0 ≤ x.1 ∧ 1 ≤ x.2) → r.Pairwise (fun x y => x.1 + x.2 ≤ y.1) →
    Nrm (r.foldl joinS acc) ∧ (∀ b, Upto b acc → Upto b r → Upto b (r.foldl joinS acc)) ∧ ∀ k, inR (r.foldl joinS acc) k ↔ inR acc k ∨ inR r k
  | [], acc, ha, _, _, _ => by
    refine ⟨ha, fun b h _ => h, fun k => ?_⟩
    simp only [List.foldl_nil, inR_nil, or_false]
  | x :: r, acc, ha, hu, hp, hs => by
    obtain ⟨hx1, hx2⟩ := hp x (by simp)
    obtain ⟨hs1, hs2⟩ := List.pairwise_cons.1 hs
    obtain ⟨n1, u1, _, m1⟩ := put_ok (t := x.1 + x.2) ha (hu x (by simp)) hx1
    have u1 := u1 (by omega)
    obtain ⟨n2, u2, m2⟩ := join_all r (joinS acc x) n1 (fun y hy z hz => by have := u1 z hz; have := hs1 y hy; omega) (fun y hy => hp y (by simp [hy])) hs2
    rw [List.foldl_cons]
    refine ⟨n2, fun b hb hb2 => u2 b (fun z hz => by have := u1 z hz; have := hb2 x (by simp); omega) (fun y hy => hb2 y (by simp [hy])), fun k => ?_⟩
    have m1 : inR (joinS acc x) k ↔ _ := m1 k
    rw [m2, m1, inR_cons]
    exact or_assoc
/-- How many extents begin no later than e. -/
def aheadN (l : List Ext) (e : Ext) : Nat := (l.takeWhile fun x => decide (x.1 ≤ e.1)).length
theorem ahead_le (l : List Ext) (e : Ext) : aheadN l e ≤ l.length := by
  unfold aheadN
  induction l with
  | nil => simp
  | cons x l ih =>
    rw [List.takeWhile_cons]
    split
    · simp only [List.length_cons]; omega
    · simp
theorem ahead_take (l : List Ext) (e : Ext) : l.take (aheadN l e) = l.takeWhile (fun x => decide (x.1 ≤ e.1)) ∧ l.drop (aheadN l e) = l.dropWhile (fun x => decide (x.1 ≤ e.1)) := by
  unfold aheadN
  induction l with
  | nil => simp
  | cons x l ih =>
    by_cases h : x.1 ≤ e.1
    · simp [h, ih.1, ih.2]
    · simp [h]
def withS (l : List Ext) (e : Ext) : List Ext := l.take (aheadN l e) ++ [e] ++ l.drop (aheadN l e)
def withL (l : List Ext) (e : Ext) : List Ext := joinL (withS l e)
/-- e has a block that l has. -/
def meetR (l : List Ext) (e : Ext) : Prop := ∃ x, x ∈ l ∧ x.1 < e.1 + e.2 ∧ e.1 < x.1 + x.2
theorem with_ok {b : Int} {l : List Ext} {e : Ext} (hl : Row b l) (he : 0 ≤ e.1 ∧ 1 ≤ e.2 ∧ e.1 + e.2 ≤ b) (hm : ¬ meetR l e) : Row b (withL l e) ∧ ∀ k, inR (withL l e) k ↔ inR l k ∨ inE e k := by
  have apart : ∀ x, x ∈ l → x.1 + x.2 ≤ e.1 ∨ e.1 + e.2 ≤ x.1 := fun x hx => by
    have h : ¬ (x.1 < e.1 + e.2 ∧ e.1 < x.1 + x.2) := fun h => hm ⟨x, hx, h⟩
    omega
  obtain ⟨t1, t2⟩ := ahead_take l e
  have mt : ∀ x, x ∈ l.take (aheadN l e) → x.1 ≤ e.1 := fun x hx => by
    rw [t1] at hx
    have h : ∀ (l : List Ext) x, x ∈ l.takeWhile (fun x => decide (x.1 ≤ e.1)) → x.1 ≤ e.1 := by
      intro l
      induction l with
      | nil => intro x hx; cases hx
      | cons y l ih =>
        intro x hx
        rw [List.takeWhile_cons] at hx
        split at hx
        · rename_i hy
          rcases List.mem_cons.1 hx with rfl | hx
          · simpa using hy
          · exact ih x hx
        · cases hx
    exact h l x hx
  have md : ∀ x, x ∈ l.drop (aheadN l e) → e.1 < x.1 := by
    rw [t2]
    have h : ∀ (l : List Ext), Nrm l → ∀ x, x ∈ l.dropWhile (fun x => decide (x.1 ≤ e.1)) → e.1 < x.1 := by
      intro l
      induction l with
      | nil => intro _ x hx; cases hx
      | cons y l ih =>
        intro hn x hx
        rw [List.dropWhile_cons] at hx
        split at hx
        · exact ih (nrm_tail hn) x hx
        · rename_i hy
          have hy' : ¬ y.1 ≤ e.1 := by simpa using hy
          obtain ⟨p1, p2⟩ := nrm_head hn
          rcases List.mem_cons.1 hx with rfl | hx
          · omega
          · have := p2 x hx; omega
    exact h l hl.nrm
  have hsp : (l.take (aheadN l e) ++ l.drop (aheadN l e)).Pairwise (fun x y => x.1 + x.2 < y.1) := by rw [List.take_append_drop]; exact hl.nrm.sep
  obtain ⟨s1, s2, s3⟩ := List.pairwise_append.1 hsp
  have hmt : ∀ x, x ∈ l.take (aheadN l e) → x ∈ l := fun x hx => List.mem_of_mem_take hx
  have hmd : ∀ x, x ∈ l.drop (aheadN l e) → x ∈ l := fun x hx => List.mem_of_mem_drop hx
  have hpw : (withS l e).Pairwise (fun x y => x.1 + x.2 ≤ y.1) := by
    unfold withS
    refine List.pairwise_append.2 ⟨List.pairwise_append.2 ⟨s1.imp (fun h => by omega), by simp, fun a ha c hc => ?_⟩, s2.imp (fun h => by omega), fun a ha c hc => ?_⟩
    · simp at hc; subst hc
      have := apart a (hmt a ha); have := mt a ha; have := hl.nrm.pos a (hmt a ha)
      omega
    · rcases List.mem_append.1 ha with ha | ha
      · have := s3 a ha c hc; omega
      · simp at ha; subst ha
        have := apart c (hmd c hc); have := md c hc; have := hl.nrm.pos c (hmd c hc)
        omega
  have hpos : ∀ x, x ∈ withS l e → 0 ≤ x.1 ∧ 1 ≤ x.2 ∧ x.1 + x.2 ≤ b := fun x hx => by
    unfold withS at hx
    rcases List.mem_append.1 hx with hx | hx
    · rcases List.mem_append.1 hx with hx | hx
      · have := hl.nrm.pos x (hmt x hx); have := hl.upto x (hmt x hx); omega
      · simp at hx; subst hx; exact he
    · have := hl.nrm.pos x (hmd x hx); have := hl.upto x (hmd x hx); omega
  obtain ⟨n, u, m⟩ := join_all (withS l e) [] nrm_nil (fun x _ => upto_nil _) (fun x hx => by have := hpos x hx; omega) hpw
  refine ⟨⟨hl.lo, hl.hi, n, u b (upto_nil _) (fun x hx => (hpos x hx).2.2)⟩, fun k => ?_⟩
  unfold withL joinL
  rw [m]
  unfold withS
  rw [inR_append, inR_append, inR_cons]
  have e1 : inR l k ↔ inR (l.take (aheadN l e)) k ∨ inR (l.drop (aheadN l e)) k := by rw [← inR_append, List.take_append_drop]
  rw [e1]
  simp only [inR_nil, false_or, or_false]
  constructor
  · rintro ((h | h) | h)
    · exact .inl (.inl h)
    · exact .inr h
    · exact .inl (.inr h)
  · rintro ((h | h) | h)
    · exact .inl (.inl h)
    · exact .inr h
    · exact .inl (.inr h)

/-! All others. -/
def btwS (s : List Ext × Int) (x : Ext) : List Ext × Int := (putL s.1 s.2 x.1, x.1 + x.2)
def btw (b : Int) (l : List Ext) : List Ext := putL (l.foldl btwS ([], 0)).1 (l.foldl btwS ([], 0)).2 b
theorem btw_all (b : Int) : ∀ (r : List Ext) (s : List Ext × Int), Nrm s.1 → Upto s.2 s.1 → 0 ≤ s.2 → s.2 ≤ b → (∀ x, x ∈ r → s.2 ≤ x.1) → Nrm r → Upto b r →
    (Nrm (r.foldl btwS s).1 ∧ Upto (r.foldl btwS s).2 (r.foldl btwS s).1 ∧ 0 ≤ (r.foldl btwS s).2 ∧ (r.foldl btwS s).2 ≤ b) ∧ ∀ k, inR (r.foldl btwS s).1 k ∨ ((r.foldl btwS s).2 ≤ k ∧ k < b) ↔ inR s.1 k ∨ (s.2 ≤ k ∧ k < b ∧ ¬ inR r k)
  | [], s, hn, hu, h0, hb, _, _, _ => by
    refine ⟨⟨hn, hu, h0, hb⟩, fun k => ?_⟩
    simp only [List.foldl_nil, inR_nil, not_false_eq_true, and_true]
  | x :: r, s, hn, hu, h0, hb, hx, hr, hub => by
    obtain ⟨p1, p2⟩ := nrm_head hr
    have hsx := hx x (by simp)
    have hxb := hub x (by simp)
    obtain ⟨n1, u1, _, m1⟩ := put_ok (t := x.1) hn hu h0
    have u1 := u1 hsx
    obtain ⟨q, m2⟩ := btw_all b r (btwS s x) n1 (fun z hz => by have := u1 z hz; simp only [btwS]; omega) (by simp only [btwS]; omega) (by simp only [btwS]; omega) (fun y hy => by have := p2 y hy; simp only [btwS]; omega) (nrm_tail hr) (fun y hy => hub y (by simp [hy]))
    rw [List.foldl_cons]
    refine ⟨q, fun k => ?_⟩
    rw [m2]
    have m1 : inR (btwS s x).1 k ↔ _ := m1 k
    rw [m1, inR_cons]
    have hlow : ∀ k, inR r k → x.1 + x.2 < k := fun k ⟨y, hy, hk⟩ => by have := p2 y hy; have := hk.1; omega
    simp only [btwS, inE]
    constructor
    · rintro ((h | h) | ⟨h1, h2, h3⟩)
      · exact .inl h
      · exact .inr ⟨by omega, by omega, fun h2 => h2.elim (fun h2 => by omega) (fun h2 => by have := hlow k h2; omega)⟩
      · exact .inr ⟨by omega, h2, fun h4 => h4.elim (fun h4 => by omega) h3⟩
    · rintro (h | ⟨h1, h2, h3⟩)
      · exact .inl (.inl h)
      · by_cases hk : k < x.1
        · exact .inl (.inr ⟨h1, hk⟩)
        · have : ¬ (x.1 ≤ k ∧ k < x.1 + x.2) := fun h => h3 (.inl h)
          exact .inr ⟨by omega, h2, fun h => h3 (.inr h)⟩
theorem btw_ok {b : Int} {l : List Ext} (hl : Row b l) : Row b (btw b l) ∧ ∀ k, inR (btw b l) k ↔ 0 ≤ k ∧ k < b ∧ ¬ inR l k := by
  obtain ⟨⟨n, u, h0, hb⟩, m⟩ := btw_all b l ([], 0) nrm_nil (upto_nil _) (by simp) hl.lo (fun x hx => (hl.nrm.pos x hx).1) hl.nrm hl.upto
  obtain ⟨n2, u2, _, m2⟩ := put_ok (t := b) n u h0
  refine ⟨⟨hl.lo, hl.hi, n2, u2 hb⟩, fun k => ?_⟩
  unfold btw
  rw [m2, m]
  simp only [inR_nil, false_or]

/-! The document's row of some blocks. -/
def docP (p : Nat → Bool) : Nat → List Ext
  | 0 => []
  | i + 1 => if p i = true then putL (docP p i) (i : Int) ((i : Int) + 1) else docP p i
theorem docP_ok (p : Nat → Bool) : ∀ i, Nrm (docP p i) ∧ Upto (i : Int) (docP p i) ∧ ∀ k, inR (docP p i) k ↔ 0 ≤ k ∧ k < (i : Int) ∧ p k.toNat = true
  | 0 => by
    refine ⟨nrm_nil, upto_nil _, fun k => ?_⟩
    simp only [docP, inR_nil, false_iff]
    rintro ⟨h1, h2, _⟩
    simp at h2
    omega
  | i + 1 => by
    obtain ⟨n, u, m⟩ := docP_ok p i
    rw [docP]
    by_cases h : p i = true
    · rw [if_pos h]
      obtain ⟨n1, u1, _, m1⟩ := put_ok (t := (i : Int) + 1) n u (by omega)
      refine ⟨n1, fun x hx => by have := u1 (by omega) x hx; omega, fun k => ?_⟩
      rw [m1, m]
      constructor
      · rintro (⟨h1, h2, h3⟩ | ⟨h1, h2⟩)
        · exact ⟨h1, by omega, h3⟩
        · have e : k.toNat = i := by omega
          exact ⟨by omega, by omega, by rw [e]; exact h⟩
      · rintro ⟨h1, h2, h3⟩
        by_cases hk : k < (i : Int)
        · exact .inl ⟨h1, hk, h3⟩
        · exact .inr ⟨by omega, by omega⟩
    · rw [if_neg h]
      refine ⟨n, fun x hx => by have := u x hx; omega, fun k => ?_⟩
      rw [m]
      constructor
      · rintro ⟨h1, h2, h3⟩
        exact ⟨h1, by omega, h3⟩
      · rintro ⟨h1, h2, h3⟩
        refine ⟨h1, ?_, h3⟩
        by_cases hk : k < (i : Int)
        · exact hk
        · have e : k.toNat = i := by omega
          rw [e] at h3
          exact absurd h3 h
/-- Where the block ahead is in it, the last extent ends here. -/
theorem docP_last (p : Nat → Bool) (i : Nat) (h : p i = true) : ∃ m z, docP p (i + 1) = m ++ [z] ∧ z.1 + z.2 = (i : Int) + 1 := by
  obtain ⟨n, u, m⟩ := docP_ok p (i + 1)
  obtain ⟨x, hx, hk⟩ := (m (i : Int)).2 ⟨by omega, by omega, by simpa using h⟩
  have hu := u x hx
  have hk1 := hk.1
  have hk2 := hk.2
  rcases snoc_or (docP p (i + 1)) with e | ⟨q, z, e⟩
  · rw [e] at hx; cases hx
  · refine ⟨q, z, e, ?_⟩
    rw [e] at hx n
    rcases List.mem_append.1 hx with hx | hx
    · have h1 := (List.pairwise_append.1 n.sep).2.2 x hx z (by simp)
      have h2 := n.pos z (by simp)
      have h3 := u z (by rw [e]; simp)
      omega
    · simp at hx; subst hx; omega
theorem docP_not (p : Nat → Bool) (i : Nat) (h : i = 0 ∨ p (i - 1) = false) : ∀ q z, docP p i = q ++ [z] → z.1 + z.2 ≠ (i : Int) := fun q z e hz => by
  obtain ⟨n, u, m⟩ := docP_ok p i
  have hzp := n.pos z (by rw [e]; simp)
  have hin := (m ((i : Int) - 1)).1 ⟨z, by rw [e]; simp, by constructor <;> omega⟩
  obtain ⟨h1, h2, h3⟩ := hin
  rcases h with rfl | h
  · simp at h1
  · have : ((i : Int) - 1).toNat = i - 1 := by omega
    rw [this, h] at h3
    cases h3
theorem docP_put_last (p : Nat → Bool) (i : Nat) (h : p (i + 1) = true) {q : List Ext} {z : Ext} (e : docP p (i + 1) = q ++ [z]) (hz : z.1 + z.2 = (i : Int) + 1) : docP p (i + 1 + 1) = q ++ [(z.1, z.2 + 1)] := by
  rw [docP, if_pos h, e, put_join (by omega) (by push_cast; omega)]
  congr 3
  omega
theorem docP_put_new (p : Nat → Bool) (i : Nat) (h : p i = true) (h0 : i = 0 ∨ p (i - 1) = false) : docP p (i + 1) = docP p i ++ [((i : Int), 1)] := by
  rw [docP, if_pos h]
  have e1 : (i : Int) + 1 - (i : Int) = 1 := by omega
  rcases snoc_or (docP p i) with e | ⟨q, z, e⟩
  · rw [e, put_nil (by omega), e1]; rfl
  · have := docP_not p i h0 q z e
    rw [e, put_more (by omega) this, e1]
theorem docP_no (p : Nat → Bool) (i : Nat) (h : p i = false) : docP p (i + 1) = docP p i := by rw [docP, if_neg (by simp [h])]
theorem docP_len (p : Nat → Bool) : ∀ i, (docP p i).length ≤ i
  | 0 => by simp [docP]
  | i + 1 => by
    have ih := docP_len p i
    by_cases h : p i = true
    · rw [docP, if_pos h]
      rcases snoc_or (docP p i) with e | ⟨q, z, e⟩
      · rw [e, put_nil (by omega)]; simp
      · rw [e] at ih ⊢
        by_cases hz : z.1 + z.2 = (i : Int)
        · rw [put_join (by omega) hz]; simp at ih ⊢; omega
        · rw [put_more (by omega) hz]; simp at ih ⊢; omega
    · rw [docP, if_neg h]; omega
theorem doc_row {b : Int} {n : Nat} (hb : b = (n : Int)) (h : b ≤ 4096) (p : Nat → Bool) : Row b (docP p n) := by
  obtain ⟨h1, h2, _⟩ := docP_ok p n
  exact ⟨by omega, h, h1, by rw [hb]; exact h2⟩
/-- The document's row of some blocks is each row that has just these. -/
theorem doc_eq {b : Int} {n : Nat} (hb : b = (n : Int)) {l : List Ext} (hl : Row b l) (p : Nat → Bool) (h : ∀ k : Nat, k < n → (p k = true ↔ inR l (k : Int))) : docP p n = l := by
  obtain ⟨h1, h2, h3⟩ := docP_ok p n
  refine nrm_ext _ _ h1 hl.nrm (fun k => ?_)
  rw [h3]
  constructor
  · rintro ⟨a, c, d⟩
    have := (h k.toNat (by omega)).1 d
    rwa [show ((k.toNat : Nat) : Int) = k from by omega] at this
  · intro hk
    obtain ⟨x, hx, hk'⟩ := hk
    have p1 := hl.nrm.pos x hx
    have p2 := hl.upto x hx
    have q1 := hk'.1
    have q2 := hk'.2
    refine ⟨by omega, by omega, (h k.toNat (by omega)).2 ?_⟩
    rw [show ((k.toNat : Nat) : Int) = k from by omega]
    exact ⟨x, hx, hk'⟩
end Go.Proofs.Ytkfoeijhhfaceab
