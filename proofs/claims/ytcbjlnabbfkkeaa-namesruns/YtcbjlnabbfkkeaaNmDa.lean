/-
  The document's row of files and the code's map stay alike; pieces appended to no pieces. What the document's Apply makes of its row of files.
-/
import Derived.Test.YtcbjlnabbfkkeaaNmMa
namespace Go.Proofs.Ytcbjlnabbfkkeaa
open Go.ChangeShapes Go.WideShapes Go.ChangeAt Go.RowKit Go.Deep Go.Lib

def geP (s p : ByteArray) : Bool := !Op.bytesLess s.toList p.toList
def dins (p : ByteArray) (f : Fi) : Bool → List Fi → List Fi
  | put, [] => if put = true then [] else [f]
  | put, x :: l => (if (!put && geP x.path p) = true then [f] else []) ++ ((if x.path = p then [] else [x]) ++ dins p f (put || geP x.path p) l)
theorem dins_true (p : ByteArray) (f : Fi) : ∀ l, dins p f true l = l.filter fun x => !decide (x.path = p)
  | [] => rfl
  | x :: l => by
    rw [dins, List.filter_cons]
    simp only [Bool.not_true, Bool.false_and, Bool.true_or]
    rw [dins_true p f l]
    by_cases h : x.path = p <;> simp [h]
theorem ltF_trans {x y z : Fi} (h1 : ltF x y = true) (h2 : ltF y z = true) : ltF x z = true := by
  rw [ltF_str] at *
  exact Sort.swo_ltStr.trans _ _ _ h1 h2
theorem ge_lt {x f : Fi} (h : geP x.path f.path = true) (hne : x.path ≠ f.path) : ltF f x = true := by
  cases h2 : ltF f x with
  | true => rfl
  | false =>
    unfold geP at h
    have h1 : ltF x f = false := by unfold ltF; simpa using h
    exact absurd (lt_or h1 h2) hne
theorem dins_spec (f : Fi) : ∀ l : List Fi, (l.Pairwise fun x y => ltF x y = true) → ((dins f.path f false l).Pairwise fun x y => ltF x y = true) ∧ ∀ y, y ∈ dins f.path f false l ↔ y = f ∨ (y ∈ l ∧ y.path ≠ f.path)
  | [], _ => by
    refine ⟨List.pairwise_singleton .., fun y => ?_⟩
    simp [dins]
  | x :: l, h => by
    rw [List.pairwise_cons] at h
    rw [dins]
    cases hg : geP x.path f.path with
    | true =>
      simp only [Bool.not_false, Bool.and_self, if_true, Bool.or_true, dins_true]
      have hfl : ∀ y ∈ (if x.path = f.path then [] else [x]) ++ l.filter (fun y => !decide (y.path = f.path)), ltF f y = true := by
        intro y hy
        rcases List.mem_append.1 hy with hy | hy
        · by_cases e : x.path = f.path
          · rw [if_pos e] at hy; cases hy
          · rw [if_neg e] at hy
            rw [List.mem_singleton.1 hy]
            exact ge_lt hg e
        · rw [List.mem_filter] at hy
          have hy2 : y.path ≠ f.path := by simpa using hy.2
          by_cases e : x.path = f.path
          · have := h.1 y hy.1
            unfold ltF at this ⊢
            rwa [← e]
          · exact ltF_trans (ge_lt hg e) (h.1 y hy.1)
      have hrl : ((if x.path = f.path then [] else [x]) ++ l.filter (fun y => !decide (y.path = f.path))).Pairwise fun x y => ltF x y = true := by
        have h2 := h.2.sublist (List.filter_sublist (p := fun y => !decide (y.path = f.path)))
        by_cases e : x.path = f.path
        · rw [if_pos e]; exact h2
        · rw [if_neg e]
          exact List.pairwise_cons.2 ⟨fun y hy => h.1 y (List.mem_filter.1 hy).1, h2⟩
      refine ⟨List.pairwise_cons.2 ⟨hfl, hrl⟩, fun y => ?_⟩
      by_cases e : x.path = f.path
      · simp only [if_pos e, List.nil_append, List.singleton_append, List.mem_cons, List.mem_filter]
        constructor
        · rintro (h1 | ⟨h1, h2⟩)
          · exact .inl h1
          · exact .inr ⟨.inr h1, by simpa using h2⟩
        · rintro (h1 | ⟨h1 | h1, h2⟩)
          · exact .inl h1
          · rw [h1] at h2; exact absurd e h2
          · exact .inr ⟨h1, by simpa using h2⟩
      · simp only [if_neg e, List.singleton_append, List.mem_cons, List.mem_filter]
        constructor
        · rintro (h1 | h1 | ⟨h1, h2⟩)
          · exact .inl h1
          · exact .inr ⟨.inl h1, by rw [h1]; exact e⟩
          · exact .inr ⟨.inr h1, by simpa using h2⟩
        · rintro (h1 | ⟨h1 | h1, h2⟩)
          · exact .inl h1
          · exact .inr (.inl h1)
          · exact .inr (.inr ⟨h1, by simpa using h2⟩)
    | false =>
      obtain ⟨i1, i2⟩ := dins_spec f l h.2
      have hxf : ltF x f = true := by unfold geP at hg; unfold ltF; simpa using hg
      have e : x.path ≠ f.path := fun e => by
        unfold ltF at hxf
        rw [e] at hxf
        exact ltP_irr _ hxf
      simp only [Bool.not_false, Bool.and_false, Bool.or_self, Bool.false_eq_true, if_false, if_neg e, List.nil_append, List.singleton_append]
      refine ⟨List.pairwise_cons.2 ⟨fun y hy => ?_, i1⟩, fun y => ?_⟩
      · rcases (i2 y).1 hy with h1 | ⟨h1, _⟩
        · rw [h1]; exact hxf
        · exact h.1 y h1
      · rw [List.mem_cons, i2, List.mem_cons]
        constructor
        · rintro (h1 | h1 | ⟨h1, h2⟩)
          · exact .inr ⟨.inl h1, by rw [h1]; exact e⟩
          · exact .inl h1
          · exact .inr ⟨.inr h1, h2⟩
        · rintro (h1 | ⟨h1 | h1, h2⟩)
          · exact .inr (.inl h1)
          · exact .inl h1
          · exact .inr (.inr ⟨h1, h2⟩)
/-- The document's row L has just the files M, none of them of the empty path. -/
structure Rel (M : List Fl) (L : List Fi) : Prop where
  lst : LstP M ByteArray.empty L
  ne : fnd M ByteArray.empty = none
  apart : M.Pairwise fun f f' => f.path ≠ f'.path
theorem Rel.zero : Rel [] [] := ⟨⟨(fun i hi => by cases hi), (fun s f hf => by cases hf), List.Pairwise.nil⟩, rfl, List.Pairwise.nil⟩
theorem Rel.len {M : List Fl} {L : List Fi} (h : Rel M L) : L.length = M.length := h.lst.len h.apart
theorem Rel.fix {M : List Fl} {L : List Fi} (h : Rel M L) (s : ByteArray) : decide (0 ≤ fixI L s) = (fnd M s).isSome := by
  have hm := h.lst.mem s
  rw [pre_empty] at hm
  by_cases hs : ∃ i, i < L.length ∧ (L.getD i fiZ).path = s
  · obtain ⟨i, hi, he⟩ := hs
    have h1 : s ∈ L.map Fi.path := List.mem_map.2 ⟨L.getD i fiZ, by simp [List.getD, List.getElem?_eq_getElem hi], he⟩
    rw [((hm.1 h1).1)]
    have h2 : (L.findIdx? fun f => decide (f.path = s)) ≠ none := by
      rw [Ne, List.findIdx?_eq_none_iff]
      intro hall
      have := hall (L.getD i fiZ) (by simp [List.getD, List.getElem?_eq_getElem hi])
      rw [he] at this
      simp at this
    unfold fixI
    cases h3 : L.findIdx? fun f => decide (f.path = s) with
    | none => exact absurd h3 h2
    | some j => simp
  · have h1 : fixI L s = -1 := fix_none (fun j hj e => hs ⟨j, hj, e⟩)
    rw [h1]
    have h2 : ¬ s ∈ L.map Fi.path := fun hh => by
      obtain ⟨f, hf, e⟩ := List.mem_map.1 hh
      obtain ⟨i, hi, rfl⟩ := List.getElem_of_mem hf
      exact hs ⟨i, hi, by simpa [List.getD, List.getElem?_eq_getElem hi] using e⟩
    cases hq : (fnd M s).isSome with
    | false => rfl
    | true => exact absurd (hm.2 ⟨hq, rfl⟩) h2
theorem Rel.may {M : List Fl} {L : List Fi} (h : Rel M L) (r : Rec) : dmayE L r = mayE M r := by
  unfold dmayE mayE
  rw [h.fix, h.len]
/-- What the document's Apply makes of L. -/
def DApp (r : Rec) (L L' : List Fi) : Prop :=
  if dmayE L r = 0 then ∃ i : Fi, i.path = r.path ∧ i.size = (sizO r.ps).1 ∧ i.seq = r.seq ∧ i.ps = r.ps ∧ L' = dins r.path i (!decide (r.kind = 2)) L else L' = L
end Go.Proofs.Ytcbjlnabbfkkeaa
namespace Go.Proofs.Ytcbjlnabbfkkeaa
open Go.ChangeShapes Go.WideShapes Go.ChangeAt Go.RowKit Go.Deep Go.Lib

theorem may_path {r : Rec} (h : mayB r = true) (hk : r.kind = 2 ∨ r.kind = 3) : pathB r.path = true ∧ (sizO r.ps).2 = 0 := by
  unfold mayB at h
  rw [Bool.and_eq_true] at h
  have h := h.2
  unfold kindB at h
  rw [if_neg (by omega)] at h
  rcases hk with hk | hk
  · rw [if_neg (by omega), if_pos hk] at h
    simp only [Bool.and_eq_true, decide_eq_true_eq] at h
    exact ⟨h.1.2, h.2⟩
  · rw [if_pos hk] at h
    simp only [Bool.and_eq_true, decide_eq_true_eq] at h
    exact ⟨h.2.1.2, h.2.2⟩
theorem may_lead {r : Rec} (h : mayB r = true) (hk : r.kind = 1) : r.path = ByteArray.empty ∧ r.ps = [] := by
  unfold mayB at h
  rw [Bool.and_eq_true] at h
  have h := h.2
  unfold kindB at h
  rw [if_pos hk] at h
  simp only [Bool.and_eq_true, decide_eq_true_eq] at h
  exact ⟨ByteArray.ext (Array.eq_empty_of_size_eq_zero h.1.2), List.eq_nil_of_length_eq_zero h.2⟩
theorem path_ne {p : ByteArray} (h : pathB p = true) : p ≠ ByteArray.empty := fun e => by
  subst e
  revert h
  decide +kernel
theorem siz_few {l : List Pc} (h : (sizO l).2 = 0) : l.length ≤ 4096 ∧ (sizO l).1 = sumP l := by
  unfold sizO at h ⊢
  split at h
  · cases h
  · rename_i h1
    rw [if_neg h1]
    split at h
    · rename_i h2
      rw [if_pos h2]
      split at h
      · cases h
      · rename_i h3
        rw [if_neg h3]
        exact ⟨by omega, rfl⟩
    · cases h
theorem may_few {r : Rec} (h : mayB r = true) (hk : r.kind = 1 ∨ r.kind = 2 ∨ r.kind = 3) : r.ps.length ≤ 4096 := by
  rcases hk with hk | hk
  · rw [(may_lead h hk).2]; exact Nat.zero_le _
  · exact (siz_few (may_path h hk).2).1
theorem Rel.step {r : Rec} {M M' : List Fl} {L L' : List Fi} (h : Rel M L) (ha : AppR r M M') (hd : DApp r L L') : Rel M' L' := by
  unfold AppR at ha
  unfold DApp at hd
  rw [h.may] at hd
  by_cases h0 : mayE M r = 0
  · rw [if_pos h0] at ha hd
    obtain ⟨i, e1, e2, e3, e4, rfl⟩ := hd
    have hb := (may_zero h0).1
    by_cases h2 : r.kind = 2
    · rw [if_pos h2] at ha
      obtain ⟨f, rfl, g1, g2, g3, g4⟩ := ha
      obtain ⟨hp, hz⟩ := may_path hb (.inl h2)
      have hif : i.path = f.path := e1.trans g1.symm
      have hsp := dins_spec i L h.lst.rise
      rw [e1] at hsp
      rw [decide_eq_true h2]
      have hmt : Mt f i := ⟨hif, by rw [e2, (siz_few hz).2, g4], by rw [e3, g2], by rw [e4, g3]⟩
      refine ⟨⟨fun y hy => ?_, fun s g hg _ => ?_, hsp.1⟩, ?_, put_apart h.apart⟩
      · rcases (hsp.2 y).1 hy with rfl | ⟨hy, hne⟩
        · exact ⟨f, by rw [fnd_put, if_pos hif], hmt, pre_empty _⟩
        · obtain ⟨g, k1, k2, k3⟩ := h.lst.sound y hy
          exact ⟨g, by rw [fnd_put, if_neg (by rw [g1]; exact hne), k1], k2, k3⟩
      · rw [fnd_put] at hg
        by_cases e : s = f.path
        · exact ⟨i, (hsp.2 i).2 (.inl rfl), hif.trans e.symm⟩
        · rw [if_neg e] at hg
          obtain ⟨y, hy, k⟩ := h.lst.all s g hg (pre_empty _)
          exact ⟨y, (hsp.2 y).2 (.inr ⟨hy, by rw [k, ← g1]; exact e⟩), k⟩
      · rw [fnd_put, if_neg (by rw [g1]; exact fun e => path_ne hp e.symm)]
        exact h.ne
    · rw [if_neg h2] at ha
      rw [decide_eq_false h2, Bool.not_false, dins_true]
      by_cases h3 : r.kind = 3
      · rw [if_pos h3] at ha
        subst ha
        refine ⟨⟨fun y hy => ?_, fun s g hg _ => ?_, h.lst.rise.sublist List.filter_sublist⟩, ?_, h.apart.sublist List.filter_sublist⟩
        · rw [List.mem_filter] at hy
          obtain ⟨g, k1, k2, k3⟩ := h.lst.sound y hy.1
          exact ⟨g, by rw [fnd_del, if_neg (by simpa using hy.2), k1], k2, k3⟩
        · rw [fnd_del] at hg
          by_cases e : s = r.path
          · rw [if_pos e] at hg; cases hg
          · rw [if_neg e] at hg
            obtain ⟨y, hy, k⟩ := h.lst.all s g hg (pre_empty _)
            exact ⟨y, List.mem_filter.2 ⟨hy, by rw [k]; simpa using e⟩, k⟩
        · rw [fnd_del]
          split
          · rfl
          · exact h.ne
      · rw [if_neg h3] at ha
        subst ha
        have h1 : r.kind = 1 := by
          rcases may_kind h0 with h | h | h
          · exact h
          · exact absurd h h2
          · exact absurd h h3
        have hl : L.filter (fun x => !decide (x.path = r.path)) = L := by
          rw [List.filter_eq_self]
          intro y hy
          obtain ⟨g, k1, _⟩ := h.lst.sound y hy
          have : y.path ≠ r.path := fun e => by
            rw [e, (may_lead hb h1).1, h.ne] at k1
            cases k1
          simpa using this
        rw [hl]
        exact h
  · rw [if_neg h0] at ha hd
    subst ha
    subst hd
    exact h
theorem flatC_len (l : List Pc) (h : ∀ x ∈ l, PcOk x) : (l.flatMap pcC).length = l.length * 33 := by
  induction l with
  | nil => rfl
  | cons x l ih => rw [List.flatMap_cons, List.length_append, pcC_len (h x (by simp)).len, ih (fun y hy => h y (by simp [hy])), List.length_cons]; omega
theorem flatC_back {l : List Pc} (h : ∀ x ∈ l, PcOk x) {j : Nat} {u : Value} (hj : (l.flatMap pcC)[j]? = some u) : j / 33 < l.length ∧ (pcC (l.getD (j / 33) pc0))[j % 33]? = some u := by
  have hlt : j < (l.flatMap pcC).length := (List.getElem?_eq_some_iff.1 hj).1
  rw [flatC_len l h] at hlt
  have hq : j / 33 < l.length := by omega
  refine ⟨hq, ?_⟩
  have hl : (pcC (l.getD (j / 33) pc0)).length = 33 := pcC_len (h _ (by simp [List.getD, List.getElem?_eq_getElem hq])).len
  have hi : j % 33 < (pcC (l.getD (j / 33) pc0)).length := by rw [hl]; omega
  have h1 := flat_at l h (j / 33) hq (j % 33) _ (List.getElem?_eq_getElem hi)
  rw [show j / 33 * 33 + j % 33 = j from by omega, hj] at h1
  rw [h1, List.getElem?_eq_getElem hi]
set_option maxRecDepth 100000 in
theorem wp_append_pp {o : Oper} {a : Act} {w : World} {K : Act → World → Prop} {Q : Exit → Act → World → Prop} (s x : Operand)
    (ho : o.op = .call { callee := .builtin .append, args := #[s, x], argTypes := #[34, 34] }) (base : Nat) (v : Value) (hs : a.eval s = v) (hown : w.ownsRow base 59 33 v 0 [])
    (ad : Option Addr) (cap : Nat) (l : List Pc) (hx : a.eval x = .slice ad l.length cap) (hr : Rp w ad cap l) (hn : l.length ≤ 100000) (hbase : base ≤ w.heap.size)
    (h : ∀ a' cap' w', Hid (Rp w' a' cap' l) → Hid (∀ b off, a' = some ⟨b, off, none⟩ → base ≤ b) → Hid (w.grownBy w' v.ownBlock) → K (a.put o.dst (.slice a' l.length cap')) w') : o.wp Try.prog a w K Q := by
  obtain ⟨i0, hi, hz0, hz1, hz2⟩ := info_parts Try.info59
  have fin : ∀ v' w', w'.ownsRow base 59 33 v' l.length (l.flatMap pcC) → w.grownBy w' v.ownBlock → K (a.put o.dst v') w' := fun v' w' ho hg => by
    obtain ⟨a', cap', rfl, hrp, hfar⟩ := Rp.own ho hr.fits
    exact h a' cap' w' hrp hfar hg
  cases ad with
  | none =>
    have hc := hr.none0 rfl
    have hl0 : l.length = 0 := by have := hr.room; omega
    have hl : l = [] := List.eq_nil_of_length_eq_zero hl0
    subst hl
    subst hc
    have hrun := run_append_owned_none (P := Try.prog) (w := w) base 34 o.type 59 i0 33 Try.underlying34 hi v 0 [] hown
    unfold Oper.wp execOp
    simp only [ho, resolve, invoke, builtin, Sem.run_bind, Sem.run_pure, Result.andThen_ok, List.map_toArray, List.map_cons, List.map_nil, hs, hx, List.length_nil, hrun]
    exact fin v w hown ⟨rfl, rfl, rfl, Nat.le_refl _, fun _ _ _ => rfl⟩
  | some ad =>
    refine wp_append_own w s x 34 ho base 59 i0 _ 33 40 Try.underlying34 hi hz0 hz1 hz2 rfl (by decide) v 0 [] hs hown ad l.length cap (l.flatMap pcC) hx (flatC_len l hr.fits) (fun j u hu => ?_) (fun u hu => ?_) (by unfold maxLen; omega) (by omega) hbase (fun v' w' h2 h3 _ => fin v' w' (by simpa using h2) h3)
    · obtain ⟨hq, hc⟩ := flatC_back hr.fits hu
      obtain ⟨b, off, e, _, hcell⟩ := hr.cells (by omega)
      injection e with e
      subst e
      have := hcell (j / 33) hq (j % 33) u hc
      rw [add_plain, show off + j = off + j / 33 * 33 + j % 33 from by omega]
      exact this
    · obtain ⟨r, _, hu⟩ := List.mem_flatMap.1 hu
      exact pcC_one r u hu
theorem wp_buildEmptyP {o : Oper} {a : Act} {w : World} {K : Act → World → Prop} {Q : Exit → Act → World → Prop} (ho : o.op = .buildSlice 34 0 #[]) (B N : Nat) (hB : B ≤ w.heap.size) (hN : N = w.heap.size)
    (h : ∀ W', Hid (W'.ownsRow B 59 33 (.slice (some ⟨N, 0, none⟩) 0 0) 0 []) → Hid (Below N w W') → K (a.put o.dst (.slice (some ⟨N, 0, none⟩) 0 0)) W') : o.wp Try.prog a w K Q := by
  subst hN
  obtain ⟨i0, hi, hz0, hz1, hz2⟩ := info_parts Try.info59
  have hr : (Instr.buildSlice 34 0 #[]).run Try.prog w = .ok (.slice (some ⟨w.heap.size, 0, none⟩) 0 0) (w.alloc (.cells #[] 59)) := by
    simp [Instr.buildSlice, run_underlying Try.underlying34, sizeOf, typeInfo, hi, newRow, Instr.fill]
    exact congrArg (fun x => w.alloc (.cells x 59)) (Array.eq_empty_of_size_eq_zero (by simp))
  unfold Oper.wp execOp
  simp only [ho, Sem.run_bind, List.map_toArray, List.map_nil, hr, Result.andThen_ok]
  refine h _ ?_ (bel_alc w _)
  show World.ownsRow _ _ _ _ _ _ _
  exact World.ownsRow_lit (e := 59) (size := 33) w #[] 0 hB (by unfold maxLen; omega) rfl
theorem built51F (p : ByteArray) (q : Int) (a : Option Addr) (n c : Nat) (ps : List Pc) (h : n = ps.length) : Try.prog.built 51 [(0, .string p), (2, .int .i64 q), (3, .slice a n c)] = some (Fi.cs ⟨p, 0, q, ps, a, c⟩).toArray := by
  subst h
  kernel_rfl
/-- A told file's block behind its size. -/
theorem fi_size {w : World} {b : Nat} {i : Fi} (h : w.heap[b]? = some (.cells i.cs.toArray 51)) (z : Int) : (w.setCell ⟨b, 1, none⟩ (.int .i64 z)).heap[b]? = some (.cells ({ i with size := z } : Fi).cs.toArray 51) := by
  rw [Joins.block_setCell h]
  rfl
end Go.Proofs.Ytcbjlnabbfkkeaa
