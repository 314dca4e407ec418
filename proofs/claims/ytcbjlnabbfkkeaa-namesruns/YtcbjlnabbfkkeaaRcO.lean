/-
  Rows of records; record's Next whole; the law's few.
-/
import Derived.Test.YtcbjlnabbfkkeaaRcL
import Derived.Great.FillDense
namespace Go.Proofs.Ytcbjlnabbfkkeaa
open Go.ChangeShapes Go.WideShapes Go.ChangeAt Go.RowKit Go.Deep

theorem kinds_of {r : Rec} (h : kindB r = true) : r.kind = 1 ∨ r.kind = 2 ∨ r.kind = 3 := by
  unfold kindB at h
  split at h
  · exact .inl ‹_›
  · split at h
    · exact .inr (.inr ‹_›)
    · split at h
      · exact .inr (.inl ‹_›)
      · cases h
theorem may_parts {r : Rec} (h : mayB r = true) : (1 ≤ r.seq ∧ r.seq ≤ 1073741824) ∧ (1 ≤ r.epoch ∧ r.epoch ≤ 1073741824) ∧ kindB r = true := by
  unfold mayB at h
  simp only [Bool.and_eq_true, decide_eq_true_eq] at h
  exact ⟨h.1.1, h.1.2, h.2⟩
theorem kind_lead' {r : Rec} (h : kindB r = true) (hk : r.kind = 1) : (r.site = 0 ∨ r.site = 1) ∧ r.path.size = 0 ∧ r.ps = [] := by
  unfold kindB at h
  rw [if_pos hk] at h
  simp only [Bool.and_eq_true, decide_eq_true_eq] at h
  exact ⟨h.1.1, h.1.2, List.length_eq_zero_iff.1 h.2⟩
theorem kind_file' {r : Rec} (h : kindB r = true) (hk : r.kind ≠ 1) : r.site = 0 ∧ pathB r.path = true ∧ (sizO r.ps).2 = 0 ∧ (r.kind = 3 → r.ps = []) := by
  rcases kinds_of h with q | q | q
  · exact absurd q hk
  · unfold kindB at h; rw [q] at h; simp at h; exact ⟨h.1.1, h.1.2, h.2, fun e => by omega⟩
  · unfold kindB at h; rw [q] at h; simp at h; exact ⟨h.2.1.1, h.2.1.2, h.2.2, fun _ => h.1⟩
theorem path_parts {s : ByteArray} (h : pathB s = true) : 1 ≤ s.size ∧ s.size ≤ 255 := by
  unfold pathB at h
  simp only [Bool.and_eq_true, decide_eq_true_eq] at h
  exact h.1
theorem siz_parts {l : List Pc} (h : (sizO l).2 = 0) : l.length ≤ 4096 ∧ l.all nOk = true := by
  unfold sizO at h
  split at h
  · cases h
  · split at h
    · exact ⟨by omega, ‹_›⟩
    · cases h
/-- The slice at a reads, in the world w, as the records l. -/
structure Rr (w : World) (a : Option Addr) (cap : Nat) (l : List Rec) : Prop where
  room : l.length ≤ cap
  most : cap ≤ maxLen
  none0 : a = none → cap = 0
  cells : 0 < l.length → ∃ b off, a = some ⟨b, off, none⟩ ∧ b < w.heap.size ∧ ∀ j, j < l.length → w.rangeAt b (off + j * 38) (l.getD j recZ).cs
  fits : ∀ r ∈ l, Rv w r
theorem Rr.later {w w' : World} {a : Option Addr} {cap : Nat} {l : List Rec} (h : Rr w a cap l) (hb : Below w.heap.size w w') : Rr w' a cap l := by
  refine ⟨h.room, h.most, h.none0, fun h0 => ?_, fun r hr => (h.fits r hr).later hb⟩
  obtain ⟨b, off, ha, hbw, hc⟩ := h.cells h0
  exact ⟨b, off, ha, Nat.lt_of_lt_of_le hbw hb.size, fun j hj => range_later (hc j hj) hb hbw⟩
theorem Rr.get {w : World} {a : Option Addr} {cap : Nat} {l : List Rec} (h : Rr w a cap l) {j : Nat} (hj : j < l.length) : Rv w (l.getD j recZ) :=
  h.fits _ (by simp [List.getD, List.getElem?_eq_getElem hj])
theorem flatR_len (l : List Rec) (h : ∀ r ∈ l, r.prev.length = 32) : (l.flatMap Rec.cs).length = l.length * 38 := by
  induction l with
  | nil => rfl
  | cons x l ih => rw [List.flatMap_cons, List.length_append, Rec.cs_len (h x (by simp)), ih (fun y hy => h y (by simp [hy])), List.length_cons]; omega
theorem flatR_at (l : List Rec) (h : ∀ r ∈ l, r.prev.length = 32) : ∀ j, j < l.length → ∀ i u, (l.getD j recZ).cs[i]? = some u → (l.flatMap Rec.cs)[j * 38 + i]? = some u := by
  induction l with
  | nil => intro j hj; simp at hj
  | cons x l ih =>
    intro j hj i u hu
    have hx := Rec.cs_len (h x (by simp))
    rw [List.flatMap_cons]
    cases j with
    | zero =>
      have hu' : x.cs[i]? = some u := hu
      have hi : i < x.cs.length := (List.getElem?_eq_some_iff.1 hu').1
      rw [show 0 * 38 + i = i from by omega, List.getElem?_append_left hi]
      exact hu'
    | succ j =>
      rw [List.getElem?_append_right (by rw [hx]; omega), hx, show (j + 1) * 38 + i - 38 = j * 38 + i from by omega]
      exact ih (fun y hy => h y (by simp [hy])) j (by simp at hj; omega) i u (by simpa using hu)
theorem Rr.own {w : World} {base : Nat} {v : Value} {l : List Rec} (h : w.ownsRow base 36 38 v l.length (l.flatMap Rec.cs)) (hf : ∀ r ∈ l, Rv w r) : ∃ a cap, v = .slice a l.length cap ∧ Rr w a cap l := by
  rcases h.2 with ⟨rfl, hn⟩ | ⟨g, cap, cur, rfl, hbg, hg, hc, hm, hs, ht⟩
  · rw [hn]
    exact ⟨none, 0, rfl, ⟨by omega, by unfold maxLen; omega, fun _ => rfl, fun h0 => by omega, hf⟩⟩
  · refine ⟨some ⟨g, 0, none⟩, cap, rfl, ⟨hc, hm, (fun h => by cases h), fun _ => ⟨g, 0, rfl, (Array.getElem?_eq_some_iff.1 hg).1, fun j hj i u hu => ?_⟩, hf⟩⟩
    have := flatR_at l (fun r hr => (hf r hr).len) j hj i u hu
    rw [← ht] at this
    rw [Nat.zero_add]
    refine (Joins.cell_of_block hg _).trans ?_
    have hlt : j * 38 + i < (cur.toList.take (l.length * 38)).length := (List.getElem?_eq_some_iff.1 this).1
    rw [List.getElem?_take_of_lt (by simp at hlt; omega)] at this
    simpa using this
theorem Try.info36 : (Try.prog.info? 36).map (fun i => (i.zero, i.size, i.bytes)) = some (some (.agg recZ.cs.toArray), 38, 104) := by kernel_rfl
theorem wpList_buildOne {P : Program} {ops : Array Oper} {rest : List Oper} {o : Oper} {a : Act} {w : World} {Q : Exit → Act → World → Prop} (hg : o.guard = none) (t e : TypeId) (x : Operand) (ho : o.op = .buildSlice t 1 #[(0, x)]) (d : Option Tmp) (hd : o.dst = d)
    (cells : Array Value) (ie : TypeInfo) (z : Value) (hu : P.underlying t = some (.slice e)) (hie : P.info? e = some ie) (hz : ie.zero = some z) (hs : ie.size = cells.size) (hp : 0 < cells.size) (hq : cells.size ≤ 1000) (hx : a.eval x = .agg cells)
    (h : wpList P ops Q rest (a.put d (.slice (some ⟨w.heap.size, 0, none⟩) 1 1)) (w.alloc (.cells cells e))) : wpList P ops Q (o :: rest) a w := by
  subst hd
  refine wpList_buildSlice hg t e 1 _ ho cells ie z hu hie hz (by rw [hs]; omega) (by rw [hs]; omega) ?_ h
  have := Great.fill_whole (s := cells.size) hp [.agg cells] ((Array.range (1 * cells.size)).map (z.cells[· % z.cells.size]!)) (fun v hv => by simp at hv; subst hv; rfl) (by simp)
  rw [hs]
  simpa [hx, Value.cells] using this
end Go.Proofs.Ytcbjlnabbfkkeaa
