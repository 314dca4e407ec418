/-
  The contract of the document's Sum: the digest of all rows.
-/
import Derived.Test.YtpbaacplgohniaaDoorShRefBytes
import Derived.Test.YtpbaacplgohniaaDoorShRefPad
import Derived.Laws.AppendOwnNone
import Derived.Laws.BytesArg
namespace Go.Proofs.YtpbaacplgohniaaDoor.Sh
open Go.RowKit Sha

/-- A slice value v reads, in the world w, as the bytes zs. -/
structure Rd (w : World) (v : Value) (a : Option Addr) (cap : Nat) (zs : List Nat) : Prop where
  val : v = .slice a zs.length cap
  room : zs.length ≤ cap
  most : cap ≤ maxLen
  cells : 0 < zs.length → ∃ b off, a = some ⟨b, off, none⟩ ∧ b < w.heap.size ∧ ∀ j, j < zs.length → w.cell? ⟨b, off + j, none⟩ = some (.int .u8 ((zs.getD j 0 : Nat) : Int))
  hi : ∀ j, zs.getD j 0 < 256
  nil : a = none → cap = 0

set_option maxRecDepth 100000 in
theorem Rd.later {w w' : World} {v : Value} {a : Option Addr} {cap : Nat} {zs : List Nat} (h : Rd w v a cap zs) (hb : Below w.heap.size w w') : Rd w' v a cap zs := by
  refine ⟨h.val, h.room, h.most, fun h0 => ?_, h.hi, h.nil⟩
  obtain ⟨b, off, ha, hbw, hc⟩ := h.cells h0
  exact ⟨b, off, ha, Nat.lt_of_lt_of_le hbw hb.size, fun j hj => (hb.cell (p := ⟨b, off + j, none⟩) hbw).trans (hc j hj)⟩

/-- A slice of slices reads, in the world w, as these rows of bytes. -/
structure Ps (w : World) (a : Option Addr) (cap : Nat) (l : List (List Nat)) : Prop where
  room : l.length ≤ cap
  most : cap ≤ maxLen
  cells : 0 < l.length → ∃ b off, a = some ⟨b, off, none⟩ ∧ b < w.heap.size ∧ ∀ j, j < l.length → ∃ v a' cap', w.cell? ⟨b, off + j, none⟩ = some v ∧ Rd w v a' cap' (l.getD j [])

set_option maxRecDepth 100000 in
theorem V_one (l : List Nat) : ∀ u ∈ V l, u.oneCell' = true := by
  intro u hu
  simp only [V, List.mem_map] at hu
  obtain ⟨z, _, rfl⟩ := hu
  rfl

set_option maxRecDepth 100000 in
theorem grown_refl (w : World) (r : Option Nat) : w.grownBy w r := ⟨rfl, rfl, rfl, Nat.le_refl _, fun _ _ _ => rfl⟩

set_option maxRecDepth 100000 in
/-- append of bytes, whatever slice they lie in, behind a row that the call owns. -/
theorem app_any (w : World) {ops : Array Oper} {rest : List Oper} {o : Oper} {ac : Act} {Q : Exit → Act → World → Prop} (hgd : o.guard = none) (s x : Operand)
    (ho : o.op = .call { callee := .builtin .append, args := #[s, x], argTypes := #[29, 29] }) (B : Nat) (v : Value) (l : List Nat) (hs : ac.eval s = v) (hown : w.ownsRow B 5 1 v l.length (V l))
    (a : Option Addr) (cap : Nat) (zs : List Nat) (hx : ac.eval x = .slice a zs.length cap) (hrd : Rd w (.slice a zs.length cap) a cap zs) (hbd : l.length + zs.length ≤ 1000000) (hB : B ≤ w.heap.size)
    (h : ∀ v' w', w'.ownsRow B 5 1 v' (l ++ zs).length (V (l ++ zs)) → w.grownBy w' v.ownBlock → wpList Tryd.prog ops Q rest (ac.put o.dst v') w') : wpList Tryd.prog ops Q (o :: rest) ac w := by
  obtain ⟨i0, hi, hz0, hz1, hz2⟩ := info_parts Tryd.info5
  cases a with
  | none =>
    have hz : zs = [] := by
      apply List.length_eq_zero_iff.1
      rcases Nat.eq_zero_or_pos zs.length with h | h
      · exact h
      · obtain ⟨_, _, h', _⟩ := hrd.cells h
        cases h'
    subst hz
    have hc := hrd.nil rfl
    subst hc
    refine wpList_append_own_none hgd s x 29 ho B 5 i0 1 Tryd.underlying29 hi v l.length _ hs hown hx ?_
    have := h v w (by simpa using hown) (grown_refl _ _)
    exact this
  | some ad =>
    refine wpList_append_own w hgd s x 29 ho B 5 i0 (.int .u8 0) 1 1 Tryd.underlying29 hi hz0 hz1 hz2 rfl (by decide) v l.length _ hs hown ad zs.length cap (V zs) hx (by simp [V]) ?_ (V_one _) (by unfold maxLen; omega) (by omega) hB ?_
    · intro j u hj
      have hjl : j < zs.length := by
        have := (List.getElem?_eq_some_iff.1 hj).1
        simpa [V] using this
      obtain ⟨b, off, hb, _, hc⟩ := hrd.cells (by omega)
      injection hb with hb
      subst hb
      rw [Go.WideShapes.add_plain, hc j hjl, ← hj]
      simp [V, List.getD, List.getElem?_eq_getElem hjl]
    · intro v' w' h1 h2 _
      refine h v' w' ?_ h2
      rw [List.length_append, show V (l ++ zs) = V l ++ V zs from by simp [V]]
      exact h1

set_option maxRecDepth 100000 in
theorem rd_own {w : World} {B : Nat} {v : Value} {l : List Nat} (hown : w.ownsRow B 5 1 v l.length (V l)) (h0 : 0 < l.length) (hz : ∀ j, l.getD j 0 < 256) :
    ∃ g cap, v = .slice (some ⟨g, 0, none⟩) l.length cap ∧ B ≤ g ∧ Rd w v (some ⟨g, 0, none⟩) cap l := by
  have h' := hown
  rcases hown.2 with ⟨_, h1⟩ | ⟨g, cp, cur, rfl, hg, hh, hn, hcap, _, _⟩
  · omega
  · refine ⟨g, cp, rfl, hg, rfl, hn, hcap, fun _ => ⟨g, 0, rfl, (Array.getElem?_eq_some_iff.1 hh).1, fun j hj => ?_⟩, hz, fun h => by cases h⟩
    rw [Nat.zero_add, h'.cellAt j (by omega)]
    simp [V, List.getD, List.getElem?_eq_getElem hj]

set_option maxRecDepth 100000 in
theorem getD_app (l m : List Nat) (hl : ∀ j, l.getD j 0 < 256) (hm : ∀ j, m.getD j 0 < 256) (j : Nat) : (l ++ m).getD j 0 < 256 := by
  by_cases hj : j < l.length
  · have := hl j
    simpa [List.getD, List.getElem?_append_left hj] using this
  · have := hm (j - l.length)
    simpa [List.getD, List.getElem?_append_right (show l.length ≤ j by omega)] using this
end Go.Proofs.YtpbaacplgohniaaDoor.Sh
