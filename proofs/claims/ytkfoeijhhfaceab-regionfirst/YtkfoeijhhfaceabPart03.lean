/-
  Blocks are put behind those of a row: the contracts of region's putter and of its closure.
-/
import Derived.Test.YtkfoeijhhfaceabPart02
namespace Go.Proofs.Ytkfoeijhhfaceab
open Go.RowKit

/-- What a round may turn: of the blocks below base those that T names alone, and nothing below n₀, and nothing that is no cells. -/
structure Fb (n₀ base : Nat) (T : Nat → Prop) (W W' : World) : Prop where
  bel : Below n₀ W W'
  kt : Kt base T W W'
  oth : KeepsOthers W W'
theorem Fb.refl (n₀ base : Nat) (T : Nat → Prop) (W : World) : Fb n₀ base T W W := ⟨Below.refl _ _, Kt.refl _ _ _, KeepsOthers.refl _⟩
theorem Fb.trans {n₀ base : Nat} {T : Nat → Prop} {A B C : World} (h : Fb n₀ base T A B) (k : Fb n₀ base T B C) : Fb n₀ base T A C := ⟨h.bel.trans k.bel, h.kt.trans k.kt, h.oth.trans k.oth⟩
theorem Fb.below {n₀ base : Nat} {T : Nat → Prop} {W W' : World} (hb : Below W.heap.size W W') (h1 : n₀ ≤ base) (h2 : base ≤ W.heap.size) : Fb n₀ base T W W' :=
  ⟨hb.mono (by omega), Kt.below hb h2, ⟨hb.size, fun k o hk _ => (hb.block k (Array.getElem?_eq_some_iff.1 hk).1).trans hk⟩⟩
theorem Fb.set {n₀ base B i : Nat} {T : Nat → Prop} (W : World) (u : Value) (h1 : n₀ ≤ B) (h2 : T B ∨ base ≤ B) : Fb n₀ base T W (W.setCell ⟨B, i, none⟩ u) :=
  ⟨(Below.refl n₀ W).setCell (p := ⟨B, i, none⟩) h1 u, ⟨((Below.refl n₀ W).setCell (p := ⟨B, i, none⟩) h1 u).size, fun k hk ht => Below.heap_setCell W ⟨B, i, none⟩ u k (by rintro rfl; rcases h2 with h2 | h2; exact ht h2; omega)⟩, KeepsOthers.setCell _ _ _⟩
theorem Fb.weak {n₀ base : Nat} {T T' : Nat → Prop} {W W' : World} (h : Fb n₀ base T W W') (ht : ∀ i, T i → T' i) : Fb n₀ base T' W W' := ⟨h.bel, ⟨h.kt.size, fun i hi hn => h.kt.old i hi (fun h2 => hn (ht i h2))⟩, h.oth⟩

theorem own_cell {w : World} {B e sz n cap g k : Nat} {xs : List Value} (h : w.ownsRow B e sz (.slice (some ⟨g, 0, none⟩) n cap) n xs) (u : Value) : (w.setCell ⟨g, k, none⟩ u).ownsRow B e sz (.slice (some ⟨g, 0, none⟩) n cap) n (xs.set k u) := by
  obtain ⟨h1, h2 | ⟨g', cap', cur, e', hb, hg, h3, h4, h5, h6⟩⟩ := h
  · simp at h2
  · injection e' with e1 e2 e3
    injection e1 with e1
    injection e1 with e1
    subst e1 e3
    refine ⟨by rw [List.length_set]; exact h1, .inr ⟨g, cap, cur.setIfInBounds k u, rfl, hb, Joins.block_setCell hg u, h3, h4, by simpa using h5, ?_⟩⟩
    rw [← h6, Array.toList_setIfInBounds, List.take_set]

theorem Try.info29 : (Try.prog.info? 29).map (fun i => (i.zero, i.size, i.bytes)) = some (some (.agg #[.int .i64 0, .int .i64 0]), 2, 16) := by kernel_rfl
theorem ext_new (w : World) (x : Ext) (j : Nat) (u : Value) (h : (extC x)[j]? = some u) : (w.alloc (.cells (extV x) 29)).cell? ((⟨w.heap.size, 0, none⟩ : Addr).add j) = some u := by
  have e := Joins.cell_of_block (heap_new w (.cells (extV x) 29)) j
  rw [Go.WideShapes.add_plain, Nat.zero_add, e]
  unfold extV extC at *
  rw [List.getElem?_toArray]
  exact h
/-- append of one extent: the row stays where it lay, or lies anew. -/
theorem run_app2 (w0 : World) (B n : Nat) (v : Value) (X : List Ext) (y : Ext) (ty : TypeId) (hown : w0.ownsRow B 29 2 v n (X.flatMap extC)) (hbd : n + 1 ≤ 100000) (hB : B ≤ w0.heap.size) :
    ∃ v' w', (Builtin.append_ #[22, 22] ty #[v, .slice (some ⟨w0.heap.size, 0, none⟩) 1 1]).run Try.prog (w0.alloc (.cells (extV y) 29)) = .ok v' w' ∧ w'.ownsRow B 29 2 v' (n + 1) ((X ++ [y]).flatMap extC) ∧ (w0.alloc (.cells (extV y) 29)).grownBy w' v.ownBlock ∧ ∀ g, v'.ownBlock = some g → v.ownBlock = some g ∨ w0.heap.size ≤ g := by
  obtain ⟨i0, hi, hz0, hz1, hz2⟩ := info_parts Try.info29
  obtain ⟨v', w', hr, h2, h3, _⟩ := run_append_own (P := Try.prog) (w0.alloc (.cells (extV y) 29)) B 22 ty 29 i0 _ 2 16 Try.underlying22 hi hz0 hz1 hz2 rfl (by decide) v n _ (hown.alloc _) ⟨w0.heap.size, 0, none⟩ 1 1 (extC y) rfl (ext_new w0 y) (extC_one y) (by unfold maxLen; omega) (by omega) (by simp; omega)
  refine ⟨v', w', hr, by rw [extC_snoc]; exact h2, h3, fun g hg => ?_⟩
  have ho := hown.alloc (.cells (extV y) 29)
  rcases hown.2 with ⟨rfl, h0⟩ | ⟨g0, cap, cur, rfl, hb, hh, hnc, _⟩
  · have hx : X.flatMap extC = [] := List.eq_nil_of_length_eq_zero (by rw [hown.1, h0])
    obtain ⟨v2, w2, hr2, h4, _⟩ := run_append_own (P := Try.prog) (w0.alloc (.cells (extV y) 29)) w0.heap.size 22 ty 29 i0 _ 2 16 Try.underlying22 hi hz0 hz1 hz2 rfl (by decide) (.slice none 0 0) 0 [] ⟨rfl, .inl ⟨rfl, rfl⟩⟩ ⟨w0.heap.size, 0, none⟩ 1 1 (extC y) rfl (ext_new w0 y) (extC_one y) (by unfold maxLen; omega) (by omega) (by simp)
    rw [hr] at hr2
    injection hr2 with e1 e2
    subst e1
    exact .inr (own_block h4 g hg).1
  · by_cases hroom : n + 1 ≤ cap
    · obtain ⟨w2, hr2, h4, _⟩ := run_append_fits (P := Try.prog) (w0.alloc (.cells (extV y) 29)) B 22 ty 29 i0 2 Try.underlying22 hi hz1 g0 n cap _ ho ⟨w0.heap.size, 0, none⟩ 1 1 (extC y) rfl (ext_new w0 y) (extC_one y) hroom
      rw [hr] at hr2
      injection hr2 with e1 e2
      subst e1
      exact .inl hg
    · have hi2 : i0.size = 2 := hz1
      have hr2 := run_append_grow (P := Try.prog) (w0.alloc (.cells (extV y) 29)) 22 ty 29 i0 _ Try.underlying22 hi hz0 ⟨g0, 0, none⟩ n cap _ (by rw [hi2]; exact ho.1) (ho.cells (g := g0) rfl) ⟨w0.heap.size, 0, none⟩ 1 1 (extC y) (by rw [hi2]; rfl) (ext_new w0 y) (by omega) (by omega) (growslice_fits (by omega) (by rw [hz2]; omega))
      rw [hr] at hr2
      injection hr2 with e1 e2
      subst e1
      simp only [Value.ownBlock, Option.some.injEq] at hg
      subst hg
      refine .inr ?_
      simp
/-- The same as an operation. -/
theorem wp_app2 (w w0 : World) {o : Oper} {ac : Act} {K : Act → World → Prop} {Q : Exit → Act → World → Prop} (s x : Operand)
    (ho : o.op = .call { callee := .builtin .append, args := #[s, x], argTypes := #[22, 22] }) (B n : Nat) (v : Value) (X : List Ext) (y : Ext) (hs : ac.eval s = v) (hown : w0.ownsRow B 29 2 v n (X.flatMap extC))
    (hw : w = w0.alloc (.cells (extV y) 29)) (hx : ac.eval x = .slice (some ⟨w0.heap.size, 0, none⟩) 1 1) (hbd : n + 1 ≤ 100000) (hB : B ≤ w0.heap.size)
    (h : ∀ v' w', w'.ownsRow B 29 2 v' (n + 1) ((X ++ [y]).flatMap extC) → w.grownBy w' v.ownBlock → (∀ g, v'.ownBlock = some g → v.ownBlock = some g ∨ w0.heap.size ≤ g) → K (ac.put o.dst v') w') : o.wp Try.prog ac w K Q := by
  subst hw
  obtain ⟨v', w', hr, h2, h3, h4⟩ := run_app2 w0 B n v X y o.type hown hbd hB
  unfold Oper.wp execOp
  simp only [ho, resolve, invoke, builtin, Sem.run_bind, Sem.run_pure, Result.andThen_ok, List.map_toArray, List.map_cons, List.map_nil, hs, hx, hr]
  exact h v' w' h2 h3 h4

/-- A row that is made, its variable and the variable that points there. -/
structure Pu (W : World) (Bp Bx base : Nat) (v : Value) (l : List Ext) : Prop where
  ptr : Boxed W Bp 46 (.pointer (some ⟨Bx, 0, none⟩))
  box : Boxed W Bx 22 v
  own : W.ownsRow base 29 2 v l.length (l.flatMap extC)
theorem putter_word (Bx : Nat) (w : World) :
    Calls Try.prog 20 #[.pointer (some ⟨Bx, 0, none⟩)] w fun e w' => e = .returned (.func (.func 21) #[] #[.pointer (some ⟨w.heap.size, 0, none⟩)]) ∧ w' = w.alloc (.cells #[.pointer (some ⟨Bx, 0, none⟩)] 46) := by
  go_enter Try.func20, Try.ntmps20
  go_wp2
  go_ret
  exact ⟨rfl, rfl⟩
theorem ptr_not_row {W : World} {B : Nat} {a : Option Addr} {v : Value} (h : Boxed W B 46 (.pointer a)) (k : Boxed W B 22 v) : False := by
  have := (show W.heap[B]? = _ from h).symm.trans k
  simp at this
theorem own_cells {w : World} {B e sz n : Nat} {v : Value} {xs : List Value} (h : w.ownsRow B e sz v n xs) {k : Nat} (hk : v.ownBlock = some k) (t : Obj) {o : Obj} (ho : (w.drew.alloc t).heap[k]? = some o) : o.isCells = true := by
  rcases h.2 with ⟨rfl, _⟩ | ⟨g, cap, cur, rfl, _, hg, _⟩
  · cases hk
  · simp only [Value.ownBlock, Option.some.injEq] at hk
    subst hk
    have h2 := heap_old w.drew t (i := g) (x := .cells cur e (0, 0)) hg
    rw [h2] at ho
    cases ho
    rfl
theorem Pu.kept {W W' : World} {Bp Bx base : Nat} {v : Value} {l : List Ext} (h : Pu W Bp Bx base v l) (hb : Below W.heap.size W W') : Pu W' Bp Bx base v l :=
  ⟨(hb.block Bp h.ptr.lt).trans h.ptr, (hb.block Bx h.box.lt).trans h.box, own_later h.own hb⟩
/-- Extents whose numbers are far from an int's ends. -/
structure Bd (l : List Ext) : Prop where
  all : ∀ z, z ∈ l → 0 ≤ z.1 ∧ z.1 ≤ 1000000000 ∧ 0 ≤ z.2 ∧ z.2 ≤ 1000000000000
  len : l.length ≤ 50000
def PutPost (Bp Bx base n₀ : Nat) (v : Value) (l : List Ext) (w : World) (e : Ending) (w' : World) : Prop := (∃ x, e = .returned x) ∧ (∃ v', Pu w' Bp Bx base v' l ∧ ∀ g, v'.ownBlock = some g → v.ownBlock = some g ∨ w.heap.size ≤ g) ∧ Fb n₀ base (fun i => i = Bx) w w' ∧ ∀ i, i < w.heap.size → i ≠ Bx → some i ≠ v.ownBlock → w'.heap[i]? = w.heap[i]?
theorem putl_len (l : List Ext) (f t : Int) : (putL l f t).length ≤ l.length + 1 := by
  by_cases h : t ≤ f
  · rw [put_no h]; omega
  · rcases snoc_or l with rfl | ⟨m, z, rfl⟩
    · rw [put_nil h]; simp
    · by_cases hz : z.1 + z.2 = f
      · rw [put_join h hz]; simp
      · rw [put_more h hz]; simp

set_option maxHeartbeats 6400000 in
set_option maxRecDepth 100000 in
theorem put_skip (f t : Int) (Bp Bx base n₀ : Nat) (v : Value) (l : List Ext) (w : World) (hp : Pu w Bp Bx base v l) (h : t ≤ f) (hl : l.length ≤ 50000) :
    Calls Try.prog 21 #[.int .i64 f, .int .i64 t, .pointer (some ⟨Bp, 0, none⟩)] w (PutPost Bp Bx base n₀ v (putL l f t) w) := by
  unfold PutPost
  rw [put_no h]
  have c1 := hp.ptr.cell
  have c2 := hp.box.cell
  have HP := hid hp
  obtain ⟨a, cap, rfl⟩ : ∃ a cap, v = .slice a l.length cap := by
    rcases hp.own.2 with ⟨rfl, h0⟩ | ⟨g, cap, _, rfl, _⟩
    · exact ⟨none, 0, by rw [h0]⟩
    · exact ⟨_, _, rfl⟩
  clear hp
  have hlz : (l.length : Int) ≤ 50000 := by omega
  generalize l.length = n at *
  go_enter Try.func21, Try.ntmps21
  go_wp2
  go_end0
  exact ⟨⟨_, rfl⟩, ⟨_, HP.out, fun g hg => .inl hg⟩, Fb.refl _ _ _ _, fun _ _ _ _ => rfl⟩

set_option maxHeartbeats 6400000 in
set_option maxRecDepth 100000 in
theorem put_last (f t : Int) (Bp Bx base n₀ : Nat) (v : Value) (m : List Ext) (z : Ext) (w : World) (hp : Pu w Bp Bx base v (m ++ [z])) (h : ¬ t ≤ f) (hz : z.1 + z.2 = f) (hf : 0 ≤ f) (ht : t ≤ 5000) (hz0 : 0 ≤ z.1) (hz1 : 0 ≤ z.2) (hz2 : z.2 ≤ 1000000000000) (hz3 : z.1 ≤ 1000000000) (hl : m.length + 1 ≤ 50000) (hbp : Bp < base) (hbx : Bx < base) (hn : n₀ ≤ base) (hbs : base ≤ w.heap.size) :
    Calls Try.prog 21 #[.int .i64 f, .int .i64 t, .pointer (some ⟨Bp, 0, none⟩)] w (PutPost Bp Bx base n₀ v (putL (m ++ [z]) f t) w) := by
  unfold PutPost
  rw [put_join h hz]
  have hlen : (m ++ [z]).length = m.length + 1 := by simp
  have hown := hp.own
  rw [hlen] at hown
  obtain ⟨g, cap, rfl⟩ := ownsRow_succ hown
  have c1 := hp.ptr.cell
  have c2 := hp.box.cell
  obtain ⟨hgb, hgw⟩ := own_block hown g rfl
  obtain ⟨_, cur, hg⟩ : ∃ cap' cur, w.heap[g]? = some (.cells cur 29 (0, 0)) := by
    rcases hown.2 with ⟨h0, _⟩ | ⟨g', cap', cur, e', _, hg, _⟩
    · cases h0
    · injection e' with e1
      injection e1 with e1
      injection e1 with e1
      subst e1
      exact ⟨cap', cur, hg⟩
  have hroom : m.length + 1 ≤ cap := by
    rcases hown.2 with ⟨h0, _⟩ | ⟨g', cap', cur, e', _, _, hn, _⟩
    · cases h0
    · injection e' with _ _ e3
      subst e3
      exact hn
  obtain ⟨k0, k1⟩ := flat_get (m ++ [z]) m.length (by simp)
  have ez : (m ++ [z]).getD m.length ex0 = z := by simp [List.getD]
  rw [ez] at k0 k1
  have d0 := (hown.cellAt (g := g) _ (by omega)).trans k0
  have d1 := (hown.cellAt (g := g) _ (by omega)).trans k1
  have fz := Joins.unfrozen_of_block hg (m.length * 2 + 1)
  have HEN := hid (end_word z w (by omega) (by omega))
  have HOW := hid hown
  have HPT := hid hp.ptr
  have HBX := hid hp.box
  have HG := hid hgb
  have HZ := hid hz
  have HFL : Hid ((((m ++ [z]).flatMap extC).set (m.length * 2 + 1) (.int .i64 (z.2 + (t - f)))) = (m ++ [(z.1, z.2 + (t - f))]).flatMap extC) := by
    show _ = _
    rw [List.flatMap_append, List.flatMap_append, List.set_append_right _ _ (by rw [extC_len]; omega), extC_len]
    congr 1
    rw [show m.length * 2 + 1 - m.length * 2 = 1 from by omega]
    rfl
  have HL2 : Hid ((m ++ [(z.1, z.2 + (t - f))]).length = m.length + 1) := by show _ = _; simp
  obtain ⟨z0, z1⟩ := z
  dsimp only at *
  unfold extV at HEN
  dsimp only at HEN
  have hm0 : ((m.length + 1 : Nat) : Int) - 1 = (m.length : Int) := by omega
  have hge : (0 : Int) ≤ (m.length : Int) := by omega
  have hnf : ¬ f ≥ t := by omega
  have hML : (m.length : Int) ≤ 50000 := by omega
  clear hp hown hlen ez k0 k1 hg
  generalize hmm : m.length = n at *
  have HMM := hid hmm
  clear hmm
  go_enter Try.func21, Try.ntmps21
  go_wp2_with fail
  refine HEN.out.mono ?_
  rintro _ w1 ⟨rfl, hb1⟩
  have e1 := (hb1.cell (p := ⟨Bp, 0, none⟩) HPT.out.lt).trans c1
  have e2 := (hb1.cell (p := ⟨Bx, 0, none⟩) HBX.out.lt).trans c2
  have e3 := (hb1.cell (p := ⟨g, n * 2 + 1, none⟩) hgw).trans d1
  have HO1 := hid (own_later HOW.out hb1)
  have HP1 : Hid (Boxed w1 Bp 46 (.pointer (some ⟨Bx, 0, none⟩))) := (hb1.block Bp HPT.out.lt).trans HPT.out
  have HX1 : Hid (Boxed w1 Bx 22 (.slice (some ⟨g, 0, none⟩) (n + 1) cap)) := (hb1.block Bx HBX.out.lt).trans HBX.out
  have e4 : w1.frozen? ⟨g, n * 2 + 1, none⟩ = false := by
    rcases HO1.out.2 with ⟨h0, _⟩ | ⟨g', cap', cur', e', _, hg', _⟩
    · cases h0
    · injection e' with e1
      injection e1 with e1
      injection e1 with e1
      subst e1
      exact Joins.unfrozen_of_block hg' _
  have HB1 := hid hb1
  have HZ2 := hid hz1
  clear c1 c2 d0 d1 fz hb1 HEN HOW HPT HBX
  rw [HZ.out]
  clear hz
  go_wp2
  go_end0
  refine ⟨⟨_, rfl⟩, ⟨.slice (some ⟨g, 0, none⟩) (n + 1) cap, ⟨?_, ?_, ?_⟩, fun g hg => .inl hg⟩, ?_, fun i hi _ ho => (Below.heap_setCell w1 ⟨g, n * 2 + 1, none⟩ _ i (fun e => ho (by have e : i = g := e; rw [e]; rfl))).trans (HB1.out.block i hi)⟩
  · exact (Below.heap_setCell w1 ⟨g, n * 2 + 1, none⟩ _ Bp (fun e => by have e : Bp = g := e; omega)).trans HP1.out
  · exact (Below.heap_setCell w1 ⟨g, n * 2 + 1, none⟩ _ Bx (fun e => by have e : Bx = g := e; omega)).trans HX1.out
  · rw [HL2.out, ← HFL.out]
    exact own_cell HO1.out _
  · exact (Fb.below HB1.out hn hbs).trans (Fb.set w1 _ (by omega) (.inr hgb))

set_option maxHeartbeats 6400000 in
set_option maxRecDepth 100000 in
theorem put_new (f t : Int) (Bp Bx base n₀ : Nat) (v : Value) (l : List Ext) (w : World) (hp : Pu w Bp Bx base v l) (h : ¬ t ≤ f) (hq : putL l f t = l ++ [(f, t - f)]) (hrow : Bd l) (hz : ∀ m z, l = m ++ [z] → ¬ z.1 + z.2 = f) (hf : 0 ≤ f) (ht : t ≤ 5000) (hbp : Bp < base) (hbx : Bx < base) (hnx : n₀ ≤ Bx) (hn : n₀ ≤ base) (hbs : base ≤ w.heap.size) :
    Calls Try.prog 21 #[.int .i64 f, .int .i64 t, .pointer (some ⟨Bp, 0, none⟩)] w (PutPost Bp Bx base n₀ v (putL l f t) w) := by
  unfold PutPost
  rw [hq]
  have hll := hrow.len
  have c1 := hp.ptr.cell
  have c2 := hp.box.cell
  have HP := hid hp
  have hnf : ¬ f ≥ t := by omega
  have hlz : (l.length : Int) ≤ 50000 := by omega
  have HWR : Hid (IntKind.i64.wrap (t - f) = t - f) := hid (IntWalk.i64_in _ ⟨by omega, by omega⟩)
  rcases snoc_or l with hl0 | ⟨m, zz, hl0⟩
  · have hv : v = .slice none 0 0 ∨ ∃ g cap, v = .slice (some ⟨g, 0, none⟩) 0 cap := by
      rcases hp.own.2 with ⟨h0, _⟩ | ⟨g, cap, _, h0, _⟩
      · exact .inl h0
      · exact .inr ⟨g, cap, by rw [h0, hl0]; rfl⟩
    have hvl : ∃ a cap, v = .slice a 0 cap := by
      rcases hv with h0 | ⟨g, cap, h0⟩
      · exact ⟨none, 0, h0⟩
      · exact ⟨_, _, h0⟩
    obtain ⟨a, cap, rfl⟩ := hvl
    have HZL : Hid (l.length = 0) := by show _ = _; rw [hl0]; rfl
    clear hp hv hz hl0 hlz
    have HB0 := hid (Fb.below (T := fun i => i = Bx) (Below.refl w.heap.size w) hn hbs)
    obtain ⟨w0, hw0⟩ : ∃ w0, w0 = w := ⟨_, rfl⟩
    go_enter Try.func21, Try.ntmps21
    go_wp2
    clear c1 c2
    refine OrdE.region (fun W => Boxed W Bp 46 (.pointer (some ⟨Bx, 0, none⟩)) ∧ Boxed W Bx 22 (.slice a 0 cap)) 12 (by kernel_rfl) ⟨HP.out.ptr, HP.out.box⟩ ?_
    intro hS
    refine OrdE.take (i := 0) (d := 11) (v := ?vA0) rfl rfl rfl (by as_aux_lemma => kernel_rfl) (by as_aux_lemma => kernel_rfl) (by as_aux_lemma => kernel_rfl) (by as_aux_lemma => kernel_rfl) (fun _ _ _ h => h) (by rfl) ?hA0 (by assumption) ?_
    case hA0 => intro w hSw; have e := hSw.1.cell; go_simp; try with_reducible rfl
    simp only [List.setIfInBounds_toArray, List.set_cons_zero, List.set_cons_succ]
    refine OrdE.take (i := 1) (d := 12) (v := ?vA1) rfl rfl rfl (by as_aux_lemma => kernel_rfl) (by as_aux_lemma => kernel_rfl) (by as_aux_lemma => kernel_rfl) (by as_aux_lemma => kernel_rfl) (fun _ _ _ h => h) (by rfl) ?hA1 (by assumption) ?_
    case hA1 => intro w hSw; have e := hSw.1.cell; go_simp; try with_reducible rfl
    simp only [List.setIfInBounds_toArray, List.set_cons_zero, List.set_cons_succ]
    refine OrdE.take (i := 2) (d := 13) (v := ?vA2) rfl rfl rfl (by as_aux_lemma => kernel_rfl) (by as_aux_lemma => kernel_rfl) (by as_aux_lemma => kernel_rfl) (by as_aux_lemma => kernel_rfl) (fun _ _ _ h => h) (by rfl) ?hA2 (by assumption) ?_
    case hA2 => intro w hSw; go_simp; try with_reducible rfl
    simp only [List.setIfInBounds_toArray, List.set_cons_zero, List.set_cons_succ]
    refine OrdE.take (i := 3) (d := 14) (v := (.slice a 0 cap)) rfl rfl rfl (by as_aux_lemma => kernel_rfl) (by as_aux_lemma => kernel_rfl) (by as_aux_lemma => kernel_rfl) (by as_aux_lemma => kernel_rfl) (fun _ _ _ h => h) (by rfl) ?hA3 (by assumption) ?_
    case hA3 => intro w hSw; have e := hSw.2.cell; go_simp; try with_reducible rfl
    simp only [List.setIfInBounds_toArray, List.set_cons_zero, List.set_cons_succ]
    refine OrdE.take (i := 4) (d := 15) (v := ?vA4) rfl rfl rfl (by as_aux_lemma => kernel_rfl) (by as_aux_lemma => kernel_rfl) (by as_aux_lemma => kernel_rfl) (by as_aux_lemma => kernel_rfl) (fun _ _ _ h => h) (by rfl) ?hA4 (by assumption) ?_
    case hA4 => intro w hSw; go_simp; try with_reducible rfl
    simp only [List.setIfInBounds_toArray, List.set_cons_zero, List.set_cons_succ]
    refine OrdE.take (i := 5) (d := 16) (v := ?vA5) rfl rfl rfl (by as_aux_lemma => kernel_rfl) (by as_aux_lemma => kernel_rfl) (by as_aux_lemma => kernel_rfl) (by as_aux_lemma => kernel_rfl) (fun _ _ _ h => h) (by rfl) ?hA5 (by assumption) ?_
    case hA5 => intro w hSw; go_simp; try with_reducible rfl
    simp only [List.setIfInBounds_toArray, List.set_cons_zero, List.set_cons_succ]
    refine OrdE.take (i := 6) (d := 17) (v := ?vA6) rfl rfl rfl (by as_aux_lemma => kernel_rfl) (by as_aux_lemma => kernel_rfl) (by as_aux_lemma => kernel_rfl) (by as_aux_lemma => kernel_rfl) (fun _ _ _ h => h) (by rfl) ?hA6 (by assumption) ?_
    case hA6 => intro w hSw; go_simp; try with_reducible rfl
    simp only [List.setIfInBounds_toArray, List.set_cons_zero, List.set_cons_succ]
    refine OrdE.take (i := 7) (d := 18) (v := .int .i64 (t - f)) rfl rfl rfl (by as_aux_lemma => kernel_rfl) (by as_aux_lemma => kernel_rfl) (by as_aux_lemma => kernel_rfl) (by as_aux_lemma => kernel_rfl) (fun _ _ _ h => h) (by rfl) ?hA7 (by assumption) ?_
    case hA7 => intro w hSw; go_simp; exact HWR.out
    simp only [List.setIfInBounds_toArray, List.set_cons_zero, List.set_cons_succ]
    refine OrdE.take (i := 8) (d := 19) (v := ?vA8) rfl rfl rfl (by as_aux_lemma => kernel_rfl) (by as_aux_lemma => kernel_rfl) (by as_aux_lemma => kernel_rfl) (by as_aux_lemma => kernel_rfl) (fun _ _ _ h => h) (by rfl) ?hA8 (by assumption) ?_
    case hA8 => intro w hSw; go_simp; try with_reducible rfl
    simp only [List.setIfInBounds_toArray, List.set_cons_zero, List.set_cons_succ]
    refine OrdE.one (i := 9) (by as_aux_lemma => kernel_rfl) rfl (fun K hK => ?_)
    go_simp
    refine hK _ _ (fun _ => ⟨hS.1.alloc _, hS.2.alloc _⟩) ?_
    clear hK K
    try simp only [List.setIfInBounds_toArray, List.set_cons_zero, List.set_cons_succ]
    refine OrdE.one (i := 10) (by as_aux_lemma => kernel_rfl) rfl (fun K hK => ?_)
    rw [if_pos (by rfl)]
    refine wp_app2 _ w.drew (.tmp 14) (.tmp 20) rfl base l.length (.slice a 0 cap) l (f, t - f) rfl HP.out.own.drew rfl rfl (by omega) (by show base ≤ w.heap.size; omega) ?_
    intro v' w2 hown2 hgrow2 hfr2
    have HFR : Hid (∀ g', v'.ownBlock = some g' → Value.ownBlock (.slice a 0 cap) = some g' ∨ w.heap.size ≤ g') := fun g' hg' => (hfr2 g' hg').imp id (fun h => by have h : w.heap.size ≤ g' := h; have := (Nat.le_refl w.heap.size); omega)
    have hob := own_block HP.out.own
    have hne : ∀ B, B < base → some B ≠ (Value.ownBlock (.slice a 0 cap)) := fun B hB e => by
      have := (hob B e.symm).1
      omega
    have hp2 : Boxed w2 Bp 46 (.pointer (some ⟨Bx, 0, none⟩)) := (hS.1.alloc _).kept hgrow2 (hne Bp hbp)
    have hx2 : Boxed w2 Bx 22 (.slice a 0 cap) := (hS.2.alloc _).kept hgrow2 (hne Bx hbx)
    have HF2 : Hid (Fb n₀ base (fun i => i = Bx) w.drew w2) := by
      refine ⟨((Below.refl n₀ w.drew).alloc (show n₀ ≤ w.heap.size by omega) _).grown hgrow2 (by simp; show n₀ ≤ w.heap.size + 1; omega) (fun k hk => by have := (hob k hk).1; omega), ⟨by have := hgrow2.size; simp at this; show w.heap.size ≤ _; omega, fun k hk _ => ?_⟩, ?_⟩
      · exact (hgrow2.block k (by simp; show k < w.heap.size + 1; omega) (hne k hk)).trans (Below.heap_alloc _ _ k (show k < w.heap.size by omega))
      · exact (KeepsOthers.alloc _ _).trans (KeepsOthers.of_grownBy hgrow2 (fun k o hk ho => own_cells HP.out.own hk _ ho))
    have HGR : Hid (∀ i, i < w.heap.size → some i ≠ Value.ownBlock (.slice a 0 cap) → w2.heap[i]? = w.heap[i]?) := fun i hi ho => (hgrow2.block i (by simp; show i < w.heap.size + 1; have := (Nat.le_refl w.heap.size); omega) ho).trans ((Below.heap_alloc _ _ i (show i < w.heap.size by have := (Nat.le_refl w.heap.size); omega)).trans ((fun _ _ => rfl) i hi))
    refine hK _ _ (fun _ => ⟨hp2, hx2⟩) ?_
    clear hK K
    try refine OrdE.put (d := 21) rfl ?_
    try simp only [List.setIfInBounds_toArray, List.set_cons_zero, List.set_cons_succ]
    refine OrdE.one (i := 11) (by as_aux_lemma => kernel_rfl) rfl (fun K hK => ?_)
    go_simp
    refine hK _ _ (fun _ => ⟨hp2, hx2⟩) ?_
    clear hK K
    try simp only [List.setIfInBounds_toArray, List.set_cons_zero, List.set_cons_succ]
    obtain ⟨g', cap', rfl⟩ := ownsRow_succ hown2
    have ce := hx2.cell
    have fe := hx2.frozen
    refine OrdE.one (i := 12) (by as_aux_lemma => kernel_rfl) rfl (fun K hK => ?_)
    go_simp
    refine hK _ _ (fun h => absurd rfl h) ?_
    clear hK K
    try simp only [List.setIfInBounds_toArray, List.set_cons_zero, List.set_cons_succ]
    refine OrdE.done (by as_aux_lemma => kernel_rfl) ?_ _
    have HP2 := hid hp2
    have HX2 := hid hx2
    have HO2 := hid hown2
    clear ce fe hp2 hx2 hown2 hgrow2 hne hob hS
    go_wp2
    go_end0
    have hg2 := (own_block HO2.out g' rfl)
    refine ⟨⟨_, rfl⟩, ⟨_, ⟨?_, HX2.out.set _, ?_⟩, HFR.out⟩, ?_, fun i hi hx ho => ((Below.heap_setCell w2 ⟨Bx, 0, none⟩ _ i hx).trans (HGR.out i hi ho))⟩
    · exact HP2.out.other (by rintro rfl; exact ptr_not_row HP2.out HX2.out) _
    · rw [List.length_append]
      exact HO2.out.kept (grownBy_setCell' w2 Bx _) (.inr (fun e => by injection e with e; have e : g' = Bx := e; omega))
    · exact (HB0.out.trans ((Fb.below (Below.refl _ w).drew hn (by omega)).trans HF2.out)).trans (Fb.set w2 _ hnx (.inl rfl))
  · obtain ⟨g, cap, rfl⟩ : ∃ g cap, v = .slice (some ⟨g, 0, none⟩) l.length cap := by
      rcases hp.own.2 with ⟨_, h0⟩ | ⟨g, cap, _, h0, _⟩
      · rw [hl0] at h0; simp at h0
      · exact ⟨_, _, h0⟩
    have hown := hp.own
    have hzz := hz m zz hl0
    have hzp := hrow.all zz (by rw [hl0]; simp)
    obtain ⟨n, hn1⟩ : ∃ n, l.length = n + 1 := ⟨m.length, by rw [hl0]; simp⟩
    obtain ⟨hgb, hgw⟩ := own_block hown g rfl
    have hroom : l.length ≤ cap := by
      rcases hown.2 with ⟨h0, _⟩ | ⟨g', cap', cur, e', _, _, hn, _⟩
      · cases h0
      · injection e' with _ _ e3
        subst e3
        exact hn
    obtain ⟨k0, k1⟩ := flat_get l n (by omega)
    have ez : l.getD n ex0 = zz := by
      have : n = m.length := by rw [hl0] at hn1; simp at hn1; omega
      rw [hl0, this]; simp [List.getD]
    rw [ez] at k0 k1
    have d0 := (hown.cellAt (g := g) _ (by omega)).trans k0
    have d1 := (hown.cellAt (g := g) _ (by omega)).trans k1
    have HEN := hid (end_word zz w (by omega) (by omega))
    have HN1 := hid hn1
    have HZZ := hid hzz
    obtain ⟨z0, z1⟩ := zz
    unfold extV at HEN
    dsimp only at d0 d1 HEN hzz
    rw [hn1] at c2 HP hroom hlz
    have hm0 : ((n + 1 : Nat) : Int) - 1 = (n : Int) := by omega
    have hge : (0 : Int) ≤ (n : Int) := by omega
    have hML : (n : Int) ≤ 50000 := by omega
    have HGW := hid hgw
    have HLL := hid hll
    have HHT := hid ht
    clear hp hown hz hl0 k0 k1 ez hn1 hzp hgw hll hlz
    go_enter Try.func21, Try.ntmps21
    go_wp2_with fail
    refine HEN.out.mono ?_
    rintro _ w1 ⟨rfl, hb1⟩
    have HP1 := hid (HP.out.kept hb1)
    have HB0 := hid (Fb.below (T := fun i => i = Bx) hb1 hn hbs)
    have HBL := hid hb1
    have hdz : decide (z0 + z1 = f) = false := decide_eq_false HZZ.out
    clear c1 c2 d0 d1 hb1 HEN HP
    go_wp2
    obtain ⟨w0, hw0⟩ : ∃ w0, w0 = w1 := ⟨_, rfl⟩
    have hbs1 : base ≤ w1.heap.size := Nat.le_trans hbs HB0.out.bel.size
    clear hdz hzz
    have hll := HLL.out
    refine OrdE.region (fun W => Boxed W Bp 46 (.pointer (some ⟨Bx, 0, none⟩)) ∧ Boxed W Bx 22 (.slice (some ⟨g, 0, none⟩) (n + 1) cap)) 12 (by kernel_rfl) ⟨HP1.out.ptr, HP1.out.box⟩ ?_
    intro hS
    refine OrdE.take (i := 0) (d := 11) (v := ?vB0) rfl rfl rfl (by as_aux_lemma => kernel_rfl) (by as_aux_lemma => kernel_rfl) (by as_aux_lemma => kernel_rfl) (by as_aux_lemma => kernel_rfl) (fun _ _ _ h => h) (by rfl) ?hB0 (by assumption) ?_
    case hB0 => intro w hSw; have e := hSw.1.cell; go_simp; try with_reducible rfl
    simp only [List.setIfInBounds_toArray, List.set_cons_zero, List.set_cons_succ]
    refine OrdE.take (i := 1) (d := 12) (v := ?vB1) rfl rfl rfl (by as_aux_lemma => kernel_rfl) (by as_aux_lemma => kernel_rfl) (by as_aux_lemma => kernel_rfl) (by as_aux_lemma => kernel_rfl) (fun _ _ _ h => h) (by rfl) ?hB1 (by assumption) ?_
    case hB1 => intro w hSw; have e := hSw.1.cell; go_simp; try with_reducible rfl
    simp only [List.setIfInBounds_toArray, List.set_cons_zero, List.set_cons_succ]
    refine OrdE.take (i := 2) (d := 13) (v := ?vB2) rfl rfl rfl (by as_aux_lemma => kernel_rfl) (by as_aux_lemma => kernel_rfl) (by as_aux_lemma => kernel_rfl) (by as_aux_lemma => kernel_rfl) (fun _ _ _ h => h) (by rfl) ?hB2 (by assumption) ?_
    case hB2 => intro w hSw; go_simp; try with_reducible rfl
    simp only [List.setIfInBounds_toArray, List.set_cons_zero, List.set_cons_succ]
    refine OrdE.take (i := 3) (d := 14) (v := (.slice (some ⟨g, 0, none⟩) (n + 1) cap)) rfl rfl rfl (by as_aux_lemma => kernel_rfl) (by as_aux_lemma => kernel_rfl) (by as_aux_lemma => kernel_rfl) (by as_aux_lemma => kernel_rfl) (fun _ _ _ h => h) (by rfl) ?hB3 (by assumption) ?_
    case hB3 => intro w hSw; have e := hSw.2.cell; go_simp; try with_reducible rfl
    simp only [List.setIfInBounds_toArray, List.set_cons_zero, List.set_cons_succ]
    refine OrdE.take (i := 4) (d := 15) (v := ?vB4) rfl rfl rfl (by as_aux_lemma => kernel_rfl) (by as_aux_lemma => kernel_rfl) (by as_aux_lemma => kernel_rfl) (by as_aux_lemma => kernel_rfl) (fun _ _ _ h => h) (by rfl) ?hB4 (by assumption) ?_
    case hB4 => intro w hSw; go_simp; try with_reducible rfl
    simp only [List.setIfInBounds_toArray, List.set_cons_zero, List.set_cons_succ]
    refine OrdE.take (i := 5) (d := 16) (v := ?vB5) rfl rfl rfl (by as_aux_lemma => kernel_rfl) (by as_aux_lemma => kernel_rfl) (by as_aux_lemma => kernel_rfl) (by as_aux_lemma => kernel_rfl) (fun _ _ _ h => h) (by rfl) ?hB5 (by assumption) ?_
    case hB5 => intro w hSw; go_simp; try with_reducible rfl
    simp only [List.setIfInBounds_toArray, List.set_cons_zero, List.set_cons_succ]
    refine OrdE.take (i := 6) (d := 17) (v := ?vB6) rfl rfl rfl (by as_aux_lemma => kernel_rfl) (by as_aux_lemma => kernel_rfl) (by as_aux_lemma => kernel_rfl) (by as_aux_lemma => kernel_rfl) (fun _ _ _ h => h) (by rfl) ?hB6 (by assumption) ?_
    case hB6 => intro w hSw; go_simp; try with_reducible rfl
    simp only [List.setIfInBounds_toArray, List.set_cons_zero, List.set_cons_succ]
    refine OrdE.take (i := 7) (d := 18) (v := .int .i64 (t - f)) rfl rfl rfl (by as_aux_lemma => kernel_rfl) (by as_aux_lemma => kernel_rfl) (by as_aux_lemma => kernel_rfl) (by as_aux_lemma => kernel_rfl) (fun _ _ _ h => h) (by rfl) ?hB7 (by assumption) ?_
    case hB7 => intro w hSw; go_simp; exact HWR.out
    simp only [List.setIfInBounds_toArray, List.set_cons_zero, List.set_cons_succ]
    refine OrdE.take (i := 8) (d := 19) (v := ?vB8) rfl rfl rfl (by as_aux_lemma => kernel_rfl) (by as_aux_lemma => kernel_rfl) (by as_aux_lemma => kernel_rfl) (by as_aux_lemma => kernel_rfl) (fun _ _ _ h => h) (by rfl) ?hB8 (by assumption) ?_
    case hB8 => intro w hSw; go_simp; try with_reducible rfl
    simp only [List.setIfInBounds_toArray, List.set_cons_zero, List.set_cons_succ]
    refine OrdE.one (i := 9) (by as_aux_lemma => kernel_rfl) rfl (fun K hK => ?_)
    go_simp
    refine hK _ _ (fun _ => ⟨hS.1.alloc _, hS.2.alloc _⟩) ?_
    clear hK K
    try simp only [List.setIfInBounds_toArray, List.set_cons_zero, List.set_cons_succ]
    refine OrdE.one (i := 10) (by as_aux_lemma => kernel_rfl) rfl (fun K hK => ?_)
    rw [if_pos (by rfl)]
    refine wp_app2 _ w1.drew (.tmp 14) (.tmp 20) rfl base l.length (.slice (some ⟨g, 0, none⟩) (n + 1) cap) l (f, t - f) rfl HP1.out.own.drew rfl rfl (by omega) (by show base ≤ w1.heap.size; omega) ?_
    intro v' w2 hown2 hgrow2 hfr2
    have HFR : Hid (∀ g', v'.ownBlock = some g' → Value.ownBlock (.slice (some ⟨g, 0, none⟩) (n + 1) cap) = some g' ∨ w.heap.size ≤ g') := fun g' hg' => (hfr2 g' hg').imp id (fun h => by have h : w1.heap.size ≤ g' := h; have := HBL.out.size; omega)
    have hob := own_block HP1.out.own
    have hne : ∀ B, B < base → some B ≠ (Value.ownBlock (.slice (some ⟨g, 0, none⟩) (n + 1) cap)) := fun B hB e => by
      have := (hob B e.symm).1
      omega
    have hp2 : Boxed w2 Bp 46 (.pointer (some ⟨Bx, 0, none⟩)) := (hS.1.alloc _).kept hgrow2 (hne Bp hbp)
    have hx2 : Boxed w2 Bx 22 (.slice (some ⟨g, 0, none⟩) (n + 1) cap) := (hS.2.alloc _).kept hgrow2 (hne Bx hbx)
    have HF2 : Hid (Fb n₀ base (fun i => i = Bx) w1.drew w2) := by
      refine ⟨((Below.refl n₀ w1.drew).alloc (show n₀ ≤ w1.heap.size by omega) _).grown hgrow2 (by simp; show n₀ ≤ w1.heap.size + 1; omega) (fun k hk => by have := (hob k hk).1; omega), ⟨by have := hgrow2.size; simp at this; show w1.heap.size ≤ _; omega, fun k hk _ => ?_⟩, ?_⟩
      · exact (hgrow2.block k (by simp; show k < w1.heap.size + 1; omega) (hne k hk)).trans (Below.heap_alloc _ _ k (show k < w1.heap.size by omega))
      · exact (KeepsOthers.alloc _ _).trans (KeepsOthers.of_grownBy hgrow2 (fun k o hk ho => own_cells HP1.out.own hk _ ho))
    have HGR : Hid (∀ i, i < w.heap.size → some i ≠ Value.ownBlock (.slice (some ⟨g, 0, none⟩) (n + 1) cap) → w2.heap[i]? = w.heap[i]?) := fun i hi ho => (hgrow2.block i (by simp; show i < w1.heap.size + 1; have := HBL.out.size; omega) ho).trans ((Below.heap_alloc _ _ i (show i < w1.heap.size by have := HBL.out.size; omega)).trans (HBL.out.block i hi))
    refine hK _ _ (fun _ => ⟨hp2, hx2⟩) ?_
    clear hK K
    try refine OrdE.put (d := 21) rfl ?_
    try simp only [List.setIfInBounds_toArray, List.set_cons_zero, List.set_cons_succ]
    refine OrdE.one (i := 11) (by as_aux_lemma => kernel_rfl) rfl (fun K hK => ?_)
    go_simp
    refine hK _ _ (fun _ => ⟨hp2, hx2⟩) ?_
    clear hK K
    try simp only [List.setIfInBounds_toArray, List.set_cons_zero, List.set_cons_succ]
    obtain ⟨g', cap', rfl⟩ := ownsRow_succ hown2
    have ce := hx2.cell
    have fe := hx2.frozen
    refine OrdE.one (i := 12) (by as_aux_lemma => kernel_rfl) rfl (fun K hK => ?_)
    go_simp
    refine hK _ _ (fun h => absurd rfl h) ?_
    clear hK K
    try simp only [List.setIfInBounds_toArray, List.set_cons_zero, List.set_cons_succ]
    refine OrdE.done (by as_aux_lemma => kernel_rfl) ?_ _
    have HP2 := hid hp2
    have HX2 := hid hx2
    have HO2 := hid hown2
    clear ce fe hp2 hx2 hown2 hgrow2 hne hob hS
    go_wp2
    go_end0
    have hg2 := (own_block HO2.out g' rfl)
    refine ⟨⟨_, rfl⟩, ⟨_, ⟨?_, HX2.out.set _, ?_⟩, HFR.out⟩, ?_, fun i hi hx ho => ((Below.heap_setCell w2 ⟨Bx, 0, none⟩ _ i hx).trans (HGR.out i hi ho))⟩
    · exact HP2.out.other (by rintro rfl; exact ptr_not_row HP2.out HX2.out) _
    · rw [List.length_append]
      exact HO2.out.kept (grownBy_setCell' w2 Bx _) (.inr (fun e => by injection e with e; have e : g' = Bx := e; omega))
    · exact (HB0.out.trans ((Fb.below (Below.refl _ w1).drew hn (by omega)).trans HF2.out)).trans (Fb.set w2 _ hnx (.inl rfl))
theorem put_any (f t : Int) (Bp Bx base n₀ : Nat) (v : Value) (l : List Ext) (w : World) (hp : Pu w Bp Bx base v l) (hrow : Bd l) (hf : 0 ≤ f) (ht : t ≤ 5000) (hbp : Bp < base) (hbx : Bx < base) (hnx : n₀ ≤ Bx) (hn : n₀ ≤ base) (hbs : base ≤ w.heap.size) :
    Calls Try.prog 21 #[.int .i64 f, .int .i64 t, .pointer (some ⟨Bp, 0, none⟩)] w (PutPost Bp Bx base n₀ v (putL l f t) w) := by
  by_cases h : t ≤ f
  · exact put_skip f t Bp Bx base n₀ v l w hp h hrow.len
  · rcases snoc_or l with rfl | ⟨m, z, rfl⟩
    · exact put_new f t Bp Bx base n₀ v [] w hp h (put_nil h) hrow (fun m z e => by simp at e) hf ht hbp hbx hnx hn hbs
    · by_cases hz : z.1 + z.2 = f
      · have hb := hrow.all z (by simp)
        have hl := hrow.len
        rw [List.length_append] at hl
        exact put_last f t Bp Bx base n₀ v m z w hp h hz hf ht hb.1 hb.2.2.1 hb.2.2.2 hb.2.1 hl hbp hbx hn hbs
      · exact put_new f t Bp Bx base n₀ v (m ++ [z]) w hp h (put_more h hz) hrow (fun m' z' e => by
          have e2 := List.append_inj' e rfl
          simp at e2
          rw [← e2.2]; exact hz) hf ht hbp hbx hnx hn hbs

end Go.Proofs.Ytkfoeijhhfaceab
