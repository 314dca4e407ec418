/-
  bytes.Equal; what a frame is to a site: frame's Meet; two frames alike: frame's Same. A frame in memory; which may be: frame's upTo, may, Check. Small laws for blocks, boxes and rows of structs, that hold of any program.
-/
import Derived.Test.YtgnjicpmfpgdeaaDoorFrJb
import Derived.Great.BuildSlice
import Derived.Deep.MidRow
import Derived.Lib.SlBuf
namespace Go.Proofs.YtgnjicpmfpgdeaaDoor
open Go.ChangeShapes Go.WideShapes Go.ChangeAt Go.RowKit Go.Deep Go.Lib

theorem other_setRow (w : World) (g : Nat) (cs : Array Value) (i : Nat) (h : i ≠ g) : (w.setRow g cs).heap[i]? = w.heap[i]? := by
  simp only [World.setRow, Array.getElem?_modify]
  rw [if_neg (by omega)]
theorem range_later {w w' : World} {b o : Nat} {cs : List Value} (h : w.rangeAt b o cs) (hb : Below w.heap.size w w') (hlt : b < w.heap.size) : w'.rangeAt b o cs :=
  fun j v hv => (hb.cell (p := ⟨b, o + j, none⟩) hlt).trans (h j v hv)
theorem wpList_load_g {P : Program} {ops : Array Oper} {rest : List Oper} {o : Oper} {a : Act} {w : World} {Q : Exit → Act → World → Prop} (hw : Region.wanted o (yielded ops a.tmps) = true) (ty : TypeId) (x : Operand) (ho : o.op = .load ty x)
    (b off : Nat) (hx : a.eval x = .pointer (some ⟨b, off, none⟩)) (cs : List Value) (d : TypeDesc) (hc : w.rangeAt b off cs) (hu : P.underlying ty = some d) (hd : d.isRow = true) (hi : (P.info? ty).map (·.size) = some cs.length)
    (h : wpList P ops Q rest (a.put o.dst (.agg cs.toArray)) w) : wpList P ops Q (o :: rest) a w :=
  wpList_step fun K hK => by
    rw [if_pos hw]
    exact wp_load_mid ty x ho b off hx cs d hc hu hd hi (hK _ _ h)
/-- An allocation, its world as a letter. -/
theorem wpList_alloc_W {P : Program} {ops : Array Oper} {rest : List Oper} {o : Oper} {a : Act} {w : World} {Q : Exit → Act → World → Prop} (hgd : o.guard = none) (ty : TypeId) (ho : o.op = .alloc ty) (d : Option Tmp) (hd : o.dst = d) (cs : Array Value)
    (hz : ∀ w, (zeroValue ty).run P w = .ok (.agg cs) w) (N : Nat) (hN : N = w.heap.size)
    (h : ∀ W', Hid (W'.heap[N]? = some (.cells cs ty)) → Hid (Below N w W') → Hid (W'.heap.size = N + 1) → wpList P ops Q rest (a.put d (.pointer (some ⟨N, 0, none⟩))) W') : wpList P ops Q (o :: rest) a w := by
  subst hN
  exact wpList_alloc_row hgd ty ho d hd cs hz (h _ (heap_alc w _) (bel_alc w _) (by show _ = _; simp))
/-- A store of a whole block, its world as a letter. -/
theorem wpList_store_W {P : Program} {ops : Array Oper} {rest : List Oper} {o : Oper} {a : Act} {w : World} {Q : Exit → Act → World → Prop} (hgd : o.guard = none) (ty : TypeId) (x y : Operand) (ho : o.op = .store ty x y) (hd : o.dst = none)
    (g : Nat) (cells : Array Value) (hx : a.eval x = .pointer (some ⟨g, 0, none⟩)) (hy : a.eval y = .agg cells) (t : TypeId) (old : Array Value) (hg : w.heap[g]? = some (.cells old t (0, 0))) (hi : (P.info? ty).map (·.size) = some cells.size)
    (hold : old.size = cells.size) (h1 : cells.all (·.oneCell') = true)
    (h : ∀ W', Hid (W'.heap[g]? = some (.cells cells t)) → Hid (w.grownBy W' (some g)) → Hid (W'.heap.size = w.heap.size) → wpList P ops Q rest a W') : wpList P ops Q (o :: rest) a w := by
  refine wpList_store_rowTo hgd ty x y ho hd g cells hx hy t old hg hi hold h1 (h _ ?_ ?_ ?_)
  · exact setRow_heap _ _ old _ t (0, 0) hg
  · exact ⟨rfl, rfl, rfl, by rw [setRow_size]; exact Nat.le_refl _, fun k _ hk => other_setRow w g cells k (fun e => hk (by rw [e]))⟩
  · exact setRow_size ..
theorem blk_range {w : World} {g : Nat} {cs : List Value} {t : TypeId} (h : w.heap[g]? = some (.cells cs.toArray t)) : w.rangeAt g 0 cs := fun j v hv => by
  rw [Nat.zero_add, Joins.cell_of_block h j, List.getElem?_toArray]
  exact hv
theorem blk_lt {w : World} {g : Nat} {o : Obj} (h : w.heap[g]? = some o) : g < w.heap.size := (Array.getElem?_eq_some_iff.1 h).1
theorem blk_later {w w' : World} {g : Nat} {o : Obj} (h : w.heap[g]? = some o) (hb : Below w.heap.size w w') : w'.heap[g]? = some o := (hb.block _ (blk_lt h)).trans h
theorem bel_grown {w w' : World} {B g : Nat} (h : w.grownBy w' (some g)) (hB : B ≤ g) (hw : B ≤ w.heap.size) : Below B w w' :=
  ⟨h.os, h.tape, h.output, h.size, fun i hi => h.block i (Nat.lt_of_lt_of_le hi hw) (fun e => by injection e with e; omega)⟩
theorem grown_bel {w w' : World} {r : Option Nat} (h : Below w.heap.size w w') : w.grownBy w' r := ⟨h.os, h.tape, h.output, h.size, fun i hi _ => h.block i hi⟩
theorem wpList_load_P {P : Program} {ops : Array Oper} {rest : List Oper} {o : Oper} {a : Act} {w : World} {Q : Exit → Act → World → Prop} (hg : o.guard = none) (ty : TypeId) (x : Operand) (ho : o.op = .load ty x)
    (b off : Nat) (hx : a.eval x = .pointer (some ⟨b, off, none⟩)) (cs : List Value) (d : TypeDesc) (hc : w.rangeAt b off cs) (hu : P.underlying ty = some d) (hd : d.isRow = true) (hi : (P.info? ty).map (·.size) = some cs.length)
    (h : wpList P ops Q rest (a.put o.dst (.agg cs.toArray)) w) : wpList P ops Q (o :: rest) a w :=
  wpList_load_g (by unfold Region.wanted; rw [hg]) ty x ho b off hx cs d hc hu hd hi h
theorem bel_drewS {B : Nat} {W X : World} (h : Below B W X) : Below B W X.drew := ⟨h.os, h.tape, h.output, h.size, h.block⟩
theorem wp_buildOne_W {P : Program} {o : Oper} {a : Act} {w : World} {K : Act → World → Prop} {Q : Exit → Act → World → Prop} (t e : TypeId) (x : Operand) (ho : o.op = .buildSlice t 1 #[(0, x)])
    (cells : Array Value) (ie : TypeInfo) (z : Value) (hu : P.underlying t = some (.slice e)) (hie : P.info? e = some ie) (hz : ie.zero = some z) (hs : ie.size = cells.size) (hp : 0 < cells.size) (hq : cells.size ≤ 1000) (hx : a.eval x = .agg cells) (N : Nat) (hN : N = w.heap.size)
    (h : ∀ W', Hid (W'.heap[N]? = some (.cells cells e)) → Hid (Below N w W') → K (a.put o.dst (.slice (some ⟨N, 0, none⟩) 1 1)) W') : o.wp P a w K Q := by
  subst hN
  refine wp_buildSlice t e 1 _ ho cells ie z hu hie hz (by rw [hs]; omega) (by rw [hs]; omega) ?_ (h _ (hid (heap_alc w _)) (hid (bel_alc w _)))
  have := Great.fill_whole (s := cells.size) hp [.agg cells] ((Array.range (1 * cells.size)).map (z.cells[· % z.cells.size]!)) (fun v hv => by simp at hv; subst hv; rfl) (by simp)
  rw [hs]
  simpa [hx, Value.cells] using this
theorem run_eql_op {P : Program} {oi : Oper} {ρ : Operand → Value} {t t2 : TypeId} {x y : Operand} (ho : oi.op = .binOp .eql t x y t2) {xs ys : Array Value} {b : Bool} (hx : ρ x = .agg xs) (hy : ρ y = .agg ys) (hg : P.eqGuardType P.depth t = false) {w : World}
    (h : (Op.equalIn 10000 t (.agg xs) (.agg ys)).run P w = .ok b w) : (execOp ρ oi).run P w = .ok (.value (.bool b)) w := by
  unfold execOp
  simp only [ho, hx, hy, Sem.run_bind, run_eqGuard_agg w .eql t x y xs ys hg, run_eql_struct w t xs ys, h, Result.andThen_ok]
  rfl
/-- The slice at a reads as the structs l, each of sz cells C. -/
structure Rw {α : Type} (sz : Nat) (C : α → List Value) (z : α) (w : World) (a : Option Addr) (cap : Nat) (l : List α) : Prop where
  room : l.length ≤ cap
  most : cap ≤ maxLen
  none0 : a = none → cap = 0
  cells : 0 < l.length → ∃ b off, a = some ⟨b, off, none⟩ ∧ b < w.heap.size ∧ ∀ j, j < l.length → w.rangeAt b (off + j * sz) (C (l.getD j z))
section
variable {α : Type} {sz : Nat} {C : α → List Value} {z : α}
theorem Rw.later {w w' : World} {a : Option Addr} {cap : Nat} {l : List α} (h : Rw sz C z w a cap l) (hb : Below w.heap.size w w') : Rw sz C z w' a cap l := by
  refine ⟨h.room, h.most, h.none0, fun h0 => ?_⟩
  obtain ⟨b, off, ha, hbw, hc⟩ := h.cells h0
  exact ⟨b, off, ha, Nat.lt_of_lt_of_le hbw hb.size, fun j hj => range_later (hc j hj) hb hbw⟩
theorem Rw.grown {w w' : World} {a : Option Addr} {cap g : Nat} {l : List α} (h : Rw sz C z w a cap l) (hg : w.grownBy w' (some g)) (hne : ∀ b off, a = some ⟨b, off, none⟩ → b ≠ g) : Rw sz C z w' a cap l := by
  refine ⟨h.room, h.most, h.none0, fun h0 => ?_⟩
  obtain ⟨b, off, ha, hbw, hc⟩ := h.cells h0
  have hb := hg.block b hbw (fun e => hne b off ha (by injection e))
  refine ⟨b, off, ha, Nat.lt_of_lt_of_le hbw hg.size, fun j hj i v hv => ?_⟩
  rw [World.cell?_of_block (w' := w') (w := w) hb]
  exact hc j hj i v hv
theorem Rw.nil (w : World) : Rw sz C z w none 0 [] := ⟨Nat.le_refl _, by unfold maxLen; exact Nat.zero_le _, fun _ => rfl, fun h => absurd h (by simp)⟩
theorem flatW_len (l : List α) (h : ∀ x ∈ l, (C x).length = sz) : (l.flatMap C).length = l.length * sz := by
  induction l with
  | nil => simp
  | cons x l ih =>
    rw [List.flatMap_cons, List.length_append, h x (by simp), ih (fun y hy => h y (by simp [hy])), List.length_cons, Nat.add_mul]
    omega
theorem flatW_at (l : List α) (h : ∀ x ∈ l, (C x).length = sz) : ∀ j, j < l.length → ∀ i u, (C (l.getD j z))[i]? = some u → (l.flatMap C)[j * sz + i]? = some u := by
  induction l with
  | nil => intro j hj; simp at hj
  | cons x l ih =>
    intro j hj i u hu
    have hx := h x (by simp)
    rw [List.flatMap_cons]
    cases j with
    | zero =>
      have hu' : (C x)[i]? = some u := hu
      have hi : i < (C x).length := (List.getElem?_eq_some_iff.1 hu').1
      rw [show 0 * sz + i = i from by omega, List.getElem?_append_left hi]
      exact hu'
    | succ j =>
      have e : (j + 1) * sz + i = sz + (j * sz + i) := by rw [Nat.add_mul]; omega
      rw [e, List.getElem?_append_right (by rw [hx]; omega), hx, show sz + (j * sz + i) - sz = j * sz + i from by omega]
      exact ih (fun y hy => h y (by simp [hy])) j (by simp at hj; omega) i u (by simpa using hu)
theorem Rw.own {w : World} {base e : Nat} {v : Value} {l : List α} (h : w.ownsRow base e sz v l.length (l.flatMap C)) (hf : ∀ x ∈ l, (C x).length = sz) : ∃ a cap, v = .slice a l.length cap ∧ Rw sz C z w a cap l ∧ ∀ b off, a = some ⟨b, off, none⟩ → base ≤ b := by
  rcases h.2 with ⟨rfl, hn⟩ | ⟨g, cap, cur, rfl, hbg, hg, hc, hm, hs, ht⟩
  · rw [hn]
    exact ⟨none, 0, rfl, ⟨by omega, by unfold maxLen; omega, fun _ => rfl, fun h0 => by omega⟩, fun _ _ h => by cases h⟩
  · refine ⟨some ⟨g, 0, none⟩, cap, rfl, ⟨hc, hm, (fun h => by cases h), fun _ => ⟨g, 0, rfl, (Array.getElem?_eq_some_iff.1 hg).1, fun j hj i u hu => ?_⟩⟩, fun b off e => ?_⟩
    · have := flatW_at (C := C) (z := z) l hf j hj i u hu
      rw [← ht] at this
      rw [Nat.zero_add]
      refine (Joins.cell_of_block hg _).trans ?_
      have hlt : j * sz + i < (cur.toList.take (l.length * sz)).length := (List.getElem?_eq_some_iff.1 this).1
      rw [List.getElem?_take_of_lt (by simp at hlt; omega)] at this
      simpa using this
    · injection e with e
      injection e with e
      omega
end
end Go.Proofs.YtgnjicpmfpgdeaaDoor
namespace Go.Proofs.YtgnjicpmfpgdeaaDoor
open Go.ChangeShapes Go.WideShapes Go.ChangeAt Go.RowKit Go.Deep Go.Lib

/-- A frame: its numbers and its body's row. -/
structure Fr where
  fr : Int
  ep : Int
  me : Int
  yo : Int
  n : Int
  a : Option Addr
  cap : Nat
  body : List Int
  all : Int
  more : Int
def Fr.cs (f : Fr) : List Value := [.int .i64 f.fr, .int .i64 f.ep, .int .u64 f.me, .int .u64 f.yo, .int .i64 f.n, .slice f.a f.body.length f.cap, .int .i64 f.all, .int .u64 f.more]
def frZ : Fr := ⟨0, 0, 0, 0, 0, none, 0, [], 0, 0⟩
structure Fv (w : World) (f : Fr) : Prop where
  fr : (Lit.int .i64 f.fr).wf = true
  ep : (Lit.int .i64 f.ep).wf = true
  me : (Lit.int .u64 f.me).wf = true
  yo : (Lit.int .u64 f.yo).wf = true
  n : (Lit.int .i64 f.n).wf = true
  row : Ri w .u8 f.a f.cap f.body
  all : (Lit.int .i64 f.all).wf = true
  more : (Lit.int .u64 f.more).wf = true
theorem Fv.later {w w' : World} {f : Fr} (h : Fv w f) (hb : Below w.heap.size w w') : Fv w' f := ⟨h.fr, h.ep, h.me, h.yo, h.n, h.row.later hb, h.all, h.more⟩
theorem Fr.one (f : Fr) : ∀ u ∈ f.cs, u.oneCell' = true := by
  intro u hu
  unfold Fr.cs at hu
  simp only [List.mem_cons, List.not_mem_nil, or_false] at hu
  rcases hu with rfl | rfl | rfl | rfl | rfl | rfl | rfl | rfl <;> rfl
theorem Tryd.size25 : (Tryd.prog.info? 25).map (·.size) = some 8 := by kernel_rfl
theorem Tryd.zero25 : ∀ w, (zeroValue 25).run Tryd.prog w = .ok (.agg frZ.cs.toArray) w := fun w => by kernel_rfl
section
variable {w : World} {b o : Nat} {f : Fr}
theorem Fr.c0 (h : w.rangeAt b o f.cs) : w.cell? ⟨b, o, none⟩ = some (.int .i64 f.fr) := h 0 _ rfl
theorem Fr.c1 (h : w.rangeAt b o f.cs) : w.cell? ⟨b, o + 1, none⟩ = some (.int .i64 f.ep) := h 1 _ rfl
theorem Fr.c2 (h : w.rangeAt b o f.cs) : w.cell? ⟨b, o + 2, none⟩ = some (.int .u64 f.me) := h 2 _ rfl
theorem Fr.c3 (h : w.rangeAt b o f.cs) : w.cell? ⟨b, o + 3, none⟩ = some (.int .u64 f.yo) := h 3 _ rfl
theorem Fr.c4 (h : w.rangeAt b o f.cs) : w.cell? ⟨b, o + 4, none⟩ = some (.int .i64 f.n) := h 4 _ rfl
theorem Fr.c5 (h : w.rangeAt b o f.cs) : w.cell? ⟨b, o + 5, none⟩ = some (.slice f.a f.body.length f.cap) := h 5 _ rfl
theorem Fr.c6 (h : w.rangeAt b o f.cs) : w.cell? ⟨b, o + 6, none⟩ = some (.int .i64 f.all) := h 6 _ rfl
theorem Fr.c7 (h : w.rangeAt b o f.cs) : w.cell? ⟨b, o + 7, none⟩ = some (.int .u64 f.more) := h 7 _ rfl
end
theorem upTo_word (n m : Int) (w : World) : Calls Tryd.prog 42 #[.int .i64 n, .int .i64 m] w fun e w' => e = .returned (.bool (decide (0 ≤ n ∧ n ≤ m))) ∧ w' = w := by
  by_cases h1 : 0 ≤ n
  · by_cases h2 : n ≤ m
    · rw [decide_eq_true (show 0 ≤ n ∧ n ≤ m from ⟨h1, h2⟩)]
      go_enter Tryd.func42, Tryd.ntmps42
      go_wp2
      go_ret
      exact ⟨rfl, rfl⟩
    · rw [decide_eq_false (show ¬ (0 ≤ n ∧ n ≤ m) from fun h => h2 h.2)]
      go_enter Tryd.func42, Tryd.ntmps42
      go_wp2
      go_ret
      exact ⟨rfl, rfl⟩
  · rw [decide_eq_false (show ¬ (0 ≤ n ∧ n ≤ m) from fun h => h1 h.1)]
    go_enter Tryd.func42, Tryd.ntmps42
    go_wp2
    go_ret
    exact ⟨rfl, rfl⟩
def up (m n : Int) : Bool := decide (0 ≤ n ∧ n ≤ m)
def mayF (f : Fr) : Bool := up 1 f.fr && (up 1073741824 f.ep && (!decide (f.me = 0) && (up 1073741824 f.n && (up 1073741824 f.all && (decide (f.body.length ≤ 524288) && (decide (0 < f.n) || decide (f.body.length = 0)))))))
attribute [local irreducible] Go.wpList in
set_option maxHeartbeats 12800000 in
set_option maxRecDepth 100000 in
theorem may_word (f : Fr) (w : World) : Calls Tryd.prog 29 #[.agg f.cs.toArray] w fun e w' => e = .returned (.bool (mayF f)) ∧ Below w.heap.size w w' := by
  have HB1 := hid (bel_alc w (.cells f.cs.toArray 25))
  have hbx := heap_alc w (.cells f.cs.toArray 25)
  obtain ⟨W1, hW1⟩ : ∃ W1, W1 = w.alloc (.cells f.cs.toArray 25) := ⟨_, rfl⟩
  rw [← hW1] at HB1 hbx
  have HW1 := hid hW1
  have HR := hid (fun X (hX : Below W1.heap.size W1 X) => blk_range (blk_later hbx hX))
  have hr := HR.out W1 (Below.refl _ _)
  have c0 := Fr.c0 hr
  have c1 := Fr.c1 hr
  have c2 := Fr.c2 hr
  have c4 := Fr.c4 hr
  have c5 := Fr.c5 hr
  have c6 := Fr.c6 hr
  have HU1 := hid (fun V => upTo_word f.fr 1 V)
  have HU2 := hid (fun V => upTo_word f.ep 1073741824 V)
  have HU3 := hid (fun V => upTo_word f.n 1073741824 V)
  have HU4 := hid (fun V => upTo_word f.all 1073741824 V)
  obtain ⟨q, hq⟩ : ∃ q, q = mayF f := ⟨_, rfl⟩
  rw [← hq]
  unfold mayF up at hq
  have HQ := hid hq
  clear hq hr hbx hW1
  generalize decide (0 ≤ f.fr ∧ f.fr ≤ 1) = b1 at *
  generalize decide (0 ≤ f.ep ∧ f.ep ≤ 1073741824) = b2 at *
  generalize decide (0 ≤ f.n ∧ f.n ≤ 1073741824) = b3 at *
  generalize decide (0 ≤ f.all ∧ f.all ≤ 1073741824) = b4 at *
  obtain ⟨x0, hx0⟩ : ∃ z, z = f.fr := ⟨_, rfl⟩
  obtain ⟨x1, hx1⟩ : ∃ z, z = f.ep := ⟨_, rfl⟩
  obtain ⟨x2, hx2⟩ : ∃ z, z = f.me := ⟨_, rfl⟩
  obtain ⟨x4, hx4⟩ : ∃ z, z = f.n := ⟨_, rfl⟩
  obtain ⟨x6, hx6⟩ : ∃ z, z = f.all := ⟨_, rfl⟩
  obtain ⟨L, hL⟩ : ∃ z, z = f.body.length := ⟨_, rfl⟩
  rw [← hx0] at c0 HU1
  rw [← hx1] at c1 HU2
  rw [← hx2] at c2 HQ
  rw [← hx4] at c4 HU3 HQ
  rw [← hx6] at c6 HU4
  rw [← hL] at c5 HQ
  clear hx0 hx1 hx2 hx4 hx6 hL HR
  rw [HW1.out] at c0 c1 c2 c4 c5 c6 HB1
  go_enter Tryd.func29, Tryd.ntmps29
  go_wp2_with fail
  refine (HU1.out _).mono ?_
  rintro _ w0 ⟨rfl, hw⟩
  obtain rfl := hw.symm
  clear hw
  cases b1
  · have HF : Hid (q = false) := HQ.out
    obtain rfl := HF.out
    go_wp2
    go_ret
    first | exact ⟨rfl, HB1.out⟩ | exact ⟨by simp_all, HB1.out⟩
  · go_wp2_with fail
    refine (HU2.out _).mono ?_
    rintro _ w0 ⟨rfl, hw⟩
    obtain rfl := hw.symm
    clear hw
    cases b2
    · have HF : Hid (q = false) := HQ.out
      obtain rfl := HF.out
      go_wp2
      go_ret
      first | exact ⟨rfl, HB1.out⟩ | exact ⟨by simp_all, HB1.out⟩
    · by_cases h2 : x2 = 0
      · have HF : Hid (q = false) := by show _ = _; rw [HQ.out, decide_eq_true h2]; rfl
        subst h2
        obtain rfl := HF.out
        go_wp2
        go_ret
        first | exact ⟨rfl, HB1.out⟩ | exact ⟨by simp_all, HB1.out⟩
      · rw [decide_eq_false h2] at HQ
        have h2z : (x2 != 0) = true := by simpa using h2
        go_wp2_with fail
        refine (HU3.out _).mono ?_
        rintro _ w0 ⟨rfl, hw⟩
        obtain rfl := hw.symm
        clear hw
        cases b3
        · have HF : Hid (q = false) := HQ.out
          obtain rfl := HF.out
          go_wp2
          go_ret
          first | exact ⟨rfl, HB1.out⟩ | exact ⟨by simp_all, HB1.out⟩
        · go_wp2_with fail
          refine (HU4.out _).mono ?_
          rintro _ w0 ⟨rfl, hw⟩
          obtain rfl := hw.symm
          clear hw
          cases b4
          · have HF : Hid (q = false) := HQ.out
            obtain rfl := HF.out
            go_wp2
            go_ret
            first | exact ⟨rfl, HB1.out⟩ | exact ⟨by simp_all, HB1.out⟩
          · by_cases h5 : L ≤ 524288
            · rw [decide_eq_true h5] at HQ
              have h5z : (L : Int) ≤ 524288 := by omega
              by_cases h6 : 0 < x4
              · have HF : Hid (q = true) := by show _ = _; rw [HQ.out, decide_eq_true h6]; rfl
                obtain rfl := HF.out
                go_wp2
                go_ret
                first | exact ⟨rfl, HB1.out⟩ | exact ⟨by simp_all, HB1.out⟩
              · rw [decide_eq_false h6] at HQ
                by_cases h7 : L = 0
                · have HF : Hid (q = true) := by show _ = _; rw [HQ.out, decide_eq_true h7]; rfl
                  subst h7
                  obtain rfl := HF.out
                  go_wp2
                  go_ret
                  first | exact ⟨rfl, HB1.out⟩ | exact ⟨by simp_all, HB1.out⟩
                · have HF : Hid (q = false) := by show _ = _; rw [HQ.out, decide_eq_false h7]; rfl
                  have h7z : ¬ (L : Int) = 0 := by omega
                  obtain rfl := HF.out
                  go_wp2
                  go_ret
                  first | exact ⟨rfl, HB1.out⟩ | exact ⟨by simp_all, HB1.out⟩
            · have HF : Hid (q = false) := by show _ = _; rw [HQ.out, decide_eq_false h5]; rfl
              have h5z : ¬ (L : Int) ≤ 524288 := by omega
              obtain rfl := HF.out
              go_wp2
              go_ret
              first | exact ⟨rfl, HB1.out⟩ | exact ⟨by simp_all, HB1.out⟩
def e180 (b : Bool) : Int := if b then 0 else 180
set_option maxHeartbeats 3200000 in
set_option maxRecDepth 100000 in
theorem check_word (f : Fr) (w : World) : Calls Tryd.prog 13 #[.agg f.cs.toArray] w fun e w' => e = .returned (.int .i64 (e180 (mayF f))) ∧ Below w.heap.size w w' := by
  have HB1 := hid (bel_alc w (.cells f.cs.toArray 25))
  have hbx := heap_alc w (.cells f.cs.toArray 25)
  obtain ⟨W1, hW1⟩ : ∃ W1, W1 = w.alloc (.cells f.cs.toArray 25) := ⟨_, rfl⟩
  rw [← hW1] at HB1 hbx
  have HW1 := hid hW1
  have HR := hid (fun X (hX : Below W1.heap.size W1 X) => blk_range (blk_later hbx hX))
  have HR1 := hid (HR.out W1 (Below.refl _ _))
  have HM := hid (fun V => may_word f V)
  generalize mayF f = q at *
  clear hbx hW1 HR
  go_enter Tryd.func13, Tryd.ntmps13
  go_wp2_with (first | refine wpList_load_P rfl 25 _ rfl w.heap.size 0 rfl f.cs _ (by rw [← HW1.out]; exact HR1.out) Tryd.underlying25 rfl Tryd.size25 ?_ | fail)
  rw [← HW1.out]
  refine (HM.out W1).mono ?_
  rintro _ W2 ⟨rfl, hb2⟩
  have HB2 := hid (Bn HB1.out hb2)
  clear hb2
  cases q
  all_goals
    go_wp2
    go_ret
    exact ⟨rfl, HB2.out⟩
end Go.Proofs.YtgnjicpmfpgdeaaDoor
namespace Go.Proofs.YtgnjicpmfpgdeaaDoor
open Go.ChangeShapes Go.WideShapes Go.ChangeAt Go.RowKit Go.Deep Go.Lib

set_option maxHeartbeats 1600000 in
set_option maxRecDepth 100000 in
theorem equal_word (a : Option Addr) (c : Nat) (l : List Int) (b : Option Addr) (d : Nat) (m : List Int) (w : World) (hl : Ri w .u8 a c l) (hm : Ri w .u8 b d m) :
    Calls Tryd.prog 30 #[.slice a l.length c, .slice b m.length d] w fun e w' => e = .returned (.bool (decide (l = m))) ∧ w' = w := by
  have ht1 := hl.text w (Below.refl _ _)
  have ht2 := hm.text w (Below.refl _ _)
  have HSE := hid (str_eq hl.fits hm.fits)
  clear hl hm
  obtain ⟨n1, hn1⟩ : ∃ n, n = l.length := ⟨_, rfl⟩
  obtain ⟨n2, hn2⟩ : ∃ n, n = m.length := ⟨_, rfl⟩
  rw [← hn1] at ht1 ⊢
  rw [← hn2] at ht2 ⊢
  clear hn1 hn2
  by_cases h : l = m
  · have hse : ((strOfNums l).toList == (strOfNums m).toList) = true := by rw [HSE.out]; simpa using h
    rw [decide_eq_true h]
    clear h HSE
    go_enter Tryd.func30, Tryd.ntmps30
    go_wp2
    go_ret
    exact ⟨rfl, rfl⟩
  · have hse : ((strOfNums l).toList == (strOfNums m).toList) = false := by rw [HSE.out]; simpa using h
    rw [decide_eq_false h]
    clear h HSE
    go_enter Tryd.func30, Tryd.ntmps30
    go_wp2
    go_ret
    exact ⟨rfl, rfl⟩
/-- What a frame is to a site: stale, new, mine, the vow, taken. -/
abbrev Mt := Bool × Bool × Bool × Int × Bool
def mtV (m : Mt) : List Value := [.bool m.1, .bool m.2.1, .bool m.2.2.1, .int .i64 m.2.2.2.1, .bool m.2.2.2.2]
def meetM (me peer vow : Int) (f : Fr) : Mt := (decide (f.me < peer), decide (peer < f.me), decide (f.yo = me), max vow f.ep, !decide (f.me < peer) && (decide (f.yo = me) && decide (vow ≤ f.ep)))
theorem Tryd.size43 : (Tryd.prog.info? 43).map (·.size) = some 5 := by kernel_rfl
def mtZ : Mt := (false, false, false, 0, false)
theorem Tryd.zero43 : ∀ w, (zeroValue 43).run Tryd.prog w = .ok (.agg (mtV mtZ).toArray) w := fun w => by kernel_rfl
theorem mtV_one (m : Mt) : (mtV m).toArray.all (·.oneCell') = true := by simp [mtV, Value.oneCell']
def sameF (f g : Fr) : Bool := decide (f.fr = g.fr) && (decide (f.ep = g.ep) && (decide (f.me = g.me) && (decide (f.yo = g.yo) && (decide (f.n = g.n) && (decide (f.body = g.body) && (decide (f.all = g.all) && decide (f.more = g.more)))))))
attribute [local irreducible] Go.wpList in
set_option maxHeartbeats 12800000 in
set_option maxRecDepth 100000 in
theorem same_word (f g : Fr) (w : World) (hf : Ri w .u8 f.a f.cap f.body) (hg : Ri w .u8 g.a g.cap g.body) : Calls Tryd.prog 15 #[.agg f.cs.toArray, .agg g.cs.toArray] w fun e w' => e = .returned (.bool (sameF f g)) ∧ Below w.heap.size w w' := by
  have hB1 := bel_alc w (.cells f.cs.toArray 25)
  have e1 := heap_alc w (.cells f.cs.toArray 25)
  have hB2 := bel_alc (w.alloc (.cells f.cs.toArray 25)) (.cells g.cs.toArray 25)
  have e2 := heap_alc (w.alloc (.cells f.cs.toArray 25)) (.cells g.cs.toArray 25)
  have s1 : (w.alloc (.cells f.cs.toArray 25)).heap.size = w.heap.size + 1 := by simp
  rw [s1] at e2
  have hr := blk_range (blk_later e1 hB2)
  have hs := blk_range e2
  have HB := hid (Bn hB1 hB2)
  have HE := hid (equal_word f.a f.cap f.body g.a g.cap g.body _ (hf.later HB.out) (hg.later HB.out))
  have c0 := Fr.c0 hr
  have d0 := Fr.c0 hs
  have c1 := Fr.c1 hr
  have d1 := Fr.c1 hs
  have c2 := Fr.c2 hr
  have d2 := Fr.c2 hs
  have c3 := Fr.c3 hr
  have d3 := Fr.c3 hs
  have c4 := Fr.c4 hr
  have d4 := Fr.c4 hs
  have c5 := Fr.c5 hr
  have d5 := Fr.c5 hs
  have c6 := Fr.c6 hr
  have d6 := Fr.c6 hs
  have c7 := Fr.c7 hr
  have d7 := Fr.c7 hs
  obtain ⟨q, hq⟩ : ∃ q, q = sameF f g := ⟨_, rfl⟩
  rw [← hq]
  unfold sameF at hq
  have HQ := hid hq
  clear hq hr hs e1 e2 hB1 hB2 s1 hf hg
  obtain ⟨x0, hx0⟩ : ∃ z, z = f.fr := ⟨_, rfl⟩
  obtain ⟨y0, hy0⟩ : ∃ z, z = g.fr := ⟨_, rfl⟩
  rw [← hx0] at c0 HQ
  rw [← hy0] at d0 HQ
  clear hx0 hy0
  obtain ⟨x1, hx1⟩ : ∃ z, z = f.ep := ⟨_, rfl⟩
  obtain ⟨y1, hy1⟩ : ∃ z, z = g.ep := ⟨_, rfl⟩
  rw [← hx1] at c1 HQ
  rw [← hy1] at d1 HQ
  clear hx1 hy1
  obtain ⟨x2, hx2⟩ : ∃ z, z = f.me := ⟨_, rfl⟩
  obtain ⟨y2, hy2⟩ : ∃ z, z = g.me := ⟨_, rfl⟩
  rw [← hx2] at c2 HQ
  rw [← hy2] at d2 HQ
  clear hx2 hy2
  obtain ⟨x3, hx3⟩ : ∃ z, z = f.yo := ⟨_, rfl⟩
  obtain ⟨y3, hy3⟩ : ∃ z, z = g.yo := ⟨_, rfl⟩
  rw [← hx3] at c3 HQ
  rw [← hy3] at d3 HQ
  clear hx3 hy3
  obtain ⟨x4, hx4⟩ : ∃ z, z = f.n := ⟨_, rfl⟩
  obtain ⟨y4, hy4⟩ : ∃ z, z = g.n := ⟨_, rfl⟩
  rw [← hx4] at c4 HQ
  rw [← hy4] at d4 HQ
  clear hx4 hy4
  obtain ⟨x6, hx6⟩ : ∃ z, z = f.all := ⟨_, rfl⟩
  obtain ⟨y6, hy6⟩ : ∃ z, z = g.all := ⟨_, rfl⟩
  rw [← hx6] at c6 HQ
  rw [← hy6] at d6 HQ
  clear hx6 hy6
  obtain ⟨x7, hx7⟩ : ∃ z, z = f.more := ⟨_, rfl⟩
  obtain ⟨y7, hy7⟩ : ∃ z, z = g.more := ⟨_, rfl⟩
  rw [← hx7] at c7 HQ
  rw [← hy7] at d7 HQ
  clear hx7 hy7
  generalize decide (f.body = g.body) = be at *
  go_enter Tryd.func15, Tryd.ntmps15
  by_cases h0 : x0 = y0
  · skip
    by_cases h1 : x1 = y1
    · skip
      by_cases h2 : x2 = y2
      · skip
        by_cases h3 : x3 = y3
        · skip
          by_cases h4 : x4 = y4
          · skip
            go_wp2_with fail
            refine HE.out.mono ?_
            rintro _ w0 ⟨rfl, hw⟩
            obtain rfl := hw.symm
            clear hw HE
            cases be
            · have HF : Hid (q = false) := by show _ = _; rw [HQ.out, decide_eq_true h0, decide_eq_true h1, decide_eq_true h2, decide_eq_true h3, decide_eq_true h4]; simp
              obtain rfl := HF.out
              go_wp2
              go_ret
              first | exact ⟨rfl, HB.out⟩ | exact ⟨by simp_all, HB.out⟩
            · skip
              by_cases h6 : x6 = y6
              · skip
                by_cases h7 : x7 = y7
                · skip
                  have HF : Hid (q = true) := by show _ = _; rw [HQ.out, decide_eq_true h0, decide_eq_true h1, decide_eq_true h2, decide_eq_true h3, decide_eq_true h4, decide_eq_true h6, decide_eq_true h7]; simp
                  obtain rfl := HF.out
                  go_wp2
                  go_ret
                  first | exact ⟨rfl, HB.out⟩ | exact ⟨by simp_all, HB.out⟩
                · have hz7 : (x7 == y7) = false := by simpa using h7
                  have HF : Hid (q = false) := by show _ = _; rw [HQ.out, decide_eq_true h0, decide_eq_true h1, decide_eq_true h2, decide_eq_true h3, decide_eq_true h4, decide_eq_true h6, decide_eq_false h7]; simp
                  obtain rfl := HF.out
                  go_wp2
                  go_ret
                  first | exact ⟨rfl, HB.out⟩ | exact ⟨by simp_all, HB.out⟩
              · have hz6 : (x6 == y6) = false := by simpa using h6
                have HF : Hid (q = false) := by show _ = _; rw [HQ.out, decide_eq_true h0, decide_eq_true h1, decide_eq_true h2, decide_eq_true h3, decide_eq_true h4, decide_eq_false h6]; simp
                obtain rfl := HF.out
                go_wp2
                go_ret
                first | exact ⟨rfl, HB.out⟩ | exact ⟨by simp_all, HB.out⟩
          · have hz4 : (x4 == y4) = false := by simpa using h4
            have HF : Hid (q = false) := by show _ = _; rw [HQ.out, decide_eq_true h0, decide_eq_true h1, decide_eq_true h2, decide_eq_true h3, decide_eq_false h4]; simp
            obtain rfl := HF.out
            go_wp2
            go_ret
            first | exact ⟨rfl, HB.out⟩ | exact ⟨by simp_all, HB.out⟩
        · have hz3 : (x3 == y3) = false := by simpa using h3
          have HF : Hid (q = false) := by show _ = _; rw [HQ.out, decide_eq_true h0, decide_eq_true h1, decide_eq_true h2, decide_eq_false h3]; simp
          obtain rfl := HF.out
          go_wp2
          go_ret
          first | exact ⟨rfl, HB.out⟩ | exact ⟨by simp_all, HB.out⟩
      · have hz2 : (x2 == y2) = false := by simpa using h2
        have HF : Hid (q = false) := by show _ = _; rw [HQ.out, decide_eq_true h0, decide_eq_true h1, decide_eq_false h2]; simp
        obtain rfl := HF.out
        go_wp2
        go_ret
        first | exact ⟨rfl, HB.out⟩ | exact ⟨by simp_all, HB.out⟩
    · have hz1 : (x1 == y1) = false := by simpa using h1
      have HF : Hid (q = false) := by show _ = _; rw [HQ.out, decide_eq_true h0, decide_eq_false h1]; simp
      obtain rfl := HF.out
      go_wp2
      go_ret
      first | exact ⟨rfl, HB.out⟩ | exact ⟨by simp_all, HB.out⟩
  · have hz0 : (x0 == y0) = false := by simpa using h0
    have HF : Hid (q = false) := by show _ = _; rw [HQ.out, decide_eq_false h0]; simp
    obtain rfl := HF.out
    go_wp2
    go_ret
    first | exact ⟨rfl, HB.out⟩ | exact ⟨by simp_all, HB.out⟩
end Go.Proofs.YtgnjicpmfpgdeaaDoor
