/-
  Whether a namespace was made, a new one, and what is held of a path: the contracts of made, New and at. Files as values, and a namespace in memory: what its map reads as.
-/
import Derived.Test.YtcbjlnabbfkkeaaRcO
import Derived.WalkSpells
namespace Go.Proofs.Ytcbjlnabbfkkeaa
open Go.ChangeShapes Go.WideShapes Go.ChangeAt Go.RowKit Go.Deep Go.Lib

/-- Where each piece ends. -/
def endsL : Int → List Pc → List Int
  | _, [] => []
  | s, x :: l => (s + x.2) :: endsL (s + x.2) l
theorem ends_len : ∀ (l : List Pc) (s : Int), (endsL s l).length = l.length
  | [], _ => rfl
  | _ :: l, s => by simp [endsL, ends_len l]
theorem ends_app : ∀ (l : List Pc) (s : Int) (x : Pc), endsL s (l ++ [x]) = endsL s l ++ [s + sumP l + x.2]
  | [], s, x => by simp [endsL, sumP]
  | y :: l, s, x => by
    simp only [List.cons_append, endsL, ends_app l, sumP, List.cons_append]
    rw [Int.add_assoc s y.2]

/-- A file, with the places of its pieces and of their ends. -/
structure Fl where
  path : ByteArray
  size : Int
  seq : Int
  ps : List Pc
  a : Option Addr
  cap : Nat
  e : Option Addr
  ecap : Nat
def Fl.cs (f : Fl) : List Value := [.string f.path, .int .i64 f.size, .int .i64 f.seq, .slice f.a f.ps.length f.cap, .slice f.e f.ps.length f.ecap]
def Fl.val (f : Fl) : Value := .agg f.cs.toArray
def flZ : Fl := ⟨ByteArray.empty, 0, 0, [], none, 0, none, 0⟩
structure Fok (w : World) (f : Fl) : Prop where
  path : f.path.size ≤ 255
  seq : 1 ≤ f.seq ∧ f.seq ≤ 1073741824
  size : f.size = sumP f.ps
  most : f.size ≤ 1048576
  few : f.ps.length ≤ 4096
  nok : f.ps.all nOk = true
  row : Rp w f.a f.cap f.ps
  ends : Ri w .i64 f.e f.ecap (endsL 0 f.ps)
theorem Fok.later {w w' : World} {f : Fl} (h : Fok w f) (hb : Below w.heap.size w w') : Fok w' f := ⟨h.path, h.seq, h.size, h.most, h.few, h.nok, h.row.later hb, h.ends.later hb⟩

/-- The rows of a file lie at B or behind. -/
structure Fat (B : Nat) (f : Fl) : Prop where
  ps : ∀ b off, f.a = some ⟨b, off, none⟩ → B ≤ b
  es : ∀ b off, f.e = some ⟨b, off, none⟩ → B ≤ b
theorem Fat.mono {B C : Nat} {f : Fl} (h : Fat C f) (hB : B ≤ C) : Fat B f := ⟨fun b o e => Nat.le_trans hB (h.ps b o e), fun b o e => Nat.le_trans hB (h.es b o e)⟩
/-- A map's element as it lies there. -/
def rdV : Value → Option (DataW Value × List MemPlace) := fun v => some (.held v, [])
theorem Try.keyed9 : Maps.Keyed Try.prog 9 := Maps.string_keyed Try.underlying9
def kS (s : ByteArray) : Lit := .string s.data.toList
theorem key_s {s : ByteArray} (h : s.size ≤ maxLen) : keyOf Try.prog 9 (.string s) = some (kS s) := WideMaps.keyOf_string_mk Try.underlying9 h
theorem str_ext {s t : ByteArray} (h : s.data.toList = t.data.toList) : s = t := ByteArray.ext (Array.toList_inj.1 h)
theorem kS_inj {s t : ByteArray} (h : kS s = kS t) : s = t := by
  unfold kS at h
  injection h with h
  exact str_ext h
theorem kS_ne {s t : ByteArray} (h : s ≠ t) : kS s ≠ kS t := fun e => h (kS_inj e)
theorem kS_is (s : ByteArray) : WideAt.IsKeyLit (kS s) := trivial
theorem Try.zero77 (w : World) : (zeroValue 77).run Try.prog w = .ok flZ.val w := by
  have h : (Try.prog.info? 77).map (fun i => (i.zero, i.size)) = some (some flZ.val, 5) := by kernel_rfl
  cases hi : Try.prog.info? 77 with
  | none => rw [hi] at h; cases h
  | some i =>
    rw [hi] at h
    simp only [Option.map_some, Option.some.injEq, Prod.mk.injEq] at h
    simp [zeroValue, typeInfo, hi, h.1]

/-- The file of a path. -/
def fnd (M : List Fl) (s : ByteArray) : Option Fl := M.find? fun f => decide (f.path = s)
theorem fnd_path {M : List Fl} {s : ByteArray} {f : Fl} (h : fnd M s = some f) : f.path = s := by
  have := List.find?_some h
  simpa using this
theorem fnd_mem {M : List Fl} {s : ByteArray} {f : Fl} (h : fnd M s = some f) : f ∈ M := List.mem_of_find?_eq_some h

/-- The namespace at n, its map at g, has the files M. -/
structure NmD (B : Nat) (W : World) (n g : Nat) (D : DataW Value) (M : List Fl) : Prop where
  blk : W.heap[n]? = some (.cells #[.map (some g)] 69)
  own : W.ownsMap Try.prog 9 rdV g 1048576 D
  has : ∀ s, Maps.has D (kS s) = (fnd M s).isSome
  at_ : ∀ s f, fnd M s = some f → ∀ z, D.atKey (kS s) z = .held f.val
  size : Maps.size D = M.length
  many : M.length ≤ 1024
  ok : ∀ f ∈ M, Fok W f
  far : ∀ f ∈ M, Fat B f
  apart : M.Pairwise fun f f' => f.path ≠ f'.path
def Nm (B : Nat) (W : World) (n g : Nat) (M : List Fl) : Prop := ∃ D, NmD B W n g D M

theorem own_bel {W W' : World} {b n : Nat} {D : DataW Value} (h : W.ownsMap Try.prog 9 rdV b n D) (hb : W'.heap[b]? = W.heap[b]?) : W'.ownsMap Try.prog 9 rdV b n D := by
  obtain ⟨es, clock, hh, F, hs, hD⟩ := h
  exact ⟨es, clock, hb.trans hh, F, hs, hD⟩
theorem Nm.lt {W : World} {n g : Nat} {M : List Fl} {B : Nat} (h : Nm B W n g M) : n < W.heap.size ∧ g < W.heap.size := by
  obtain ⟨D, h⟩ := h
  exact ⟨(Array.getElem?_eq_some_iff.1 h.blk).1, h.own.lt⟩
theorem Nm.later {W W' : World} {n g : Nat} {M : List Fl} {B : Nat} (h : Nm B W n g M) (hb : Below W.heap.size W W') : Nm B W' n g M := by
  have hl := h.lt
  obtain ⟨D, h⟩ := h
  exact ⟨D, (hb.block _ hl.1).trans h.blk, own_bel h.own (hb.block _ hl.2), h.has, h.at_, h.size, h.many, fun f hf => (h.ok f hf).later hb, h.far, h.apart⟩
theorem Nm.cell {W : World} {n g : Nat} {M : List Fl} {B : Nat} (h : Nm B W n g M) : W.cell? ⟨n, 0, none⟩ = some (.map (some g)) := by
  obtain ⟨D, h⟩ := h
  exact (Joins.cell_of_block h.blk 0).trans rfl
theorem Nm.ne {W : World} {n g : Nat} {M : List Fl} {B : Nat} (h : Nm B W n g M) : n ≠ g := by
  obtain ⟨D, h⟩ := h
  obtain ⟨es, clock, hh, _⟩ := h.own
  intro e
  subst e
  rw [h.blk] at hh
  cases hh
theorem Nm.look {W : World} {n g : Nat} {M : List Fl} {B : Nat} (h : Nm B W n g M) {s : ByteArray} (hs : s.size ≤ maxLen) :
    (Instr.lookup 67 (.map (some g)) (.string s) true).run Try.prog W = .ok (.tuple #[((fnd M s).getD flZ).val, .bool (fnd M s).isSome]) W := by
  obtain ⟨D, h⟩ := h
  obtain ⟨v, ps, hrun, hv⟩ := h.own.look_ok Try.keyed9 Try.underlying67 (Try.zero77 W) (zd := .held flZ.val) (zp := []) rfl (key_s hs)
  rw [hrun, h.has s]
  unfold rdV at hv
  cases hf : fnd M s with
  | none =>
    have hn : Maps.has D (kS s) = false := by rw [h.has s, hf]; rfl
    rw [Maps.atKey_of_not_has hn] at hv
    simp only [Option.some.injEq, Prod.mk.injEq, DataW.held.injEq] at hv
    rw [hv.1, Option.getD_none]
  | some f =>
    rw [h.at_ s f hf] at hv
    simp only [Option.some.injEq, Prod.mk.injEq, DataW.held.injEq] at hv
    rw [hv.1, Option.getD_some]
theorem Nm.len {W : World} {n g : Nat} {M : List Fl} {B : Nat} (h : Nm B W n g M) (ty : TypeId) : (Builtin.len_ #[67] ty #[.map (some g)]).run Try.prog W = .ok (.int .i64 (M.length : Int)) W := by
  obtain ⟨D, h⟩ := h
  rw [h.own.len Try.underlying67, h.size]
end Go.Proofs.Ytcbjlnabbfkkeaa
namespace Go.Proofs.Ytcbjlnabbfkkeaa
open Go.ChangeShapes Go.WideShapes Go.ChangeAt Go.RowKit Go.Deep Go.Lib

/-- A namespace that nobody made: nil, or a zero one. -/
inductive Nob (W : World) : Value → Prop where
  | nil : Nob W (.pointer none)
  | zero (n : Nat) (h : W.heap[n]? = some (.cells #[.map none] 69)) : Nob W (.pointer (some ⟨n, 0, none⟩))
theorem Nob.later {W W' : World} {v : Value} (h : Nob W v) (hb : Below W.heap.size W W') : Nob W' v := by
  cases h with
  | nil => exact .nil
  | zero n h => exact .zero n ((hb.block _ (Array.getElem?_eq_some_iff.1 h).1).trans h)

theorem bq67 (m : Option Nat) (W : World) : (binOp .neq 67 (.map m) (.map none)).run Try.prog W = .ok (.bool m.isSome) W := by
  rw [run_neq_map_nil W _ _ _ m Try.underlying67]
  cases m <;> rfl
set_option maxRecDepth 100000 in
theorem made_yes (W : World) (n g : Nat) (M : List Fl) (B : Nat) (h : Nm B W n g M) : Calls Try.prog 28 #[.pointer (some ⟨n, 0, none⟩)] W fun e w' => e = .returned (.bool true) ∧ w' = W := by
  have hc := h.cell
  have Q := bq67
  clear h
  go_enter Try.func28, Try.ntmps28
  go_wp2
  go_ret
  exact ⟨rfl, rfl⟩
set_option maxRecDepth 100000 in
theorem made_no (W : World) (v : Value) (h : Nob W v) : Calls Try.prog 28 #[v] W fun e w' => e = .returned (.bool false) ∧ w' = W := by
  cases h with
  | nil =>
    go_enter Try.func28, Try.ntmps28
    go_wp2
    go_ret
    exact ⟨rfl, rfl⟩
  | zero n h =>
    have hc : W.cell? ⟨n, 0, none⟩ = some (.map none) := (Joins.cell_of_block h 0).trans rfl
    have Q := bq67
    clear h
    go_enter Try.func28, Try.ntmps28
    go_wp2
    go_ret
    exact ⟨rfl, rfl⟩

theorem Nm.new (B : Nat) (w : World) : Nm B ((w.alloc (.map #[] 0)).alloc (.cells #[.map (some w.heap.size)] 69)) (w.heap.size + 1) w.heap.size [] := by
  have s1 : (w.alloc (.map #[] 0)).heap.size = w.heap.size + 1 := by simp
  have HO := heap_alc (w.alloc (.map #[] 0)) (.cells #[.map (some w.heap.size)] 69)
  rw [s1] at HO
  refine ⟨.map [], HO, ?_, fun _ => rfl, (fun s f h => by simp [fnd] at h), rfl, by simp, (fun f hf => by cases hf), (fun f hf => by cases hf), List.Pairwise.nil⟩
  exact ((World.ownsMap_made w _ _ _).mono (by omega)).alloc _
set_option maxRecDepth 100000 in
theorem new_word (B : Nat) (w : World) : Calls Try.prog 10 #[] w fun e w' => e = .returned (.pointer (some ⟨w.heap.size + 1, 0, none⟩)) ∧ Nm B w' (w.heap.size + 1) w.heap.size [] ∧ Below w.heap.size w w' := by
  have hmm := @run_makeMap Try.prog
  have HN := hid (Nm.new B w)
  have HB := hid (Bn (bel_alc w (.map #[] 0)) (bel_alc (w.alloc (.map #[] 0)) (.cells #[.map (some w.heap.size)] 69)))
  go_enter Try.func10, Try.ntmps10
  go_wp2
  go_ret
  exact ⟨by simp, HN.out, HB.out⟩
/-- An allocation, its world as a letter. -/
theorem wpList_alloc_W {P : Program} {ops : Array Oper} {rest : List Oper} {o : Oper} {a : Act} {w : World} {Q : Exit → Act → World → Prop} (hgd : o.guard = none) (ty : TypeId) (ho : o.op = .alloc ty) (d : Option Tmp) (hd : o.dst = d) (cs : Array Value)
    (hz : ∀ w, (zeroValue ty).run P w = .ok (.agg cs) w) (N : Nat) (hN : N = w.heap.size)
    (h : ∀ W', Hid (W'.heap[N]? = some (.cells cs ty)) → Hid (Below N w W') → Hid (W'.heap.size = N + 1) → wpList P ops Q rest (a.put d (.pointer (some ⟨N, 0, none⟩))) W') : wpList P ops Q (o :: rest) a w := by
  subst hN
  exact wpList_alloc_row hgd ty ho d hd cs hz (h _ (heap_alc w _) (bel_alc w _) (by show _ = _; simp))
/-- A store of a whole block, its world as a letter. -/
theorem wpList_store_W {P : Program} {ops : Array Oper} {rest : List Oper} {o : Oper} {a : Act} {w : World} {Q : Exit → Act → World → Prop} (hgd : o.guard = none) (ty : TypeId) (x y : Operand) (ho : o.op = .store ty x y) (hd : o.dst = none)
    (g : Nat) (cells : Array Value) (hx : a.eval x = .pointer (some ⟨g, 0, none⟩)) (hy : a.eval y = .agg cells) (t : TypeId) (old : Array Value) (hg : w.heap[g]? = some (.cells old t (0, 0))) (hi : (P.info? ty).map (·.size) = some cells.size)
    (hold : old.size = cells.size) (h1 : cells.all (·.oneCell') = true)
    (h : ∀ W', Hid (W'.heap[g]? = some (.cells cells t)) → Hid (w.grownBy W' (some g)) → Hid (W'.heap.size = w.heap.size) → wpList P ops Q rest a W') : wpList P ops Q (o :: rest) a w := by
  refine wpList_store_rowTo hgd ty x y ho hd g cells hx hy t old hg hi hold h1 (h _ ?_ ?_ ?_)
  · exact setRow_heap _ _ old _ t (0, 0) hg
  · exact ⟨rfl, rfl, rfl, by rw [setRow_size]; exact Nat.le_refl _, fun k _ hk => other_setRow w g cells k (fun e => hk (by rw [e]))⟩
  · exact setRow_size ..
theorem blk_range {w : World} {g : Nat} {cs : List Value} {t : TypeId} (h : w.heap[g]? = some (.cells cs.toArray t)) : w.rangeAt g 0 cs := fun j v hv => by
  rw [Nat.zero_add, Joins.cell_of_block h j, List.getElem?_toArray]
  exact hv
theorem blk_lt {w : World} {g : Nat} {o : Obj} (h : w.heap[g]? = some o) : g < w.heap.size := (Array.getElem?_eq_some_iff.1 h).1
theorem blk_later {w w' : World} {g : Nat} {o : Obj} (h : w.heap[g]? = some o) (hb : Below w.heap.size w w') : w'.heap[g]? = some o := (hb.block _ (blk_lt h)).trans h
theorem bel_grown {w w' : World} {B g : Nat} (h : w.grownBy w' (some g)) (hB : B ≤ g) (hw : B ≤ w.heap.size) : Below B w w' :=
  ⟨h.os, h.tape, h.output, h.size, fun i hi => h.block i (Nat.lt_of_lt_of_le hi hw) (fun e => by injection e with e; omega)⟩
theorem grown_bel {w w' : World} {r : Option Nat} (h : Below w.heap.size w w') : w.grownBy w' r := ⟨h.os, h.tape, h.output, h.size, fun i hi _ => h.block i hi⟩
theorem Try.size77 : (Try.prog.info? 77).map (·.size) = some 5 := by kernel_rfl
theorem Fl.one (f : Fl) : f.cs.toArray.all (·.oneCell') = true := by simp [Fl.cs, Value.oneCell']
theorem fl_load {w : World} {b : Nat} {f : Fl} (h : w.heap[b]? = some (.cells f.cs.toArray 77)) : (loadVar 77 ⟨b, 0, none⟩).run Try.prog w = .ok f.val w :=
  run_loadVar_row (P := Try.prog) w b 77 77 f.cs.toArray (0, 0) _ h Try.underlying77 rfl Try.size77
def atE (M : List Fl) (s : ByteArray) : Int := if (fnd M s).isSome then 0 else 150

set_option maxHeartbeats 1600000 in
set_option maxRecDepth 100000 in
theorem at_no (W : World) (v : Value) (s : ByteArray) (h : Nob W v) : Calls Try.prog 44 #[v, .string s] W fun e w' => e = .returned (.tuple #[flZ.val, .int .i64 4]) ∧ Below W.heap.size W w' := by
  have HN := hid (fun V (hb : Below W.heap.size W V) => made_no V v (h.later hb))
  have hz : ∀ w, (zeroValue 77).run Try.prog w = .ok (.agg flZ.cs.toArray) w := Try.zero77
  go_enter Try.func44, Try.ntmps44
  go_wp2_with (first | refine wpList_alloc_W rfl 77 rfl (some 4) rfl _ hz W.heap.size rfl ?_ | fail)
  intro W1 HG1 HB1 HS1
  go_wp2_with fail
  refine (HN.out _ HB1.out).mono ?_
  rintro _ w0 ⟨rfl, hw⟩
  obtain rfl := hw.symm
  clear hw HN
  go_wp2_with (first | refine wpList_store_W rfl 77 _ _ rfl rfl W.heap.size flZ.cs.toArray rfl rfl 77 _ HG1.out Try.size77 rfl (Fl.one _) ?_ | fail)
  intro W2 HG2 HB2 HS2
  go_wp2
  exact bodyPost_ret (results_row_tmp rfl _ _ W.heap.size _ rfl (fl_load HG2.out)) rfl ⟨rfl, HB1.out.trans (bel_grown HB2.out (Nat.le_refl _) HB1.out.size)⟩
set_option maxHeartbeats 3200000 in
set_option maxRecDepth 100000 in
theorem at_word (W : World) (n g : Nat) (M : List Fl) (B : Nat) (h : Nm B W n g M) (s : ByteArray) (hs : s.size ≤ maxLen) :
    Calls Try.prog 44 #[.pointer (some ⟨n, 0, none⟩), .string s] W fun e w' => e = .returned (.tuple #[((fnd M s).getD flZ).val, .int .i64 (atE M s)]) ∧ Below W.heap.size W w' := by
  have HH := hid h
  have hz : ∀ w, (zeroValue 77).run Try.prog w = .ok (.agg flZ.cs.toArray) w := Try.zero77
  have HA : Hid (atE M s = if (fnd M s).isSome then 0 else 150) := rfl
  have HF : Hid ((fnd M s).isSome = false → (fnd M s).getD flZ = flZ) := fun e => by
    cases hq : fnd M s with
    | none => rfl
    | some f => rw [hq] at e; cases e
  have HL := hid (fun V (hb : Below W.heap.size W V) => (h.later hb).look hs)
  clear h hs
  generalize (fnd M s).isSome = BS at *
  generalize (fnd M s).getD flZ = f at *
  generalize atE M s = E at *
  go_enter Try.func44, Try.ntmps44
  go_wp2_with (first | refine wpList_alloc_W rfl 77 rfl (some 4) rfl _ hz W.heap.size rfl ?_ | fail)
  intro W1 HG1 HB1 HS1
  go_wp2_with fail
  refine (made_yes W1 n g M B (HH.out.later HB1.out)).mono ?_
  rintro _ w0 ⟨rfl, hw⟩
  obtain rfl := hw.symm
  clear hw
  have hc := (HH.out.later HB1.out).cell
  have hl := HL.out _ HB1.out
  go_wp2_with (first | refine wpList_alloc_W rfl 77 rfl (some 6) rfl _ hz W1.heap.size rfl ?_ | fail)
  intro W2 HG2 HB2 HS2
  clear hc hl
  go_wp2_with (first | refine wpList_store_W rfl 77 _ _ rfl rfl W1.heap.size f.cs.toArray rfl rfl 77 _ HG2.out Try.size77 rfl (Fl.one _) ?_ | fail)
  intro W3 HG3 HB3 HS3
  have HX : Hid (Below W1.heap.size W1 W3) := HB2.out.trans (bel_grown HB3.out (Nat.le_refl _) HB2.out.size)
  have HG1' : Hid (W3.heap[W.heap.size]? = some (.cells flZ.cs.toArray 77)) := blk_later HG1.out HX.out
  have HR : Hid (W3.rangeAt W1.heap.size 0 f.cs) := blk_range HG3.out
  cases BS with
  | false =>
    have e := HF.out rfl
    subst e
    go_wp2_with (first | refine wpList_store_W rfl 77 _ _ rfl rfl W.heap.size flZ.cs.toArray rfl rfl 77 _ HG1'.out Try.size77 rfl (Fl.one _) ?_ | fail)
    intro W4 HG4 HB4 HS4
    go_wp2
    refine bodyPost_ret (results_row_tmp rfl _ _ W.heap.size _ rfl (fl_load HG4.out)) rfl ⟨?_, (Bn HB1.out HX.out).trans (bel_grown HB4.out (Nat.le_refl _) (Nat.le_trans HB1.out.size HX.out.size))⟩
    rw [HA.out]; rfl
  | true =>
    go_wp2_with (first | refine wpList_load_g rfl 77 _ rfl W1.heap.size 0 rfl f.cs _ HR.out Try.underlying77 rfl Try.size77 ?_ | refine wpList_store_W rfl 77 _ _ rfl rfl W.heap.size f.cs.toArray rfl rfl 77 _ HG1'.out Try.size77 rfl (Fl.one _) ?_ | fail)
    intro W4 HG4 HB4 HS4
    go_wp2
    refine bodyPost_ret (results_row_tmp rfl _ _ W.heap.size _ rfl (fl_load HG4.out)) rfl ⟨?_, (Bn HB1.out HX.out).trans (bel_grown HB4.out (Nat.le_refl _) (Nat.le_trans HB1.out.size HX.out.size))⟩
    rw [HA.out]; rfl
end Go.Proofs.Ytcbjlnabbfkkeaa
