/-
  Files as values, and a namespace in memory: what its map reads as.
-/
import Derived.Test.YtcbjlnabbfkkeaaRcO
namespace Go.Proofs.Ytcbjlnabbfkkeaa
open Go.ChangeShapes Go.WideShapes Go.ChangeAt Go.RowKit Go.Deep Go.Lib

/-- Where each piece ends. -/
def endsL : Int → List Pc → List Int
  | _, [] => []
  | s, x :: l => (s + x.2) :: endsL (s + x.2) l
theorem ends_len : ∀ (l : List Pc) (s : Int), (endsL s l).length = l.length
  | [], _ => rfl
  | _ :: l, s => by simp [endsL, ends_len l]
theorem ends_app : ∀ (l : List Pc) (s : Int) (x : Pc), endsL s (l ++ [x]) = endsL s l ++ [s + sumP l + x.2]
  | [], s, x => by simp [endsL, sumP]
  | y :: l, s, x => by
    simp only [List.cons_append, endsL, ends_app l, sumP, List.cons_append]
    rw [Int.add_assoc s y.2]

/-- A file, with the places of its pieces and of their ends. -/
structure Fl where
  path : ByteArray
  size : Int
  seq : Int
  ps : List Pc
  a : Option Addr
  cap : Nat
  e : Option Addr
  ecap : Nat
def Fl.cs (f : Fl) : List Value := [.string f.path, .int .i64 f.size, .int .i64 f.seq, .slice f.a f.ps.length f.cap, .slice f.e f.ps.length f.ecap]
def Fl.val (f : Fl) : Value := .agg f.cs.toArray
def flZ : Fl := ⟨ByteArray.empty, 0, 0, [], none, 0, none, 0⟩
structure Fok (w : World) (f : Fl) : Prop where
  path : f.path.size ≤ 255
  seq : 1 ≤ f.seq ∧ f.seq ≤ 1073741824
  size : f.size = sumP f.ps
  most : f.size ≤ 1048576
  few : f.ps.length ≤ 4096
  nok : f.ps.all nOk = true
  row : Rp w f.a f.cap f.ps
  ends : Ri w .i64 f.e f.ecap (endsL 0 f.ps)
theorem Fok.later {w w' : World} {f : Fl} (h : Fok w f) (hb : Below w.heap.size w w') : Fok w' f := ⟨h.path, h.seq, h.size, h.most, h.few, h.nok, h.row.later hb, h.ends.later hb⟩

/-- The rows of a file lie at B or behind. -/
structure Fat (B : Nat) (f : Fl) : Prop where
  ps : ∀ b off, f.a = some ⟨b, off, none⟩ → B ≤ b
  es : ∀ b off, f.e = some ⟨b, off, none⟩ → B ≤ b
theorem Fat.mono {B C : Nat} {f : Fl} (h : Fat C f) (hB : B ≤ C) : Fat B f := ⟨fun b o e => Nat.le_trans hB (h.ps b o e), fun b o e => Nat.le_trans hB (h.es b o e)⟩
/-- A map's element as it lies there. -/
def rdV : Value → Option (DataW Value × List MemPlace) := fun v => some (.held v, [])
theorem Try.keyed9 : Maps.Keyed Try.prog 9 := Maps.string_keyed Try.underlying9
def kS (s : ByteArray) : Lit := .string s.data.toList
theorem key_s {s : ByteArray} (h : s.size ≤ maxLen) : keyOf Try.prog 9 (.string s) = some (kS s) := WideMaps.keyOf_string_mk Try.underlying9 h
theorem str_ext {s t : ByteArray} (h : s.data.toList = t.data.toList) : s = t := ByteArray.ext (Array.toList_inj.1 h)
theorem kS_inj {s t : ByteArray} (h : kS s = kS t) : s = t := by
  unfold kS at h
  injection h with h
  exact str_ext h
theorem kS_ne {s t : ByteArray} (h : s ≠ t) : kS s ≠ kS t := fun e => h (kS_inj e)
theorem kS_is (s : ByteArray) : WideAt.IsKeyLit (kS s) := trivial
theorem Try.zero77 (w : World) : (zeroValue 77).run Try.prog w = .ok flZ.val w := by
  have h : (Try.prog.info? 77).map (fun i => (i.zero, i.size)) = some (some flZ.val, 5) := by kernel_rfl
  cases hi : Try.prog.info? 77 with
  | none => rw [hi] at h; cases h
  | some i =>
    rw [hi] at h
    simp only [Option.map_some, Option.some.injEq, Prod.mk.injEq] at h
    simp [zeroValue, typeInfo, hi, h.1]

/-- The file of a path. -/
def fnd (M : List Fl) (s : ByteArray) : Option Fl := M.find? fun f => decide (f.path = s)
theorem fnd_path {M : List Fl} {s : ByteArray} {f : Fl} (h : fnd M s = some f) : f.path = s := by
  have := List.find?_some h
  simpa using this
theorem fnd_mem {M : List Fl} {s : ByteArray} {f : Fl} (h : fnd M s = some f) : f ∈ M := List.mem_of_find?_eq_some h

/-- The namespace at n, its map at g, has the files M. -/
structure NmD (B : Nat) (W : World) (n g : Nat) (D : DataW Value) (M : List Fl) : Prop where
  blk : W.heap[n]? = some (.cells #[.map (some g)] 69)
  own : W.ownsMap Try.prog 9 rdV g 1048576 D
  has : ∀ s, Maps.has D (kS s) = (fnd M s).isSome
  at_ : ∀ s f, fnd M s = some f → ∀ z, D.atKey (kS s) z = .held f.val
  size : Maps.size D = M.length
  many : M.length ≤ 1024
  ok : ∀ f ∈ M, Fok W f
  far : ∀ f ∈ M, Fat B f
  apart : M.Pairwise fun f f' => f.path ≠ f'.path
def Nm (B : Nat) (W : World) (n g : Nat) (M : List Fl) : Prop := ∃ D, NmD B W n g D M

theorem own_bel {W W' : World} {b n : Nat} {D : DataW Value} (h : W.ownsMap Try.prog 9 rdV b n D) (hb : W'.heap[b]? = W.heap[b]?) : W'.ownsMap Try.prog 9 rdV b n D := by
  obtain ⟨es, clock, hh, F, hs, hD⟩ := h
  exact ⟨es, clock, hb.trans hh, F, hs, hD⟩
theorem Nm.lt {W : World} {n g : Nat} {M : List Fl} {B : Nat} (h : Nm B W n g M) : n < W.heap.size ∧ g < W.heap.size := by
  obtain ⟨D, h⟩ := h
  exact ⟨(Array.getElem?_eq_some_iff.1 h.blk).1, h.own.lt⟩
theorem Nm.later {W W' : World} {n g : Nat} {M : List Fl} {B : Nat} (h : Nm B W n g M) (hb : Below W.heap.size W W') : Nm B W' n g M := by
  have hl := h.lt
  obtain ⟨D, h⟩ := h
  exact ⟨D, (hb.block _ hl.1).trans h.blk, own_bel h.own (hb.block _ hl.2), h.has, h.at_, h.size, h.many, fun f hf => (h.ok f hf).later hb, h.far, h.apart⟩
theorem Nm.cell {W : World} {n g : Nat} {M : List Fl} {B : Nat} (h : Nm B W n g M) : W.cell? ⟨n, 0, none⟩ = some (.map (some g)) := by
  obtain ⟨D, h⟩ := h
  exact (Joins.cell_of_block h.blk 0).trans rfl
theorem Nm.ne {W : World} {n g : Nat} {M : List Fl} {B : Nat} (h : Nm B W n g M) : n ≠ g := by
  obtain ⟨D, h⟩ := h
  obtain ⟨es, clock, hh, _⟩ := h.own
  intro e
  subst e
  rw [h.blk] at hh
  cases hh
theorem Nm.look {W : World} {n g : Nat} {M : List Fl} {B : Nat} (h : Nm B W n g M) {s : ByteArray} (hs : s.size ≤ maxLen) :
    (Instr.lookup 67 (.map (some g)) (.string s) true).run Try.prog W = .ok (.tuple #[((fnd M s).getD flZ).val, .bool (fnd M s).isSome]) W := by
  obtain ⟨D, h⟩ := h
  obtain ⟨v, ps, hrun, hv⟩ := h.own.look_ok Try.keyed9 Try.underlying67 (Try.zero77 W) (zd := .held flZ.val) (zp := []) rfl (key_s hs)
  rw [hrun, h.has s]
  unfold rdV at hv
  cases hf : fnd M s with
  | none =>
    have hn : Maps.has D (kS s) = false := by rw [h.has s, hf]; rfl
    rw [Maps.atKey_of_not_has hn] at hv
    simp only [Option.some.injEq, Prod.mk.injEq, DataW.held.injEq] at hv
    rw [hv.1, Option.getD_none]
  | some f =>
    rw [h.at_ s f hf] at hv
    simp only [Option.some.injEq, Prod.mk.injEq, DataW.held.injEq] at hv
    rw [hv.1, Option.getD_some]
theorem Nm.len {W : World} {n g : Nat} {M : List Fl} {B : Nat} (h : Nm B W n g M) (ty : TypeId) : (Builtin.len_ #[67] ty #[.map (some g)]).run Try.prog W = .ok (.int .i64 (M.length : Int)) W := by
  obtain ⟨D, h⟩ := h
  rw [h.own.len Try.underlying67, h.size]
end Go.Proofs.Ytcbjlnabbfkkeaa
