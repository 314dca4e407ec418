/-
  What a put and a delete make of a namespace's files, and of its map.
-/
import Derived.Test.YtcbjlnabbfkkeaaNmE
namespace Go.Proofs.Ytcbjlnabbfkkeaa
open Go.ChangeShapes Go.WideShapes Go.ChangeAt Go.RowKit Go.Deep Go.Lib

def ltS (a b : ByteArray) : Bool := Op.bytesLess a.data.toList b.data.toList
def delM (M : List Fl) (p : ByteArray) : List Fl := M.filter fun f => !decide (f.path = p)
def insF (f : Fl) : List Fl → List Fl
  | [] => [f]
  | x :: l => if ltS x.path f.path then x :: insF f l else f :: x :: l
def putM (M : List Fl) (f : Fl) : List Fl := insF f (delM M f.path)
theorem fnd_none {M : List Fl} {s : ByteArray} (h : ∀ f ∈ M, f.path ≠ s) : fnd M s = none := by
  unfold fnd
  rw [List.find?_eq_none]
  intro f hf
  simpa using h f hf
theorem fnd_cons (f : Fl) (M : List Fl) (s : ByteArray) : fnd (f :: M) s = if f.path = s then some f else fnd M s := by
  unfold fnd
  rw [List.find?_cons]
  by_cases h : f.path = s <;> simp [h]
theorem fnd_del (M : List Fl) (p s : ByteArray) : fnd (delM M p) s = if s = p then none else fnd M s := by
  induction M with
  | nil => simp [fnd, delM]
  | cons x M ih =>
    unfold delM at ih ⊢
    rw [List.filter_cons]
    by_cases hx : x.path = p
    · rw [if_neg (by simp [hx]), ih, fnd_cons]
      by_cases hs : s = p
      · rw [if_pos hs, if_pos hs]
      · rw [if_neg hs, if_neg hs, if_neg (by rw [hx]; exact fun e => hs e.symm)]
    · rw [if_pos (by simp [hx]), fnd_cons, fnd_cons, ih]
      by_cases hs : s = p
      · rw [if_pos hs, if_pos hs, if_neg (by rw [hs]; exact hx)]
      · rw [if_neg hs, if_neg hs]
theorem fnd_ins (f : Fl) (M : List Fl) (h : ∀ x ∈ M, x.path ≠ f.path) (s : ByteArray) : fnd (insF f M) s = if s = f.path then some f else fnd M s := by
  induction M with
  | nil =>
    rw [insF, fnd_cons]
    by_cases hs : s = f.path
    · rw [if_pos hs.symm, if_pos hs]
    · rw [if_neg (fun e => hs e.symm), if_neg hs]
  | cons x M ih =>
    have hx := h x (List.mem_cons_self ..)
    have ih := ih (fun y hy => h y (List.mem_cons_of_mem _ hy))
    rw [insF]
    split
    · rw [fnd_cons, ih, fnd_cons]
      by_cases hs : s = f.path
      · rw [if_pos hs, if_pos hs, if_neg (by rw [hs]; exact hx)]
      · rw [if_neg hs, if_neg hs]
    · rw [fnd_cons]
      by_cases hs : s = f.path
      · rw [if_pos hs.symm, if_pos hs]
      · rw [if_neg (fun e => hs e.symm), if_neg hs]
theorem del_ne {M : List Fl} {p : ByteArray} {x : Fl} (h : x ∈ delM M p) : x.path ≠ p ∧ x ∈ M := by
  unfold delM at h
  rw [List.mem_filter] at h
  exact ⟨by simpa using h.2, h.1⟩
theorem fnd_put (M : List Fl) (f : Fl) (s : ByteArray) : fnd (putM M f) s = if s = f.path then some f else fnd M s := by
  unfold putM
  rw [fnd_ins f _ (fun x hx => (del_ne hx).1), fnd_del]
  by_cases hs : s = f.path
  · rw [if_pos hs, if_pos hs]
  · rw [if_neg hs, if_neg hs, if_neg hs]
theorem mem_ins {f x : Fl} {M : List Fl} : x ∈ insF f M ↔ x = f ∨ x ∈ M := by
  induction M with
  | nil => simp [insF]
  | cons y M ih =>
    rw [insF]
    split
    · simp only [List.mem_cons, ih]
      constructor
      · rintro (h | h | h) <;> simp [h]
      · rintro (h | h | h) <;> simp [h]
    · simp
theorem mem_put {f x : Fl} {M : List Fl} (h : x ∈ putM M f) : x = f ∨ x ∈ M := by
  unfold putM at h
  rcases mem_ins.1 h with h | h
  · exact .inl h
  · exact .inr (del_ne h).2
theorem ins_len (f : Fl) (M : List Fl) : (insF f M).length = M.length + 1 := by
  induction M with
  | nil => rfl
  | cons y M ih => rw [insF]; split <;> simp [ih]
theorem del_len (M : List Fl) (h : M.Pairwise fun f f' => f.path ≠ f'.path) (p : ByteArray) : (delM M p).length + (if (fnd M p).isSome then 1 else 0) = M.length := by
  induction M with
  | nil => simp [delM, fnd]
  | cons x M ih =>
    rw [List.pairwise_cons] at h
    have ih := ih h.2
    unfold delM at ih ⊢
    rw [List.filter_cons, fnd_cons]
    by_cases hx : x.path = p
    · have hn : fnd M p = none := fnd_none (fun y hy e => h.1 y hy (by rw [hx, e]))
      rw [if_neg (by simp [hx]), if_pos hx]
      rw [hn] at ih
      simpa using ih
    · rw [if_pos (by simp [hx]), if_neg hx]
      simp only [List.length_cons]
      omega
theorem put_len (M : List Fl) (h : M.Pairwise fun f f' => f.path ≠ f'.path) (f : Fl) : (putM M f).length = if (fnd M f.path).isSome then M.length else M.length + 1 := by
  unfold putM
  rw [ins_len]
  have := del_len M h f.path
  split <;> simp_all
theorem ins_apart {f : Fl} {M : List Fl} (h : M.Pairwise fun f f' => f.path ≠ f'.path) (hf : ∀ x ∈ M, x.path ≠ f.path) : (insF f M).Pairwise fun f f' => f.path ≠ f'.path := by
  induction M with
  | nil => exact List.pairwise_singleton ..
  | cons x M ih =>
    rw [List.pairwise_cons] at h
    have ih := ih h.2 (fun y hy => hf y (List.mem_cons_of_mem _ hy))
    rw [insF]
    split
    · rw [List.pairwise_cons]
      refine ⟨fun y hy => ?_, ih⟩
      rcases mem_ins.1 hy with rfl | hy
      · exact hf x (List.mem_cons_self ..)
      · exact h.1 y hy
    · rw [List.pairwise_cons, List.pairwise_cons]
      exact ⟨fun y hy => fun e => hf y hy e.symm, h⟩
theorem put_apart {f : Fl} {M : List Fl} (h : M.Pairwise fun f f' => f.path ≠ f'.path) : (putM M f).Pairwise fun f f' => f.path ≠ f'.path :=
  ins_apart (h.sublist List.filter_sublist) (fun _ hx => (del_ne hx).1)

/-- Rows lie in no map's block. -/
theorem Rp.nomap {w w' : World} {a : Option Addr} {cap g : Nat} {l : List Pc} {es : Array MapEntry} {c : Nat} (h : Rp w a cap l) (hm : w.heap[g]? = some (.map es c)) (hg : w.grownBy w' (some g)) : Rp w' a cap l :=
  h.grown hg (fun h0 b off ha e => by
    subst e
    obtain ⟨b', off', ha', _, hc⟩ := h.cells h0
    rw [ha] at ha'
    injection ha' with ha'
    injection ha' with h1 h2
    subst h1 h2
    have h3 := hc 0 h0 0 (.int .u8 ((l.getD 0 pc0).1.getD 0 0)) (pcC_d (h.get h0).len 0 (by omega))
    simp [World.cell?, hm] at h3)
theorem Ri.nomap {w w' : World} {kd : IntKind} {a : Option Addr} {cap g : Nat} {zs : List Int} {es : Array MapEntry} {c : Nat} (h : Ri w kd a cap zs) (hm : w.heap[g]? = some (.map es c)) (hg : w.grownBy w' (some g)) : Ri w' kd a cap zs := by
  refine ⟨h.room, h.most, fun h0 => ?_, h.fits⟩
  obtain ⟨b, off, ha, hb, hc⟩ := h.cells h0
  have hne : b ≠ g := by
    intro e
    subst e
    have h3 := hc 0 h0
    simp [World.cell?, hm] at h3
  have hbl := hg.block b hb (fun e => hne (by injection e))
  exact ⟨b, off, ha, Nat.lt_of_lt_of_le hb hg.size, fun j hj => by rw [World.cell?_of_block (w' := w') (w := w) hbl]; exact hc j hj⟩
theorem Fok.nomap {w w' : World} {f : Fl} {g : Nat} {es : Array MapEntry} {c : Nat} (h : Fok w f) (hm : w.heap[g]? = some (.map es c)) (hg : w.grownBy w' (some g)) : Fok w' f :=
  ⟨h.path, h.seq, h.size, h.most, h.few, h.nok, h.row.nomap hm hg, h.ends.nomap hm hg⟩
theorem own_most {W : World} {b n m : Nat} {D : DataW Value} (h : W.ownsMap Try.prog 9 rdV b n D) (hm : Maps.size D ≤ m) : W.ownsMap Try.prog 9 rdV b m D := by
  obtain ⟨es, clock, hh, F, hs, rfl⟩ := h
  refine ⟨es, clock, hh, F, ?_, rfl⟩
  simpa [Maps.size, length_sorted] using hm
set_option maxRecDepth 100000 in
theorem Nm.put {B : Nat} {W : World} {n g : Nat} {M : List Fl} (h : Nm B W n g M) (f : Fl) (hf : Fok W f) (hfa : Fat B f) (hm : (fnd M f.path).isSome = true ∨ M.length < 1024) :
    ∃ W', (Instr.mapUpdate 67 (.map (some g)) (.string f.path) f.val).run Try.prog W = .ok () W' ∧ Nm B W' n g (putM M f) ∧ W.grownBy W' (some g) := by
  have hng := h.ne
  obtain ⟨D, h⟩ := h
  obtain ⟨es, clock, hh, _⟩ := id h.own
  have hsz : f.path.size ≤ maxLen := by have := hf.path; unfold maxLen; omega
  obtain ⟨W', hrun, hown, ht⟩ := h.own.store Try.keyed9 Try.underlying67 (by unfold maxLen; omega) (key_s hsz) (val := f.val) (d := .held f.val) (ps := []) rfl
  have hg := ht.grown
  have hpl := put_len M h.apart f
  have hsd := Maps.size_put (k := kS f.path) (h.own.tidy Try.keyed9) (.held f.val)
  have hle : (putM M f).length ≤ 1024 := by
    rw [hpl]
    have := h.many
    rcases hm with hm | hm
    · rw [if_pos hm]; omega
    · split <;> omega
  have hsz2 : Maps.size (D.put (kS f.path) (.held f.val)) = (putM M f).length := by
    rw [hsd, hpl, h.has, h.size]
  refine ⟨W', hrun, ⟨_, (hg.block n (blk_lt h.blk) (fun e => hng (by injection e))).trans h.blk, own_most hown (by rw [hsz2]; omega), fun s => ?_, fun s x hx z => ?_, hsz2, hle, fun x hx => ?_, fun x hx => ?_, put_apart h.apart⟩, hg⟩
  · rw [fnd_put]
    by_cases e : s = f.path
    · subst e
      rw [Maps.has_put_same h.own.isMap (kS_is _), if_pos rfl]
      rfl
    · rw [Maps.has_put_other (kS_ne e), if_neg e, h.has]
  · rw [fnd_put] at hx
    by_cases e : s = f.path
    · subst e
      rw [if_pos rfl] at hx
      injection hx with hx
      subst hx
      rw [Maps.atKey_put_same h.own.isMap (kS_is _)]
    · rw [if_neg e] at hx
      rw [Maps.atKey_put_other (kS_ne e)]
      exact h.at_ s x hx z
  · rcases mem_put hx with rfl | hx
    · exact hf.nomap hh hg
    · exact (h.ok x hx).nomap hh hg
  · rcases mem_put hx with rfl | hx
    · exact hfa
    · exact h.far x hx
theorem Nm.del {B : Nat} {W : World} {n g : Nat} {M : List Fl} (h : Nm B W n g M) (p : ByteArray) (hp : p.size ≤ maxLen) (ty : TypeId) :
    ∃ W', (Builtin.delete_ #[67, 9] ty #[.map (some g), .string p]).run Try.prog W = .ok (.tuple #[]) W' ∧ Nm B W' n g (delM M p) ∧ W.grownBy W' (some g) := by
  have hng := h.ne
  obtain ⟨D, h⟩ := h
  obtain ⟨es, clock, hh, _⟩ := id h.own
  obtain ⟨W', hrun, hown, ht⟩ := h.own.drop Try.keyed9 Try.underlying67 (key_s hp) ty
  have hg := ht.grown
  have hsd := Maps.size_del (k := kS p) (h.own.tidy Try.keyed9)
  have hdl := del_len M h.apart p
  rw [h.has, h.size] at hsd
  have hsz2 : Maps.size (D.del (kS p)) = (delM M p).length := by omega
  have hmany := h.many
  refine ⟨W', hrun, ⟨_, (hg.block n (blk_lt h.blk) (fun e => hng (by injection e))).trans h.blk, hown, fun s => ?_, fun s x hx z => ?_, hsz2, by omega, fun x hx => (h.ok x (del_ne hx).2).nomap hh hg, fun x hx => h.far x (del_ne hx).2, h.apart.sublist List.filter_sublist⟩, hg⟩
  · rw [fnd_del]
    by_cases e : s = p
    · subst e
      rw [Maps.has_del_same, if_pos rfl]
      rfl
    · rw [Maps.has_del_other (kS_ne e), if_neg e, h.has]
  · rw [fnd_del] at hx
    by_cases e : s = p
    · rw [if_pos e] at hx; cases hx
    · rw [if_neg e] at hx
      rw [Maps.atKey_del_other (kS_ne e)]
      exact h.at_ s x hx z
/-- A namespace stays while another block is turned. -/
theorem Nm.grown {B : Nat} {W W' : World} {n g m : Nat} {M : List Fl} (h : Nm B W n g M) (hg : W.grownBy W' (some m)) (h1 : m ≠ n) (h2 : m ≠ g) (h3 : m < B) : Nm B W' n g M := by
  have hl := h.lt
  obtain ⟨D, h⟩ := h
  refine ⟨D, (hg.block n hl.1 (fun e => h1 (by injection e with e; exact e.symm))).trans h.blk, own_bel h.own (hg.block g hl.2 (fun e => h2 (by injection e with e; exact e.symm))), h.has, h.at_, h.size, h.many, fun f hf => ?_, h.far, h.apart⟩
  have ho := h.ok f hf
  have hfa := h.far f hf
  refine ⟨ho.path, ho.seq, ho.size, ho.most, ho.few, ho.nok, ho.row.grown hg (fun _ b off ha e => ?_), ho.ends.grown hg (fun b off ha e => ?_)⟩
  · have := hfa.ps b off ha
    omega
  · have := hfa.es b off ha
    injection e with e
    omega
end Go.Proofs.Ytcbjlnabbfkkeaa
