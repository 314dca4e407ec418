/-
  What several texts want of records and of memory.
-/
import Derived.Test.YtcbjlnabbfkkeaaRcE
namespace Go.Proofs.Ytcbjlnabbfkkeaa
open Go.ChangeShapes Go.WideShapes Go.ChangeAt Go.RowKit Go.Deep Go.Lib

theorem z32_u8 (j : Nat) : (Lit.int .u8 (z32.getD j 0)).wf = true := get_u8 (x := z32) (fun z hz => by rw [List.eq_of_mem_replicate hz]; rfl) j
theorem rp_nil (w : World) : Rp w none 0 [] := ⟨Nat.le_refl _, by unfold maxLen; exact Nat.zero_le _, fun _ => rfl, fun h => absurd h (by simp), fun x hx => by cases hx⟩
def recZ : Rec := ⟨0, 0, z32, 0, 0, ByteArray.empty, none, 0, []⟩
theorem Try.zero36 : ∀ w, (zeroValue 36).run Try.prog w = .ok (.agg recZ.cs.toArray) w := fun w => by kernel_rfl
theorem recZ_rv (w : World) : Rv w recZ := ⟨rfl, fun j => get_u8 (x := z32) (fun z hz => by rw [List.eq_of_mem_replicate hz]; rfl) j, rfl, rfl, rfl, rfl, by unfold maxLen; exact Nat.zero_le _, ⟨Nat.le_refl _, by unfold maxLen; exact Nat.zero_le _, fun _ => rfl, fun h => absurd h (by simp [recZ]), fun x hx => by cases hx⟩⟩
theorem other_setCells (b i : Nat) (hne : i ≠ b) : ∀ (vs : List Value) (o : Nat) (w : World), (w.setCells b o vs).heap[i]? = w.heap[i]?
  | [], _, _ => rfl
  | _ :: vs, o, _ => (other_setCells b i hne vs (o + 1) _).trans (Deep.blk_setCell_other _ _ _ _ hne)
theorem wpList_alloc_to {P : Program} {ops : Array Oper} {rest : List Oper} {o : Oper} {a : Act} {w : World} {Q : Exit → Act → World → Prop} (hgd : o.guard = none) (ty : TypeId) (ho : o.op = .alloc ty) (d : Option Tmp) (hd : o.dst = d) (cs : Array Value)
    (hz : ∀ w, (zeroValue ty).run P w = .ok (.agg cs) w) (N : Nat) (hN : N = w.heap.size) (W : World) (hW : W = w.alloc (.cells cs ty)) (h : wpList P ops Q rest (a.put d (.pointer (some ⟨N, 0, none⟩))) W) : wpList P ops Q (o :: rest) a w := by
  subst hW
  exact wpList_alloc_at hgd ty ho d hd cs hz N hN h
theorem size_recs {r : Rec} (h : r.prev.length = 32) : (Try.prog.info? 36).map (·.size) = some r.cs.toArray.size := by rw [Rec.cs_size h]; exact Try.size36
def cutP (s : ByteArray) : ByteArray := if 300 < s.size then s.extract 0 300 else s
theorem Bx.setPs {w : World} {g : Nat} {r : Rec} (h : Bx w g r) (l : List Pc) : Bx (w.setCell ⟨g, 37, none⟩ (.slice r.a l.length r.cap)) g { r with ps := l } := by
  refine ⟨?_, h.len⟩
  rw [Joins.block_setCell h.blk, show r.cs = ([Value.int .i64 r.seq, .int .i64 r.epoch] ++ r.prev.map (Value.int .u8) ++ [.int .i64 r.kind, .int .i64 r.site, .string r.path]) ++ [.slice r.a r.ps.length r.cap] from by simp [Rec.cs]]
  have e : ([Value.int .i64 r.seq, .int .i64 r.epoch] ++ r.prev.map (Value.int .u8) ++ [Value.int .i64 r.kind, Value.int .i64 r.site, Value.string r.path]).length = 37 := by simp [h.len]
  rw [List.setIfInBounds_toArray, List.set_append_right _ _ (by omega), e]
  simp [Rec.cs]
theorem Bx.setPath {w : World} {g : Nat} {r : Rec} (h : Bx w g r) (s : ByteArray) : Bx (w.setCell ⟨g, 36, none⟩ (.string s)) g { r with path := s } := by
  refine ⟨?_, h.len⟩
  rw [Joins.block_setCell h.blk, show r.cs = ([Value.int .i64 r.seq, .int .i64 r.epoch] ++ r.prev.map (Value.int .u8) ++ [.int .i64 r.kind, .int .i64 r.site]) ++ [.string r.path, .slice r.a r.ps.length r.cap] from by simp [Rec.cs]]
  have e : ([Value.int .i64 r.seq, .int .i64 r.epoch] ++ r.prev.map (Value.int .u8) ++ [Value.int .i64 r.kind, Value.int .i64 r.site]).length = 36 := by simp [h.len]
  rw [List.setIfInBounds_toArray, List.set_append_right _ _ (by omega), e]
  simp [Rec.cs]
theorem cut_len (s : ByteArray) : (cutP s).size ≤ 300 := by
  unfold cutP
  split
  · simp [ByteArray.size_extract]; omega
  · omega
theorem wpList_store_asP {P : Program} {ops : Array Oper} {rest : List Oper} {o : Oper} {a : Act} {w : World} {Q : Exit → Act → World → Prop} (hgd : o.guard = none) (ty : TypeId) (x y : Operand) (ho : o.op = .store ty x y) (hd : o.dst = none)
    (W : World) (old cells : Array Value) (hw : w = W.alloc (.cells old ty)) (hx : a.eval x = .pointer (some ⟨W.heap.size, 0, none⟩)) (hy : a.eval y = .agg cells) (hi : (P.info? ty).map (·.size) = some cells.size)
    (hold : old.size = cells.size) (h1 : cells.all (·.oneCell') = true) (V : World) (hV : V = W.alloc (.cells cells ty)) (h : wpList P ops Q rest a V) : wpList P ops Q (o :: rest) a w := by
  subst hV
  exact wpList_store_new hgd ty x y ho hd W old cells hw hx hy hi hold h1 h
theorem flat_pc (l : List Pc) (h : ∀ x ∈ l, PcOk x) : (l.flatMap pcC).length = l.length * 33 := by
  induction l with
  | nil => rfl
  | cons x l ih => rw [List.flatMap_cons, List.length_append, pcC_len (h x (by simp)).len, ih (fun y hy => h y (by simp [hy])), List.length_cons]; omega
theorem flat_one (l : List Pc) : ∀ u ∈ l.flatMap pcC, u.oneCell' = true := fun u hu => by
  obtain ⟨x, _, hx⟩ := List.mem_flatMap.1 hu
  exact pcC_one x u hx
theorem flat_at (l : List Pc) (h : ∀ x ∈ l, PcOk x) : ∀ j, j < l.length → ∀ i u, (pcC (l.getD j pc0))[i]? = some u → (l.flatMap pcC)[j * 33 + i]? = some u := by
  induction l with
  | nil => intro j hj; simp at hj
  | cons x l ih =>
    intro j hj i u hu
    have hx := pcC_len (h x (by simp)).len
    rw [List.flatMap_cons]
    cases j with
    | zero =>
      have hu' : (pcC x)[i]? = some u := hu
      have hi : i < (pcC x).length := (List.getElem?_eq_some_iff.1 hu').1
      rw [show 0 * 33 + i = i from by omega, List.getElem?_append_left hi]
      exact hu'
    | succ j =>
      rw [List.getElem?_append_right (by rw [hx]; omega), hx, show (j + 1) * 33 + i - 33 = j * 33 + i from by omega]
      exact ih (fun y hy => h y (by simp [hy])) j (by simp at hj; omega) i u (by simpa using hu)
theorem flat_back (l : List Pc) (h : ∀ x ∈ l, PcOk x) (k : Nat) (u : Value) (hk : (l.flatMap pcC)[k]? = some u) : ∃ j i, j < l.length ∧ k = j * 33 + i ∧ (pcC (l.getD j pc0))[i]? = some u := by
  have hlt : k < (l.flatMap pcC).length := (List.getElem?_eq_some_iff.1 hk).1
  rw [flat_pc l h] at hlt
  have hj : k / 33 < l.length := by omega
  refine ⟨k / 33, k % 33, hj, by omega, ?_⟩
  have hok : PcOk (l.getD (k / 33) pc0) := h _ (by simp [List.getD, List.getElem?_eq_getElem hj])
  have hi : k % 33 < (pcC (l.getD (k / 33) pc0)).length := by rw [pcC_len hok.len]; omega
  have := flat_at l h (k / 33) hj (k % 33) _ (List.getElem?_eq_getElem hi)
  rw [show k / 33 * 33 + k % 33 = k from by omega, hk] at this
  rw [List.getElem?_eq_getElem hi, this]
/-- A row of pieces of one's own reads as them. -/
theorem Rp.own {w : World} {base : Nat} {v : Value} {l : List Pc} (h : w.ownsRow base 59 33 v l.length (l.flatMap pcC)) (hf : ∀ x ∈ l, PcOk x) : ∃ a cap, v = .slice a l.length cap ∧ Rp w a cap l ∧ ∀ b off, a = some ⟨b, off, none⟩ → base ≤ b := by
  rcases h.2 with ⟨rfl, hn⟩ | ⟨g, cap, cur, rfl, hbg, hg, hc, hm, hs, ht⟩
  · rw [hn]
    exact ⟨none, 0, rfl, ⟨by omega, by unfold maxLen; omega, fun _ => rfl, fun h0 => by omega, hf⟩, fun _ _ h => by cases h⟩
  · refine ⟨some ⟨g, 0, none⟩, cap, rfl, ⟨hc, hm, (fun h => by cases h), fun _ => ⟨g, 0, rfl, (Array.getElem?_eq_some_iff.1 hg).1, fun j hj i u hu => ?_⟩, hf⟩, fun b off h => by injection h with h; injection h with h; omega⟩
    have := flat_at l hf j hj i u hu
    rw [← ht] at this
    rw [Nat.zero_add]
    refine (Joins.cell_of_block hg _).trans ?_
    have hlt : j * 33 + i < (cur.toList.take (l.length * 33)).length := (List.getElem?_eq_some_iff.1 this).1
    rw [List.getElem?_take_of_lt (by simp at hlt; omega)] at this
    simpa using this
theorem Try.info59 : (Try.prog.info? 59).map (fun i => (i.zero, i.size, i.bytes)) = some (some (.agg pcZ), 33, 40) := by kernel_rfl
theorem own_zero (w : World) : (w.alloc (.cells #[] 59)).ownsRow w.heap.size 59 33 (.slice (some ⟨w.heap.size, 0, none⟩) 0 0) 0 [] :=
  ⟨rfl, .inr ⟨w.heap.size, 0, #[], rfl, Nat.le_refl _, heap_alc w _, Nat.le_refl _, by unfold maxLen; omega, rfl, rfl⟩⟩
theorem bq25 (a : Option Addr) (n c : Nat) (W : World) : (binOp .eql 34 (.slice a n c) (.slice none 0 0)).run Try.prog W = .ok (.bool a.isNone) W := run_eql_slice_nil W 34 59 a n c 0 0 Try.underlying34
set_option maxHeartbeats 3200000 in
set_option maxRecDepth 100000 in
theorem clone_word (a : Option Addr) (cap : Nat) (l : List Pc) (w : World) (hr : Rp w a cap l) (hn : l.length ≤ 4096) :
    Calls Try.prog 55 #[.slice a l.length cap] w fun e w' => ∃ a' cap', e = .returned (.slice a' l.length cap') ∧ Rp w' a' cap' l ∧ (∀ b off, a' = some ⟨b, off, none⟩ → w.heap.size ≤ b) ∧ Below w.heap.size w w' := by
  have Q := bq25
  cases a with
  | none =>
    have h0 : cap = 0 := hr.none0 rfl
    have hl : l = [] := List.length_eq_zero_iff.1 (by have := hr.room; omega)
    subst h0 hl
    have HR := hid hr
    go_enter Try.func55, Try.ntmps55
    go_wp2
    go_ret
    exact ⟨_, _, rfl, HR.out, (fun _ _ h => by cases h), Below.refl _ _⟩
  | some ad =>
    obtain ⟨i0, hi, hz0, hz1, hz2⟩ := info_parts Try.info59
    have hro := hr.room
    have hmo := hr.most
    have HR := hid (hr.later (bel_alc w (.cells #[] 59)))
    have HB := hid (bel_alc w (.cells #[] 59))
    have HO := hid (own_zero w)
    have HFL := hid (flat_pc l hr.fits)
    obtain ⟨n, hnl⟩ : ∃ n, n = l.length := ⟨_, rfl⟩
    have HNL := hid hnl
    have HNA : Hid (∀ j u, (l.flatMap pcC)[j]? = some u → (w.alloc (.cells #[] 59)).cell? (ad.add j) = some u) := fun k u hk => by
      obtain ⟨j, i, hj, rfl, hu⟩ := flat_back l HR.out.fits k u hk
      obtain ⟨b, off, ha, hbw, hc⟩ := HR.out.cells (by omega)
      injection ha with ha
      subst ha
      rw [add_plain, ← Nat.add_assoc]
      exact hc j hj i u hu
    rw [← hnl] at hn hro ⊢
    clear hr hnl
    unfold maxLen at hmo
    go_enter Try.func55, Try.ntmps55
    go_wp2_with (at_builtin; refine wpList_append_own _ rfl _ _ 34 rfl w.heap.size 59 i0 _ 33 40 Try.underlying34 hi hz0 hz1 hz2 rfl (by decide) _ 0 [] rfl HO.out ad n cap (l.flatMap pcC) rfl (by rw [HNL.out]; exact HFL.out) HNA.out (flat_one l) (by unfold maxLen; omega) (by omega) (by simp) ?_)
    intro v' w' ho hg _
    have ho' : w'.ownsRow w.heap.size 59 33 v' l.length (l.flatMap pcC) := by rw [← HNL.out]; simpa using ho
    obtain ⟨a', cap', rfl, hr', hge⟩ := Rp.own ho' HR.out.fits
    have HR' := hid hr'
    have HGE := hid hge
    have HB' : Hid (Below w.heap.size w w') := HB.out.trans ((Below.refl _ _).grown hg (by simp) (fun j hj => (HO.out.lt j hj).1))
    clear ho ho' hr' hg hge
    rw [← HNL.out]
    go_wp2
    go_ret
    exact ⟨_, _, rfl, HR'.out, HGE.out, HB'.out⟩

/-- A stretch of a row, set anew. -/
def setL : List Value → Nat → List Value → List Value
  | C, _, [] => C
  | C, o, v :: vs => setL (C.set o v) (o + 1) vs
theorem block_setCells (b : Nat) (t : TypeId) (fr : Nat × Nat) : ∀ (vs : List Value) (o : Nat) (w : World) (C : List Value), w.heap[b]? = some (.cells C.toArray t fr) → (w.setCells b o vs).heap[b]? = some (.cells (setL C o vs).toArray t fr)
  | [], _, _, _, h => h
  | v :: vs, o, w, C, h => by
    refine block_setCells b t fr vs (o + 1) _ (C.set o v) ?_
    rw [Joins.block_setCell h]
    simp
theorem setL_mid : ∀ (Y A X Z : List Value), X.length = Y.length → setL (A ++ X ++ Z) A.length Y = A ++ Y ++ Z
  | [], A, X, Z, h => by
    have : X = [] := List.length_eq_zero_iff.1 (by simpa using h)
    subst this
    rfl
  | y :: Y, A, x :: X, Z, h => by
    have e : (A ++ x :: X ++ Z).set A.length y = (A ++ [y]) ++ X ++ Z := by simp
    have := setL_mid Y (A ++ [y]) X Z (by simpa using h)
    rw [setL, e, show A.length + 1 = (A ++ [y]).length from by simp, this]
    simp
theorem below_setCells {B b : Nat} {w0 : World} (hb : B ≤ b) : ∀ (vs : List Value) (o : Nat) (w : World), Below B w0 w → Below B w0 (w.setCells b o vs)
  | [], _, _, h => h
  | v :: vs, o, _, h => below_setCells hb vs (o + 1) _ (h.setCell (p := ⟨b, o, none⟩) hb v)
theorem Rp.kept {w w' : World} {a : Option Addr} {cap : Nat} {l : List Pc} (h : Rp w a cap l) (hk : ∀ b off, a = some ⟨b, off, none⟩ → w'.heap[b]? = w.heap[b]?) : Rp w' a cap l := by
  refine ⟨h.room, h.most, h.none0, fun h0 => ?_, h.fits⟩
  obtain ⟨b, off, ha, hb, hc⟩ := h.cells h0
  have e := hk b off ha
  refine ⟨b, off, ha, ?_, fun j hj i u hu => (World.cell?_of_block (w := w) (a := ⟨b, off + j * 33 + i, none⟩) e).trans (hc j hj i u hu)⟩
  have : w.heap[b]? ≠ none := by simp; omega
  rw [← e] at this
  simpa using this
theorem other_setRow (w : World) (g : Nat) (cs : Array Value) (i : Nat) (h : i ≠ g) : (w.setRow g cs).heap[i]? = w.heap[i]? := by
  simp only [World.setRow, Array.getElem?_modify]
  rw [if_neg (by omega)]
end Go.Proofs.Ytcbjlnabbfkkeaa