/-
  Declarations that later texts of another seat want, out of several.
-/
import Derived.Test.YtgnjicpmfpgdeaaDoorWordV
import Derived.Test.YtgnjicpmfpgdeaaDoorOrd
import Derived.Test.YtgnjicpmfpgdeaaDoorOrdE
import Derived.Handy
import Derived.Lib.AppendZerosOnto
import Derived.Lib.SliceRun
import Derived.Lib.Walk
import Derived.Laws.AppendOwnNone
import Derived.Lib.SlBytesConst
import Derived.WalkLawsBesides
import Derived.Great.BuildSlice
import Derived.Laws.StructEq
import Derived.ChangeKeysEq
import Derived.Deep.MidRow
import Derived.Lib.SmallJoins
import Derived.Deep.WholeRow
import Derived.Laws.CopyOwn
namespace Go.Proofs.YtgnjicpmfpgdeaaDoor
open Go.RowKit

theorem bel_alc (w : World) (o : Obj) : Below w.heap.size w (w.alloc o) := (Below.refl _ _).alloc (Nat.le_refl _) o
theorem heap_alc (w : World) (o : Obj) : (w.alloc o).heap[w.heap.size]? = some o := by
  show (w.heap.push o)[w.heap.size]? = _
  simp
theorem exec_load {P : Program} {w : World} {o : Oper} {ρ : Operand → Value} (ty : TypeId) (x : Operand) (ho : o.op = .load ty x) (b off : Nat) (hx : ρ x = .pointer (some ⟨b, off, none⟩)) {v : Value} (hl : (loadVar ty ⟨b, off, none⟩).run P w = .ok v w) :
    (execOp ρ o).run P w = .ok (.value v) w := by
  unfold execOp
  simp only [ho, hx, Instr.loadAt, Instr.sureAddr, Sem.run_bind, Sem.run_pure, Result.andThen_ok, hl]
theorem bel_alloc (w : World) (o : Obj) : Below w.heap.size w (w.alloc o) := (Below.refl _ _).alloc (Nat.le_refl _) o
theorem heap_new (w : World) (o : Obj) : (w.alloc o).heap[w.heap.size]? = some o := by
  show (w.heap.push o)[w.heap.size]? = _
  simp
theorem heap_old (w : World) (o : Obj) {i : Nat} {x : Obj} (h : w.heap[i]? = some x) : (w.alloc o).heap[i]? = some x := (Below.heap_alloc w o i (Array.getElem?_eq_some_iff.1 h).1).trans h
theorem own_later {w w' : World} {B e size n : Nat} {v : Value} {xs : List Value} (h : w.ownsRow B e size v n xs) (hb : Below w.heap.size w w') : w'.ownsRow B e size v n xs := by
  refine ⟨h.1, ?_⟩
  rcases h.2 with h1 | ⟨g, cap, cur, hv, hg, hh, hr⟩
  · exact Or.inl h1
  · exact Or.inr ⟨g, cap, cur, hv, hg, (hb.block g (Array.getElem?_eq_some_iff.1 hh).1).trans hh, hr⟩
theorem Tryd.info5Z : (Tryd.prog.info? 5).map (fun i => (i.zero, i.size, i.bytes)) = some (some (.int .u8 0), 1, 1) := by kernel_rfl
theorem run_append_nil {P : Program} {w : World} (base : Nat) (t ty e : TypeId) (i : TypeInfo) (size cp : Nat) (ht : P.underlying t = some (.slice e)) (hi : P.info? e = some i)
    (v : Value) (n : Nat) (xs : List Value) (hown : w.ownsRow base e size v n xs) : (Builtin.append_ #[t, t] ty #[v, .slice none 0 cp]).run P w = .ok v w := by
  rcases hown.2 with ⟨rfl, rfl⟩ | ⟨g, cap, cur, rfl, _, _, hnc, _⟩
  · simp [Builtin.append_, run_underlying ht, sizeOf, typeInfo, hi, Builtin.lenOf, Builtin.firstCells]
  · simp [Builtin.append_, run_underlying ht, sizeOf, typeInfo, hi, Builtin.lenOf, Builtin.firstCells, hnc, storeCells]
theorem wpList_append_nil {P : Program} {w : World} {ops : Array Oper} {rest : List Oper} {o : Oper} {a : Act} {Q : Exit → Act → World → Prop} (hgd : o.guard = none) (s x : Operand) (t : TypeId)
    (ho : o.op = .call { callee := .builtin .append, args := #[s, x], argTypes := #[t, t] }) (base : Nat) (e : TypeId) (i : TypeInfo) (size cp : Nat) (ht : P.underlying t = some (.slice e)) (hi : P.info? e = some i)
    (v : Value) (n : Nat) (xs : List Value) (hs : a.eval s = v) (hown : w.ownsRow base e size v n xs) (hx : a.eval x = .slice none 0 cp)
    (h : wpList P ops Q rest (a.put o.dst v) w) : wpList P ops Q (o :: rest) a w := by
  refine wpList_plain hgd fun K hK => ?_
  have hrun := run_append_nil (P := P) (w := w) base t o.type e i size cp ht hi v n xs hown
  unfold Oper.wp
  simp [execOp, ho, resolve, invoke, builtin, hs, hx, hrun, Result.andThen]
  exact hK _ _ h
theorem app_any (w : World) {ops : Array Oper} {rest : List Oper} {o : Oper} {ac : Act} {Q : Exit → Act → World → Prop} (hgd : o.guard = none) (s x : Operand)
    (ho : o.op = .call { callee := .builtin .append, args := #[s, x], argTypes := #[22, 22] }) (B : Nat) (v : Value) (l : List Int) (hs : ac.eval s = v) (hown : w.ownsRow B 5 1 v l.length (l.map (Value.int .u8)))
    (a : Option Addr) (cap : Nat) (zs : List Int) (hx : ac.eval x = .slice a zs.length cap) (hrd : Ri w .u8 a cap zs) (hbd : l.length + zs.length ≤ 10000000) (hB : B ≤ w.heap.size)
    (h : ∀ v' w', w'.ownsRow B 5 1 v' (l ++ zs).length ((l ++ zs).map (Value.int .u8)) → w.grownBy w' v.ownBlock → wpList Tryd.prog ops Q rest (ac.put o.dst v') w') : wpList Tryd.prog ops Q (o :: rest) ac w := by
  obtain ⟨i0, hi, hz0, hz1, hz2⟩ := info_parts Tryd.info5Z
  cases a with
  | none =>
    have hz : zs = [] := by
      apply List.length_eq_zero_iff.1
      rcases Nat.eq_zero_or_pos zs.length with h | h
      · exact h
      · obtain ⟨_, _, h', _⟩ := hrd.cells h
        cases h'
    subst hz
    refine wpList_append_nil hgd s x 22 ho B 5 i0 1 cap Tryd.underlying22 hi v l.length _ hs hown hx ?_
    have := h v w (by simpa using hown) (World.grownBy.refl _ _)
    exact this
  | some ad =>
    refine wpList_append_own w hgd s x 22 ho B 5 i0 (.int .u8 0) 1 1 Tryd.underlying22 hi hz0 hz1 hz2 rfl (by decide) v l.length _ hs hown ad zs.length cap (zs.map (Value.int .u8)) hx (by simp) ?_ (fun u hu => by obtain ⟨y, _, rfl⟩ := List.mem_map.1 hu; rfl) (by unfold maxLen; omega) (by omega) hB ?_
    · intro j u hj
      have hjl : j < zs.length := by
        have := (List.getElem?_eq_some_iff.1 hj).1
        simpa using this
      obtain ⟨b, off, hb, _, hc⟩ := hrd.cells (by omega)
      have hb' := Option.some.inj hb
      subst hb'
      rw [Go.WideShapes.add_plain, hc j hjl, ← hj]
      simp [List.getD, List.getElem?_eq_getElem hjl]
    · intro v' w' h1 h2 _
      refine h v' w' ?_ h2
      rw [List.length_append, List.map_append]
      exact h1
theorem own_app (w : World) {ops : Array Oper} {rest : List Oper} {o : Oper} {ac : Act} {Q : Exit → Act → World → Prop} (hgd : o.guard = none) (s x : Operand)
    (ho : o.op = .call { callee := .builtin .append, args := #[s, x], argTypes := #[22, 22] }) (B : Nat) (v : Value) (l : List Int) (hs : ac.eval s = v) (hown : w.ownsRow B 5 1 v l.length (l.map (Value.int .u8)))
    (a : Option Addr) (cap : Nat) (zs : List Int) (hx : ac.eval x = .slice a zs.length cap) (hrd : Ri w .u8 a cap zs) (hbd : l.length + zs.length ≤ 1000000) (hB : B ≤ w.heap.size)
    (h : ∀ v' w', w'.ownsRow B 5 1 v' (l ++ zs).length ((l ++ zs).map (Value.int .u8)) → Below B w w' → wpList Tryd.prog ops Q rest (ac.put o.dst v') w') : wpList Tryd.prog ops Q (o :: rest) ac w :=
  app_any w hgd s x ho B v l hs hown a cap zs hx hrd (by omega) hB (fun v' w' h1 h2 => h v' w' h1 ((Below.refl B w).grown h2 hB (fun j hj => (hown.lt j hj).1)))
theorem own_none (w : World) : (w.alloc (.cells #[] 5)).ownsRow w.heap.size 5 1 (.slice (some ⟨w.heap.size, 0, none⟩) 0 0) ([] : List Int).length (([] : List Int).map (Value.int .u8)) :=
  ⟨rfl, .inr ⟨w.heap.size, 0, #[], rfl, Nat.le_refl _, heap_alc w _, Nat.le_refl _, by unfold maxLen; omega, rfl, rfl⟩⟩
theorem cell_lt {w : World} {p : Addr} {x : Value} (h : w.cell? p = some x) : p.block < w.heap.size := by
  unfold World.cell? at h
  by_cases c : p.block < w.heap.size
  · exact c
  · have : w.heap[p.block]? = none := by simpa using c
    simp [this] at h
theorem il_ext {l m : List Int} (h : l.length = m.length) (he : ∀ i, i < l.length → l.getD i 0 = m.getD i 0) : l = m := by
  refine List.ext_getElem h (fun i h1 h2 => ?_)
  have := he i h1
  simpa [List.getD, List.getElem?_eq_getElem h1, List.getElem?_eq_getElem h2] using this
/-- A row of bytes that append makes longer: one's own, or one that is full. -/
def Gr (B : Nat) (w : World) (v : Value) (l : List Int) : Prop :=
  w.ownsRow B 5 1 v l.length (l.map (Value.int .u8)) ∨ ∃ g, v = .slice (some ⟨g, 0, none⟩) l.length l.length ∧ l.length ≤ 100 ∧ ∀ j, j < l.length → w.cell? ⟨g, j, none⟩ = some (.int .u8 (l.getD j 0))
theorem Gr.later {B : Nat} {w w' : World} {v : Value} {l : List Int} (h : Gr B w v l) (hb : Below w.heap.size w w') : Gr B w' v l := by
  rcases h with h | ⟨g, h1, h2, h3⟩
  · exact .inl (own_later h hb)
  · refine .inr ⟨g, h1, h2, fun j hj => ?_⟩
    have := h3 j hj
    rw [hb.cell (p := ⟨g, j, none⟩) (cell_lt this)]
    exact this
set_option maxHeartbeats 3200000 in
set_option maxRecDepth 100000 in
theorem gr_app (w : World) {ops : Array Oper} {rest : List Oper} {o : Oper} {ac : Act} {Q : Exit → Act → World → Prop} (hgd : o.guard = none) (s x : Operand)
    (ho : o.op = .call { callee := .builtin .append, args := #[s, x], argTypes := #[22, 22] }) (B : Nat) (v : Value) (l : List Int) (hs : ac.eval s = v) (hgr : Gr B w v l)
    (a : Option Addr) (cap : Nat) (zs : List Int) (hx : ac.eval x = .slice a zs.length cap) (hrd : Ri w .u8 a cap zs) (h0 : 0 < zs.length) (hbd : l.length + zs.length ≤ 1000000) (hB : B ≤ w.heap.size)
    (h : ∀ v' w', w'.ownsRow B 5 1 v' (l ++ zs).length ((l ++ zs).map (Value.int .u8)) → Below B w w' → wpList Tryd.prog ops Q rest (ac.put o.dst v') w') : wpList Tryd.prog ops Q (o :: rest) ac w := by
  rcases hgr with hown | ⟨g, rfl, hl, hc⟩
  · exact app_any w hgd s x ho B v l hs hown a cap zs hx hrd (by omega) hB (fun v' w' h1 h2 => h v' w' h1 ((Below.refl B w).grown h2 hB (fun j hj => (hown.lt j hj).1)))
  · obtain ⟨i0, hi, hz0, hz1, hz2⟩ := info_parts Tryd.info5Z
    obtain ⟨b, off, rfl, _, hcz⟩ := hrd.cells h0
    have hr := run_append_grow (P := Tryd.prog) (w := w) 22 o.type 5 i0 (.int .u8 0) Tryd.underlying22 hi hz0 ⟨g, 0, none⟩ l.length l.length (l.map (Value.int .u8)) (by rw [hz1]; simp) (fun j u hj => by
      have hjl : j < l.length := by
        have := (List.getElem?_eq_some_iff.1 hj).1
        simpa using this
      rw [Go.WideShapes.add_plain, Nat.zero_add, hc j hjl, ← hj]
      simp [List.getD, List.getElem?_eq_getElem hjl]) ⟨b, off, none⟩ zs.length cap (zs.map (Value.int .u8)) (by rw [hz1]; simp) (fun j u hj => by
      have hjl : j < zs.length := by
        have := (List.getElem?_eq_some_iff.1 hj).1
        simpa using this
      rw [Go.WideShapes.add_plain, hcz j hjl, ← hj]
      simp [List.getD, List.getElem?_eq_getElem hjl]) (by omega) (by omega) (growslice_fits (by omega) (by rw [hz2]; omega))
    have hge := grownCap_ge w (l.length + zs.length) l.length 5
    have hcm := grownCap_le_maxLen w (l.length + zs.length) l.length 5 (by unfold maxLen; omega)
    refine wpList_plain hgd fun K hK => ?_
    unfold Oper.wp
    simp [execOp, ho, resolve, invoke, builtin, hs, hx, hr, Result.andThen]
    refine hK _ _ (h _ _ ⟨by simp, .inr ⟨w.heap.size, _, _, by simp, hB, heap_alloc_new w.drew _, by rw [List.length_append]; exact hge, hcm, ?_, ?_⟩⟩ (((Below.refl B w).drew).alloc (by simpa using hB) _))
    · simp only [Array.size_append, List.size_toArray, size_zeroCells, Value.cells]
      simp
      omega
    · simp only [Array.toList_append, List.append_assoc, Nat.mul_one]
      rw [← List.append_assoc, ← List.map_append, show (l ++ zs).length = ((l ++ zs).map (Value.int .u8)).length from by simp]
      exact List.take_left
theorem ri_one (w : World) (x : Int) (hx : 0 ≤ x ∧ x ≤ 255) : Ri (w.alloc (.cells #[.int .u8 x] 5)) .u8 (some ⟨w.heap.size, 0, none⟩) 1 [x] := by
  refine ⟨Nat.le_refl _, by unfold maxLen; omega, fun _ => ⟨w.heap.size, 0, rfl, by simp, fun j hj => ?_⟩, fun j => ?_⟩
  · have : j = 0 := by simp at hj; omega
    subst this
    exact Joins.cell_of_block (heap_alc w _) 0
  · cases j with
    | zero => exact wf_mk_u8 hx.1 hx.2
    | succ j => simp; exact wf_zero _
theorem vintL_u8 : ∀ (f : Nat) (x : Int), 0 ≤ x → x < 128 ^ (f + 1) → ∀ y ∈ vintL f x, 0 ≤ y ∧ y ≤ 255
  | 0, x, h0, h1, y, hy => by
    simp [vintL] at hy
    subst hy
    simp at h1; omega
  | f + 1, x, h0, h1, y, hy => by
    rw [vintL] at hy
    split at hy
    · simp at hy; subst hy; omega
    · rcases List.mem_cons.1 hy with rfl | hy
      · omega
      · exact vintL_u8 f (x / 128) (by omega) (by rw [Int.ediv_lt_iff_lt_mul (by decide), ← Int.pow_succ]; exact h1) y hy
theorem vint_u8 (x : Int) (h0 : 0 ≤ x) (h1 : x < 18446744073709551616) (j : Nat) : 0 ≤ (vint x).getD j 0 ∧ (vint x).getD j 0 ≤ 255 := by
  by_cases h : j < (vint x).length
  · have := vintL_u8 9 x h0 (by omega) _ (List.getElem_mem h)
    simpa [List.getD, List.getElem?_eq_getElem h] using this
  · simp [List.getD, List.getElem?_eq_none (show (vint x).length ≤ j by omega)]
theorem vint_short (x : Int) (h0 : 0 ≤ x) (h1 : x < 16384) : (vint x).length ≤ 2 := by
  unfold vint
  rw [vintL]
  split
  · simp
  · rw [vintL, if_pos (by omega)]; simp
theorem vint_mid (x : Int) (h0 : 0 ≤ x) (h1 : x < 2097152) : (vint x).length ≤ 3 := by
  unfold vint
  rw [vintL]
  split
  · simp
  · rw [vintL]
    split
    · simp
    · rw [vintL, if_pos (by omega)]; simp
/-- word.Varint, its bytes as a row. -/
theorem varint_ri (x : Int) (w : World) (h0 : 0 ≤ x) (h1 : x < 18446744073709551616) :
    Calls Tryd.prog 38 #[.int .u64 x] w fun e w' => ∃ a c, e = .returned (.slice a (vint x).length c) ∧ Ri w' .u8 a c (vint x) ∧ Below w.heap.size w w' := by
  refine (var_word x w h0 h1).mono ?_
  rintro e w' ⟨v, rfl, ho, hb⟩
  obtain ⟨a, c, rfl, hr⟩ := Ri.own ho (fun j => wf_mk_u8 (vint_u8 x h0 h1 j).1 (vint_u8 x h0 h1 j).2)
  exact ⟨a, c, rfl, hr, hb⟩
set_option maxHeartbeats 800000 in
set_option maxRecDepth 1000000 in
theorem varr_ref (x : Int) (w : World) (h0 : 0 ≤ x) (h1 : x < 18446744073709551616) :
    Calls Tryd.prog 40 #[.int .u64 x] w fun e w' => ∃ v, e = .returned v ∧ w'.ownsRow w.heap.size 5 1 v (vint x).length ((vint x).map (Value.int .u8)) ∧ Below w.heap.size w w' := by
  obtain ⟨i0, hi, hz0, hz1, hz2⟩ := info_parts Tryd.info5W
  go_enter Tryd.func40, Tryd.ntmps40
  go_wp2
  go_loopw [0, 3] (fun c v wr => ∃ (f : Nat) (acc : List Int) (y : Int), c = .int .u64 y ∧ 0 ≤ y ∧ y < 18446744073709551616 ∧ y < 128 ^ (f + 1) ∧ acc.length + f = 9 ∧ acc ++ vintL f y = vint x ∧ wr.ownsRow w.heap.size 5 1 v acc.length (acc.map (Value.int .u8)) ∧ Below w.heap.size w wr)
    (fun c _ _ => (intOf c).toNat)
  case atStart => exact ⟨9, [], x, rfl, h0, h1, by omega, rfl, rfl, World.ownsRow_nil _ _ _ _, Below.refl _ _⟩
  case round =>
    obtain ⟨f, acc, y, rfl, hy0, hy1, hyf, hlen, hcat, hown, hbel⟩ := hrel
    have hor := or128 y
    by_cases hy : y < 128
    · go_wp2_with (at_builtin; refine wpList_append_own _ rfl _ _ 22 rfl w.heap.size 5 i0 (.int .u8 0) 1 1 Tryd.underlying22 hi hz0 hz1 hz2 rfl (by decide) _ _ _ rfl (hown.alloc _) ⟨wr.heap.size, 0, none⟩ 1 1 [.int .u8 y] rfl rfl ?c1 ?c2 ?c3 ?c4 ?c5 ?_)
      case c1 =>
        intro j u hj
        match j, hj with
        | 0, hj => simp at hj; subst hj; simp [Addr.add]
      case c2 => intro u hu; simp at hu; subst hu; rfl
      case c3 => unfold maxLen; omega
      case c4 => omega
      case c5 => have := hbel.size; simp; omega
      intro v' w1 hown' hgrow _
      have R := own_snocW hbel.size hown hbel hown' hgrow
      have hv : acc ++ [y] = vint x := by rw [← hcat, vint_last f y hy]
      rw [hv] at R
      clear hown' hgrow hown hcat
      go_wp2
      go_ret
      exact ⟨_, rfl, R.1, R.2⟩
    · obtain ⟨g, rfl⟩ : ∃ g, f = g + 1 := by
        cases f with
        | zero => omega
        | succ g => exact ⟨g, rfl⟩
      have hcat' : (acc ++ [y % 128 + 128]) ++ vintL g (y / 128) = vint x := by rw [← hcat, vint_more g y hy]; simp
      have hyg : y / 128 < 128 ^ (g + 1) := by
        rw [Int.ediv_lt_iff_lt_mul (by decide), ← Int.pow_succ]; exact hyf
      clear hcat hyf
      go_wp2_with (at_builtin; refine wpList_append_own _ rfl _ _ 22 rfl w.heap.size 5 i0 (.int .u8 0) 1 1 Tryd.underlying22 hi hz0 hz1 hz2 rfl (by decide) _ _ _ rfl (hown.alloc _) ⟨wr.heap.size, 0, none⟩ 1 1 [.int .u8 (y % 128 + 128)] rfl rfl ?d1 ?d2 ?d3 ?d4 ?d5 ?_)
      case d2 => rfl
      case d3 => unfold maxLen; omega
      case d4 => omega
      case d5 => have := hbel.size; simp; omega
      intro v' w1 hown' hgrow _
      have R := own_snocW hbel.size hown hbel hown' hgrow
      clear hown' hgrow hown
      go_wp2
      go_roundw
      case rel => exact ⟨g, acc ++ [y % 128 + 128], y / 128, rfl, by omega, by omega, hyg, by simp; omega, hcat', R.1, R.2⟩
      case measure => simp [intOf]; omega
/-- The document's Varint, its bytes as a row. -/
theorem varr_ri (x : Int) (w : World) (h0 : 0 ≤ x) (h1 : x < 18446744073709551616) :
    Calls Tryd.prog 40 #[.int .u64 x] w fun e w' => ∃ a c, e = .returned (.slice a (vint x).length c) ∧ Ri w' .u8 a c (vint x) ∧ Below w.heap.size w w' := by
  refine (varr_ref x w h0 h1).mono ?_
  rintro e w' ⟨v, rfl, ho, hb⟩
  obtain ⟨a, c, rfl, hr⟩ := Ri.own ho (fun j => wf_mk_u8 (vint_u8 x h0 h1 j).1 (vint_u8 x h0 h1 j).2)
  exact ⟨a, c, rfl, hr, hb⟩
theorem Ri.tail {w : World} {kd : IntKind} {a : Option Addr} {cap : Nat} {zs : List Int} (h : Ri w kd a cap zs) (n : Nat) (hn : n ≤ zs.length) (b off : Nat) (ha : a = some ⟨b, off, none⟩) : Ri w kd (some ⟨b, off + n, none⟩) (cap - n) (zs.drop n) := by
  have hroom := h.room
  have hmost := h.most
  have e : ∀ j, (zs.drop n).getD j 0 = zs.getD (n + j) 0 := fun j => by simp [List.getD]
  refine ⟨by rw [List.length_drop]; omega, by omega, fun h0 => ?_, fun j => by rw [e]; exact h.fits _⟩
  rw [List.length_drop] at h0
  obtain ⟨b', off', ha', hb, hc⟩ := h.cells (by omega)
  rw [ha] at ha'
  injection ha' with ha'
  injection ha' with h1 h2
  subst h1 h2
  exact ⟨b, off + n, rfl, hb, fun j hj => by rw [List.length_drop] at hj; rw [e, Nat.add_assoc]; exact hc _ (by omega)⟩
theorem ri_none (w : World) (kd : IntKind) (a : Option Addr) (c : Nat) (h : c ≤ maxLen) : Ri w kd a c [] := ⟨Nat.zero_le _, h, fun h => absurd h (by simp), fun j => by simp; exact wf_zero kd⟩
/-- Bytes as a string, in whatever later world. -/
theorem Ri.text {w : World} {a : Option Addr} {cap : Nat} {zs : List Int} (h : Ri w .u8 a cap zs) (W : World) (hb : Below w.heap.size w W) :
    (convert 22 9 (.slice a zs.length cap)).run Tryd.prog W = .ok (.string (strOfNums zs)) W := by
  have h' := h.later hb
  by_cases h0 : 0 < zs.length
  · obtain ⟨b, off, rfl, _, hc⟩ := h'.cells h0
    exact run_convert_bytes_arg (P := Tryd.prog) W 22 5 Tryd.underlying22 Tryd.underlying5 b off zs.length cap zs rfl hc 9 Tryd.underlying9
  · have hz : zs = [] := List.length_eq_zero_iff.1 (by omega)
    subst hz
    rw [run_convert_bytes_string W 22 9 5 a _ cap Tryd.underlying22 Tryd.underlying5 Tryd.underlying9]
    cases a with
    | none => rfl
    | some ad =>
      rw [show ([] : List Int).length = 0 from rfl]
      rw [run_bytesToString W ad 0 cap [] (by simpa using run_loadCells_list (P := Tryd.prog) W ad [] (by intro j v hj; simp at hj))]
      rfl
theorem u8_back {xs : List Int} (h : ∀ x ∈ xs, 0 ≤ x ∧ x ≤ 255) : (xs.map fun n => UInt8.ofNat n.toNat).map (fun u => (u.toNat : Int)) = xs := by
  rw [List.map_map]
  conv => rhs; rw [← List.map_id xs]
  refine List.map_congr_left (fun z hz => ?_)
  have := h z hz
  simp
  omega
theorem all_u8 {xs : List Int} (h : ∀ j, (Lit.int .u8 (xs.getD j 0)).wf = true) : ∀ x ∈ xs, 0 ≤ x ∧ x ≤ 255 := by
  intro x hx
  obtain ⟨j, hj, rfl⟩ := List.getElem_of_mem hx
  have := wf_u8 (h j)
  simpa [List.getD, List.getElem?_eq_getElem hj] using this
theorem str_eq {xs ys : List Int} (h1 : ∀ j, (Lit.int .u8 (xs.getD j 0)).wf = true) (h2 : ∀ j, (Lit.int .u8 (ys.getD j 0)).wf = true) : ((strOfNums xs).toList == (strOfNums ys).toList) = (xs == ys) := by
  rw [ByteArray.toList_eq, ByteArray.toList_eq, strOfNums_data, strOfNums_data]
  by_cases e : xs = ys
  · subst e; simp
  · have : ¬ (xs.map fun n => UInt8.ofNat n.toNat) = (ys.map fun n => UInt8.ofNat n.toNat) := fun q => e (by
      rw [← u8_back (all_u8 h1), ← u8_back (all_u8 h2), q])
    rw [beq_eq_false_iff_ne.2 this, beq_eq_false_iff_ne.2 e]
theorem setCell_same {w : World} {g i : Nat} {cur : Array Value} {t : TypeId} {fr : Nat × Nat} {v : Value} (hg : w.heap[g]? = some (.cells cur t fr)) (hv : cur[i]? = some v) : w.setCell ⟨g, i, none⟩ v = w := by
  rw [setCell_eq_setRow w g i cur t fr v hg]
  have e : cur.setIfInBounds i v = cur := by
    apply Array.ext_getElem?
    intro j
    rw [Array.getElem?_setIfInBounds]
    split
    · rename_i h
      subst h
      split
      · exact hv.symm
      · rename_i h2
        simp [h2] at hv
    · rfl
  rw [e]
  exact setRow_self w g cur t fr hg
def nats (zs : List Int) : List Nat := zs.map Int.toNat
theorem nats_len (zs : List Int) : (nats zs).length = zs.length := List.length_map _
theorem nats_get (zs : List Int) (j : Nat) : (nats zs).getD j 0 = (zs.getD j 0).toNat := by
  simp only [nats, List.getD, List.getElem?_map]
  cases zs[j]? <;> rfl
def u8A (l : List Int) : Array Value := (l.map (Value.int .u8)).toArray
theorem u8A_size (l : List Int) : (u8A l).size = l.length := by simp [u8A]
theorem u8A_one (l : List Int) : (u8A l).all (·.oneCell') = true := by
  rw [u8A, List.all_toArray, List.all_eq_true]
  intro v hv
  obtain ⟨z, _, rfl⟩ := List.mem_map.1 hv
  rfl
theorem eq_itemsI {P : Program} (d : Nat) {e : TypeId} (he : P.underlying e = some (.int .u8)) (l m : List Int) (w : World) :
    ∀ is : List Nat, (∀ i ∈ is, i < l.length ∧ i < m.length) → (Op.eqItems (d + 1) e 1 (u8A l) (u8A m) is).run P w = .ok (is.all fun i => l.getD i 0 == m.getD i 0) w
  | [], _ => rfl
  | i :: is, h => by
    have hi := h i (by simp)
    have ih := eq_itemsI d he l m w is (fun j hj => h j (by simp [hj]))
    have ha : (isAgg e).run P w = .ok false w := by
      unfold isAgg
      rw [Sem.run_bind, run_underlying he w]
      rfl
    have hp : ∀ q : List Int, i < q.length → (part e (u8A q) (i * 1)).run P w = .ok (.int .u8 (q.getD i 0)) w := by
      intro q hq
      unfold part
      simp [Sem.run_bind, ha, u8A, List.getD, List.getElem?_eq_getElem hq]
    simp only [Op.eqItems, Sem.run_bind, hp l hi.1, hp m hi.2, Result.andThen_ok, run_equalIn_int w d e .u8 .u8 _ _ he, List.all_cons]
    generalize l.getD i 0 = x at *
    generalize m.getD i 0 = y at *
    by_cases hq : x = y
    · subst hq
      simpa using ih
    · simp [hq]
set_option maxHeartbeats 3200000 in
set_option maxRecDepth 100000 in
theorem eq37 (l m : List Int) (hl : l.length = 32) (hm : m.length = 32) (w : World) : (Op.equalIn 10000 39 (.agg (u8A l)) (.agg (u8A m))).run Tryd.prog w = .ok (decide (l = m)) w := by
  obtain ⟨i, hi⟩ : ∃ i, Tryd.prog.info? 5 = some i := info_of_underlying Tryd.underlying5
  rw [show (10000 : Nat) = 9999 + 1 from rfl, run_equalIn_array w 9999 _ _ Tryd.underlying39 hi, Tryd.cells5, eq_itemsI 9998 Tryd.underlying5 l m w _ (fun j hj => by rw [hl, hm]; have := List.mem_range.1 hj; exact ⟨this, this⟩)]
  refine congrArg (fun b => Result.ok b w) ?_
  by_cases h : l = m
  · subst h; simp
  · rw [decide_eq_false h, Bool.eq_false_iff]
    intro hc
    rw [List.all_eq_true] at hc
    exact h (il_ext (by omega) (fun j hj => by have := hc j (List.mem_range.2 (by omega)); simpa using this))
theorem guard37 : Tryd.prog.eqGuardType Tryd.prog.depth 39 = false := by kernel_rfl
theorem ret_int {k : IntKind} {a b : Int} (h : a = b) : Ending.returned (.int k a) = .returned (.int k b) := by rw [h]
theorem wpList_alloc_row {P : Program} {ops : Array Oper} {rest : List Oper} {o : Oper} {a : Act} {w : World} {Q : Exit → Act → World → Prop} (hgd : o.guard = none) (ty : TypeId) (ho : o.op = .alloc ty) (d : Option Tmp) (hd : o.dst = d) (cs : Array Value)
    (hz : ∀ w, (zeroValue ty).run P w = .ok (.agg cs) w) (h : wpList P ops Q rest (a.put d (.pointer (some ⟨w.heap.size, 0, none⟩))) (w.alloc (.cells cs ty))) : wpList P ops Q (o :: rest) a w := by
  subst hd
  refine wpList_plain hgd fun _ hK => ?_
  unfold Oper.wp execOp
  simp only [ho, Instr.alloc, Sem.run_bind, hz, Result.andThen_ok, newVar]
  exact hK _ _ h
theorem wpList_alloc_at {P : Program} {ops : Array Oper} {rest : List Oper} {o : Oper} {a : Act} {w : World} {Q : Exit → Act → World → Prop} (hgd : o.guard = none) (ty : TypeId) (ho : o.op = .alloc ty) (d : Option Tmp) (hd : o.dst = d) (cs : Array Value)
    (hz : ∀ w, (zeroValue ty).run P w = .ok (.agg cs) w) (N : Nat) (hN : N = w.heap.size) (h : wpList P ops Q rest (a.put d (.pointer (some ⟨N, 0, none⟩))) (w.alloc (.cells cs ty))) : wpList P ops Q (o :: rest) a w := by
  subst hN; exact wpList_alloc_row hgd ty ho d hd cs hz h
theorem results_row_tmp {P : Program} {fn : Func} {p u : Tmp} {ty : TypeId} (h : fn.results = #[.cell p ty, .tmp u]) (tmps : Array Value) (w : World) (g : Nat) (v : Value) (hp : tmps.getD p undef = .pointer (some ⟨g, 0, none⟩)) (hl : (loadVar ty ⟨g, 0, none⟩).run P w = .ok v w) :
    (results fn tmps).run P w = .ok (.tuple #[v, tmps.getD u undef]) w := by
  rw [results_cell_tmp h, hp]
  simp [asAddr, hl]
/-- A whole struct or array into the variable that was made last. -/
theorem wpList_store_new {P : Program} {ops : Array Oper} {rest : List Oper} {o : Oper} {a : Act} {w : World} {Q : Exit → Act → World → Prop} (hgd : o.guard = none) (ty : TypeId) (x y : Operand) (ho : o.op = .store ty x y) (hd : o.dst = none)
    (W : World) (old cells : Array Value) (hw : w = W.alloc (.cells old ty)) (hx : a.eval x = .pointer (some ⟨W.heap.size, 0, none⟩)) (hy : a.eval y = .agg cells) (hi : (P.info? ty).map (·.size) = some cells.size)
    (hold : old.size = cells.size) (h1 : cells.all (·.oneCell') = true) (h : wpList P ops Q rest a (W.alloc (.cells cells ty))) : wpList P ops Q (o :: rest) a w := by
  subst hw
  refine wpList_store_rowTo hgd ty x y ho hd W.heap.size cells hx hy ty old (heap_alloc_last W _) hi hold h1 ?_
  rw [World.setRow_alloc_new]
  exact h
def z32 : List Int := List.replicate 32 0
theorem results_cell_tmp3 {P : Program} {fn : Func} {p u v : Tmp} {ty : TypeId} (h : fn.results = #[.cell p ty, .tmp u, .tmp v]) (tmps : Array Value) (w : World) :
    (results fn tmps).run P w = ((asAddr (tmps.getD p undef)).run P w).andThen fun a w₁ => ((loadVar ty a).run P w₁).andThen fun x w₂ => .ok (.tuple #[x, tmps.getD u undef, tmps.getD v undef]) w₂ := by
  simp only [results, h]
  simp [Sem.run_bind, Result.andThen]
end Go.Proofs.YtgnjicpmfpgdeaaDoor
