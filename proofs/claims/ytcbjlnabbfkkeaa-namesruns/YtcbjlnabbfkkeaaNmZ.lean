/-
  What Stat answers as a function of the files; a row of records appended to another.
-/
import Derived.Test.YtcbjlnabbfkkeaaNmS
import Derived.Laws.OwnMore
import Derived.SizedLaws
import Derived.Test.YtcbjlnabbfkkeaaRcQ
import Derived.Test.YtcbjlnabbfkkeaaNmY
namespace Go.Proofs.Ytcbjlnabbfkkeaa
open Go.ChangeShapes Go.WideShapes Go.ChangeAt Go.RowKit Go.Deep Go.Lib

/-- What Stat tells of the path s, as values. -/
def StR (M : List Fl) (s : ByteArray) (i : Fi) (x : Int) : Prop :=
  (fnd M s = none ∧ i = fiZ ∧ x = 150) ∨ ∃ f, fnd M s = some f ∧ x = 0 ∧ i.path = f.path ∧ i.size = f.size ∧ i.seq = f.seq ∧ i.ps = f.ps
theorem StR.x {M : List Fl} {s : ByteArray} {i : Fi} {x : Int} (h : StR M s i x) : x = 0 ∨ x = 150 := by
  rcases h with ⟨_, _, h⟩ | ⟨_, _, h, _⟩
  · exact .inr h
  · exact .inl h
theorem Rp.zero (w : World) : Rp w none 0 [] := ⟨Nat.le_refl _, by unfold maxLen; exact Nat.zero_le _, fun _ => rfl, fun h => absurd h (by simp), fun x hx => by cases hx⟩
theorem stat_st (W : World) (n g : Nat) (M : List Fl) (B : Nat) (h : Nm B W n g M) (s : ByteArray) (hs : s.size ≤ maxLen) :
    Calls Try.prog 22 #[.pointer (some ⟨n, 0, none⟩), .string s] W fun e w' => ∃ (i : Fi) (x : Int), e = .returned (.tuple #[.agg i.cs.toArray, .int .i64 x]) ∧ StR M s i x ∧ Rp w' i.a i.cap i.ps ∧ (∀ b off, i.a = some ⟨b, off, none⟩ → W.heap.size ≤ b) ∧ Below W.heap.size W w' := by
  refine (stat_word W n g M B h s hs).mono ?_
  rintro e w' ⟨hb, ⟨hn, rfl⟩ | ⟨f, i, hf, rfl, hF⟩⟩
  · exact ⟨fiZ, 150, rfl, .inl ⟨hn, rfl, rfl⟩, Rp.zero _, (fun b off e => by cases e), hb⟩
  · exact ⟨i, 0, rfl, .inr ⟨f, hf, rfl, hF.path, hF.size, hF.seq, hF.ps⟩, hF.row, hF.far, hb⟩
theorem st_cpy {M M' : List Fl} {s : ByteArray} {i j : Fi} {x y : Int} (h : StR M s i x) (h' : StR M' s j y) (hc : Cpy M M') : Sm i j ∧ x = y := by
  have hc := hc s
  rcases h with ⟨h1, rfl, rfl⟩ | ⟨f, h1, rfl, h2, h3, h4, h5⟩
  · have h6 := hc.1 h1
    rcases h' with ⟨_, rfl, rfl⟩ | ⟨f', h7, _⟩
    · exact ⟨⟨rfl, rfl, rfl, rfl⟩, rfl⟩
    · rw [h6] at h7; cases h7
  · obtain ⟨f', h6, h7⟩ := hc.2 f h1
    obtain ⟨k1, k2, k3, k4⟩ := h7
    rcases h' with ⟨h8, _⟩ | ⟨f2, h8, rfl, g1, g2, g3, g4⟩
    · rw [h6] at h8; cases h8
    · rw [h6] at h8
      injection h8 with h8
      subst h8
      exact ⟨⟨by rw [h2, g1, k1], by rw [h3, g2, k2], by rw [h4, g3, k3], by rw [h5, g4, k4]⟩, rfl⟩
theorem st_same {M M' : List Fl} {s : ByteArray} {i j : Fi} {x y : Int} (h : StR M s i x) (h' : StR M' s j y) (he : fnd M' s = fnd M s) : Sm i j ∧ x = y := by
  rcases h with ⟨h1, rfl, rfl⟩ | ⟨f, h1, rfl, h2, h3, h4, h5⟩
  · rcases h' with ⟨_, rfl, rfl⟩ | ⟨f', h7, _⟩
    · exact ⟨⟨rfl, rfl, rfl, rfl⟩, rfl⟩
    · rw [he, h1] at h7; cases h7
  · rcases h' with ⟨h8, _⟩ | ⟨f2, h8, rfl, g1, g2, g3, g4⟩
    · rw [he, h1] at h8; cases h8
    · rw [he, h1] at h8
      injection h8 with h8
      subst h8
      exact ⟨⟨by rw [h2, g1], by rw [h3, g2], by rw [h4, g3], by rw [h5, g4]⟩, rfl⟩
theorem st_none {M : List Fl} {s : ByteArray} {i : Fi} {x : Int} (h : StR M s i x) (hn : fnd M s = none) : x = 150 := by
  rcases h with ⟨_, _, h⟩ | ⟨f, h, _⟩
  · exact h
  · rw [hn] at h; cases h
theorem st_some {M : List Fl} {s : ByteArray} {i : Fi} {x : Int} {f : Fl} (h : StR M s i x) (hn : fnd M s = some f) : x = 0 ∧ i.path = f.path ∧ i.seq = f.seq ∧ i.ps = f.ps := by
  rcases h with ⟨h, _, _⟩ | ⟨f2, h, h1, h2, _, h3, h4⟩
  · rw [hn] at h; cases h
  · rw [hn] at h
    injection h with h
    subst h
    exact ⟨h1, h2, h3, h4⟩
theorem may_kind {M : List Fl} {r : Rec} (h : mayE M r = 0) : r.kind = 1 ∨ r.kind = 2 ∨ r.kind = 3 := by
  have hb := (may_zero h).1
  unfold mayB at hb
  rw [Bool.and_eq_true] at hb
  have hk := hb.2
  unfold kindB at hk
  by_cases h1 : r.kind = 1
  · exact .inl h1
  · rw [if_neg h1] at hk
    by_cases h3 : r.kind = 3
    · exact .inr (.inr h3)
    · rw [if_neg h3] at hk
      by_cases h2 : r.kind = 2
      · exact .inr (.inl h2)
      · rw [if_neg h2] at hk; cases hk
theorem app_other {r : Rec} {M M' : List Fl} {s : ByteArray} (h : AppR r M M') (ho : mayE M r ≠ 0 ∨ r.kind = 1 ∨ r.path ≠ s) : fnd M' s = fnd M s := by
  unfold AppR at h
  by_cases h0 : mayE M r = 0
  · rw [if_pos h0] at h
    have ho : r.kind = 1 ∨ r.path ≠ s := by
      rcases ho with h | h
      · exact absurd h0 h
      · exact h
    by_cases h2 : r.kind = 2
    · rw [if_pos h2] at h
      obtain ⟨f, rfl, hp, _⟩ := h
      rw [fnd_put]
      have hne : r.path ≠ s := by
        rcases ho with h | h
        · omega
        · exact h
      rw [if_neg (fun e => hne (by rw [e, hp]))]
    · rw [if_neg h2] at h
      by_cases h3 : r.kind = 3
      · rw [if_pos h3] at h
        subst h
        rw [fnd_del]
        have hne : r.path ≠ s := by
          rcases ho with h | h
          · omega
          · exact h
        rw [if_neg (fun e => hne e.symm)]
      · rw [if_neg h3] at h
        rw [h]
  · rw [if_neg h0] at h
    rw [h]
theorem app_del {r : Rec} {M M' : List Fl} (h : AppR r M M') (h0 : mayE M r = 0) (h3 : r.kind = 3) : fnd M' r.path = none := by
  unfold AppR at h
  rw [if_pos h0, if_neg (by omega), if_pos h3] at h
  rw [h, fnd_del, if_pos rfl]
theorem app_put {r : Rec} {M M' : List Fl} (h : AppR r M M') (h0 : mayE M r = 0) (h2 : r.kind = 2) : ∃ f, fnd M' r.path = some f ∧ f.path = r.path ∧ f.seq = r.seq ∧ f.ps = r.ps := by
  unfold AppR at h
  rw [if_pos h0, if_pos h2] at h
  obtain ⟨f, rfl, h1, h3, h4, _⟩ := h
  exact ⟨f, by rw [fnd_put, if_pos h1.symm], h1, h3, h4⟩
theorem Nm.map {B : Nat} {W : World} {n g : Nat} {M : List Fl} (h : Nm B W n g M) : ∃ es c, W.heap[g]? = some (.map es c) := by
  obtain ⟨D, h⟩ := h
  obtain ⟨es, clock, hh, _⟩ := h.own
  exact ⟨es, clock, hh⟩
theorem Nm.keeps {B : Nat} {W W' : World} {n g b : Nat} {M : List Fl} {cs : Array Value} {t : TypeId} (h : Nm B W n g M) (hg : W.grownBy W' (some g)) (hb : W.heap[b]? = some (.cells cs t)) : W'.heap[b]? = some (.cells cs t) := by
  obtain ⟨es, c, hm⟩ := h.map
  refine (hg.block b (Array.getElem?_eq_some_iff.1 hb).1 (fun e => ?_)).trans hb
  injection e with e
  subst e
  rw [hm] at hb
  cases hb
theorem Nm.rp {B : Nat} {W W' : World} {n g : Nat} {M : List Fl} {a : Option Addr} {cap : Nat} {l : List Pc} (h : Nm B W n g M) (hg : W.grownBy W' (some g)) (hr : Rp W a cap l) : Rp W' a cap l := by
  obtain ⟨es, c, hm⟩ := h.map
  exact hr.nomap hm hg
theorem fs_one {W : World} {b : Nat} {i : Fi} (h : W.heap[b]? = some (.cells i.cs.toArray 51)) (hr : Rp W i.a i.cap i.ps) : Fs W (some ⟨b, 0, none⟩) 1 [i] := by
  refine ⟨⟨Nat.le_refl _, by unfold maxLen; omega, (fun h => by cases h), fun _ => ⟨b, 0, rfl, (Array.getElem?_eq_some_iff.1 h).1, fun j hj k u hu => ?_⟩⟩, fun f hf => by rw [List.mem_singleton.1 hf]; exact hr⟩
  have hj0 : j = 0 := by simp at hj; omega
  subst hj0
  have hu' : i.cs[k]? = some u := hu
  rw [show 0 + 0 * 4 + k = k from by omega]
  exact (Joins.cell_of_block h k).trans (by rw [List.getElem?_toArray]; exact hu')
theorem same_two (V : World) (A B : Fi) (hA : Rp V A.a A.cap A.ps) (hB : Rp V B.a B.cap B.ps) (hs : Sm A B) :
    Calls Try.prog 19 #[.slice (some ⟨V.heap.size, 0, none⟩) 1 1, .slice (some ⟨V.heap.size + 1, 0, none⟩) 1 1] ((V.alloc (.cells A.cs.toArray 51)).alloc (.cells B.cs.toArray 51)) fun e w' => e = .returned (.bool true) ∧ Below V.heap.size V w' := by
  have h1 := bel_alc V (.cells A.cs.toArray 51)
  have h2 := Bn h1 (bel_alc (V.alloc (.cells A.cs.toArray 51)) (.cells B.cs.toArray 51))
  have hsz : (V.alloc (.cells A.cs.toArray 51)).heap.size = V.heap.size + 1 := by simp
  have g1 := heap_old (V.alloc (.cells A.cs.toArray 51)) (.cells B.cs.toArray 51) (heap_alc V (.cells A.cs.toArray 51))
  have g2 := heap_alc (V.alloc (.cells A.cs.toArray 51)) (.cells B.cs.toArray 51)
  rw [hsz] at g2
  refine (same_word [A] [B] _ _ 1 1 _ (fs_one g1 (hA.later h2)) (fs_one g2 (hB.later h2))).mono ?_
  rintro _ w' ⟨q, rfl, hq, hb⟩
  have hqt : q = true := hq.2 ⟨rfl, fun i hi => by
    have h0 : i = 0 := by simp at hi; omega
    subst h0
    exact hs⟩
  subst hqt
  exact ⟨rfl, Bn h2 hb⟩
theorem flatR_back {l : List Rec} (h : ∀ r ∈ l, r.prev.length = 32) {j : Nat} {u : Value} (hj : (l.flatMap Rec.cs)[j]? = some u) : j / 38 < l.length ∧ (l.getD (j / 38) recZ).cs[j % 38]? = some u := by
  have hlt : j < (l.flatMap Rec.cs).length := (List.getElem?_eq_some_iff.1 hj).1
  rw [flatR_len l h] at hlt
  have hq : j / 38 < l.length := by omega
  refine ⟨hq, ?_⟩
  have hl : (l.getD (j / 38) recZ).cs.length = 38 := Rec.cs_len (h _ (by simp [List.getD, List.getElem?_eq_getElem hq]))
  have hi : j % 38 < (l.getD (j / 38) recZ).cs.length := by rw [hl]; omega
  have h1 := flatR_at l h (j / 38) hq (j % 38) _ (List.getElem?_eq_getElem hi)
  rw [show j / 38 * 38 + j % 38 = j from by omega, hj] at h1
  rw [h1, List.getElem?_eq_getElem hi]
set_option maxRecDepth 100000 in
theorem wp_append_rr {o : Oper} {a : Act} {w : World} {K : Act → World → Prop} {Q : Exit → Act → World → Prop} (s x : Operand)
    (ho : o.op = .call { callee := .builtin .append, args := #[s, x], argTypes := #[22, 22] }) (base : Nat) (v : Value) (n : Nat) (xs : List Value) (hs : a.eval s = v) (hown : w.ownsRow base 36 38 v n xs)
    (ad : Option Addr) (cap : Nat) (l : List Rec) (hx : a.eval x = .slice ad l.length cap) (hr : Rr w ad cap l) (hbytes : (n + l.length) * 104 ≤ 140737488355328) (hbase : base ≤ w.heap.size)
    (h : ∀ v' w', Hid (w'.ownsRow base 36 38 v' (n + l.length) (xs ++ l.flatMap Rec.cs)) → Hid (w.grownBy w' v.ownBlock) → K (a.put o.dst v') w') : o.wp Try.prog a w K Q := by
  obtain ⟨i0, hi, hz0, hz1, hz2⟩ := info_parts Try.info36
  have hlen : ∀ r ∈ l, r.prev.length = 32 := fun r hr' => (hr.fits r hr').len
  cases ad with
  | none =>
    have hc := hr.none0 rfl
    have hl0 : l.length = 0 := by have := hr.room; omega
    have hl : l = [] := List.eq_nil_of_length_eq_zero hl0
    subst hl
    subst hc
    have hrun := run_append_owned_none (P := Try.prog) (w := w) base 22 o.type 36 i0 38 Try.underlying22 hi v n xs hown
    unfold Oper.wp execOp
    simp only [ho, resolve, invoke, builtin, Sem.run_bind, Sem.run_pure, Result.andThen_ok, List.map_toArray, List.map_cons, List.map_nil, hs, hx, List.length_nil, hrun]
    refine h v w ?_ ⟨rfl, rfl, rfl, Nat.le_refl _, fun _ _ _ => rfl⟩
    show World.ownsRow _ _ _ _ _ _ _
    simpa using hown
  | some ad =>
    refine wp_append_own w s x 22 ho base 36 i0 _ 38 104 Try.underlying22 hi hz0 hz1 hz2 rfl (by decide) v n xs hs hown ad l.length cap (l.flatMap Rec.cs) hx (flatR_len l hlen) (fun j u hu => ?_) (fun u hu => ?_) (by unfold maxLen; omega) hbytes hbase (fun v' w' h2 h3 _ => h v' w' h2 h3)
    · obtain ⟨hq, hc⟩ := flatR_back hlen hu
      obtain ⟨b, off, e, _, hcell⟩ := hr.cells (by omega)
      injection e with e
      subst e
      have := hcell (j / 38) hq (j % 38) u hc
      rw [add_plain, show off + j = off + j / 38 * 38 + j % 38 from by omega]
      exact this
    · obtain ⟨r, _, hu⟩ := List.mem_flatMap.1 hu
      exact Rec.cs_one r u hu
theorem wp_buildEmpty {o : Oper} {a : Act} {w : World} {K : Act → World → Prop} {Q : Exit → Act → World → Prop} (ho : o.op = .buildSlice 22 0 #[]) (B N : Nat) (hB : B ≤ w.heap.size) (hN : N = w.heap.size)
    (h : ∀ W', Hid (W'.ownsRow B 36 38 (.slice (some ⟨N, 0, none⟩) 0 0) 0 []) → Hid (Below N w W') → K (a.put o.dst (.slice (some ⟨N, 0, none⟩) 0 0)) W') : o.wp Try.prog a w K Q := by
  subst hN
  obtain ⟨i0, hi, hz0, hz1, hz2⟩ := info_parts Try.info36
  have hr : (Instr.buildSlice 22 0 #[]).run Try.prog w = .ok (.slice (some ⟨w.heap.size, 0, none⟩) 0 0) (w.alloc (.cells #[] 36)) := by
    simp [Instr.buildSlice, run_underlying Try.underlying22, sizeOf, typeInfo, hi, newRow, Instr.fill]
    exact congrArg (fun x => w.alloc (.cells x 36)) (Array.eq_empty_of_size_eq_zero (by simp))
  unfold Oper.wp execOp
  simp only [ho, Sem.run_bind, List.map_toArray, List.map_nil, hr, Result.andThen_ok]
  refine h _ ?_ (bel_alc w _)
  show World.ownsRow _ _ _ _ _ _ _
  exact World.ownsRow_lit (e := 36) (size := 38) w #[] 0 hB (by unfold maxLen; omega) rfl
theorem wpList_load_P {P : Program} {ops : Array Oper} {rest : List Oper} {o : Oper} {a : Act} {w : World} {Q : Exit → Act → World → Prop} (hg : o.guard = none) (ty : TypeId) (x : Operand) (ho : o.op = .load ty x)
    (b off : Nat) (hx : a.eval x = .pointer (some ⟨b, off, none⟩)) (cs : List Value) (d : TypeDesc) (hc : w.rangeAt b off cs) (hu : P.underlying ty = some d) (hd : d.isRow = true) (hi : (P.info? ty).map (·.size) = some cs.length)
    (h : wpList P ops Q rest (a.put o.dst (.agg cs.toArray)) w) : wpList P ops Q (o :: rest) a w :=
  wpList_load_g (by unfold Region.wanted; rw [hg]) ty x ho b off hx cs d hc hu hd hi h
theorem Try.info51 : (Try.prog.info? 51).map (fun i => (i.zero, i.size, i.bytes)) = some (some (.agg fiZ.cs.toArray), 4, 56) := by kernel_rfl
theorem Try.bytes36 : Try.prog.bytesOf 36 = 104 := by kernel_rfl
theorem recs_reach {H : Type} {enc : TypeId × Value → H} {W : World} {d : DataW H} {p : List MemPlace} {a : Option Addr} {n cap : Nat} {ts : List TypeId} {ds : List (DataW H)} {j : Nat} (h : DataW.Trod enc Try.prog W 0 (fun _ => true) true 22 (.slice a n cap) d p)
    (hs : (DataW.weightsEach Try.prog ts ds).all (· ≤ reachBytes) = true) (ht : ts[j]? = some 22) (hd : ds[j]? = some d) : n * 104 ≤ 140737488351232 := by
  obtain ⟨fuel, hf⟩ := h
  rcases open_slice Try.underlying22 hf with ⟨hcs, _⟩ | ⟨a, len, cap, m, k, D, Pl, hcs, _, hl, hm, hmm, hx, hel⟩
  · simp [Value.cells] at hcs
    obtain ⟨_, rfl, _⟩ := hcs
    omega
  · simp [Value.cells] at hcs
    obtain ⟨_, rfl, _⟩ := hcs
    have he := congrArg Prod.fst hx
    simp only at he
    subst he
    have := sized_slice hs ht hd Try.underlying22
    rw [Try.bytes36] at this
    simp only [List.length_map, List.length_range, reachBytes] at this
    omega
end Go.Proofs.Ytcbjlnabbfkkeaa
