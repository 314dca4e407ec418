/-
  Where a Write stands between two parts.
-/
import Derived.Test.YtcapkkldjgmhfaaPart04
namespace Go.Proofs.Ytcapkkldjgmhfaa
open Go.RowKit Go.Shelf

/-- A row of chunks of one's own. -/
def Chs (W : World) (base : Nat) (v : Value) (L : List (List Int)) : Prop :=
  ∃ xs : List Value, W.ownsRow base 25 1 v L.length xs ∧ ∀ i, i < L.length → W.ownsRow base 5 1 (xs.getD i (.slice none 0 0)) (L.getD i []).length ((L.getD i []).map (Value.int .u8))
/-- Rows of one's own are kept where the blocks of their types are. -/
theorem own_typ {W W' : World} {base e s : Nat} {v : Value} {k : Nat} {xs : List Value} (h : W.ownsRow base e s v k xs) (hk : ∀ (i : Nat) (cs : Array Value), W.heap[i]? = some (.cells cs e (0, 0)) → W'.heap[i]? = some (.cells cs e (0, 0))) : W'.ownsRow base e s v k xs := by
  rcases h with ⟨h1, h2 | ⟨gg, cp, cur, h3, h4, h5, h6⟩⟩
  · exact ⟨h1, .inl h2⟩
  · exact ⟨h1, .inr ⟨gg, cp, cur, h3, h4, hk gg cur h5, h6⟩⟩
theorem Chs.typ {W W' : World} {base : Nat} {v : Value} {L : List (List Int)} (h : Chs W base v L) (hk : ∀ (i : Nat) (cs : Array Value) (t : TypeId), t = 25 ∨ t = 5 → W.heap[i]? = some (.cells cs t (0, 0)) → W'.heap[i]? = some (.cells cs t (0, 0))) : Chs W' base v L := by
  obtain ⟨xs, h1, h2⟩ := h
  exact ⟨xs, own_typ h1 (fun i cs => hk i cs 25 (.inl rfl)), fun i hi => own_typ (h2 i hi) (fun i cs => hk i cs 5 (.inr rfl))⟩
/-- Where Write stands: the cutter, the chunks that ended, what lay there. w: the world at the call. -/
structure Wi (w : World) (g Bk Bl : Nat) (l m b : Int) (W : World) (R : List Int) (s h : Int) (L : List (List Int)) : Prop where
  cu : Cu W g l m b s h R
  var : ∃ v, Boxed W Bl 39 v ∧ Chs W w.heap.size v L
  ptr : Boxed W Bk 41 (.pointer (some ⟨g, 0, none⟩))
  old : ∀ i, i < w.heap.size → i ≠ g → W.heap[i]? = w.heap[i]?
  bel : Below 0 w W
theorem Wi.keep {w : World} {g Bk Bl : Nat} {l m b : Int} {W W' : World} {R : List Int} {s h : Int} {L : List (List Int)} (k : Wi w g Bk Bl l m b W R s h L) (hb : Below 0 W W')
    (ht : ∀ (i : Nat) (cs : Array Value) (t : TypeId), t ≠ 61 → W.heap[i]? = some (.cells cs t (0, 0)) → W'.heap[i]? = some (.cells cs t (0, 0))) (ho : ∀ i, i < w.heap.size → i ≠ g → W'.heap[i]? = W.heap[i]?) : Wi w g Bk Bl l m b W' R s h L := by
  obtain ⟨v, h1, h2⟩ := k.var
  exact ⟨⟨ht g _ 71 (by decide) k.cu.blk, k.cu.len, k.cu.fits⟩, ⟨v, ht Bl _ 39 (by decide) h1, h2.typ (fun i cs t e => ht i cs t (by rcases e with rfl | rfl <;> decide))⟩, ht Bk _ 41 (by decide) k.ptr, fun i hi hn => (ho i hi hn).trans (k.old i hi hn), k.bel.trans hb⟩
theorem Wi.below {w : World} {g Bk Bl : Nat} {l m b : Int} {W W' : World} {R : List Int} {s h : Int} {L : List (List Int)} (k : Wi w g Bk Bl l m b W R s h L) (hb : Below W.heap.size W W') : Wi w g Bk Bl l m b W' R s h L :=
  k.keep (hb.mono (Nat.zero_le _)) (fun i _ _ _ hi => (hb.block i (Array.getElem?_eq_some_iff.1 hi).1).trans hi) (fun i hi _ => hb.block i (Nat.lt_of_lt_of_le hi k.bel.size))
theorem Wi.tq {w : World} {g Bk Bl : Nat} {l m b : Int} {W W' : World} {R : List Int} {s h : Int} {L : List (List Int)} (k : Wi w g Bk Bl l m b W R s h L) {n : Nat} (hn : w.heap.size ≤ n) (hb : Tq n W W') : Wi w g Bk Bl l m b W' R s h L :=
  k.keep hb.bel (fun i cs t ht hi => (hb.same i (Array.getElem?_eq_some_iff.1 hi).1 (.inr (fun cs' fr e => by rw [hi] at e; cases e; exact ht rfl))).trans hi) (fun i hi _ => hb.same i (Nat.lt_of_lt_of_le hi k.bel.size) (.inl (Nat.lt_of_lt_of_le hi hn)))
theorem Wi.put {w : World} {g Bk Bl : Nat} {l m b : Int} {W : World} {R : List Int} {s h : Int} {L : List (List Int)} (k : Wi w g Bk Bl l m b W R s h L) {j : Nat} {o o' : Obj} (hj : W.heap[j]? = some o) (hc : o.isCells = false) (hn : w.heap.size ≤ j) : Wi w g Bk Bl l m b (W.putObj j o') R s h L :=
  k.keep ⟨rfl, rfl, rfl, by simp, fun _ h => absurd h (Nat.not_lt_zero _)⟩ (fun i cs t _ hi => (World.putObj_heap_other (by rintro rfl; rw [hi] at hj; cases hj; cases hc)).trans hi) (fun i hi _ => World.putObj_heap_other (by omega))
/-- The cutter's block alone is turned. -/
theorem Wi.but {w : World} {g Bk Bl : Nat} {l m b : Int} {W W' : World} {R R' : List Int} {s h s' h' : Int} {L : List (List Int)} (k : Wi w g Bk Bl l m b W R s h L) (hb : But1 g W W') (hc : Cu W' g l m b s' h' R') : Wi w g Bk Bl l m b W' R' s' h' L := by
  obtain ⟨v, h1, h2⟩ := k.var
  have ht : ∀ (i : Nat) (cs : Array Value) (t : TypeId), t ≠ 71 → W.heap[i]? = some (.cells cs t (0, 0)) → W'.heap[i]? = some (.cells cs t (0, 0)) := fun i cs t ht hi =>
    (hb.same i (Array.getElem?_eq_some_iff.1 hi).1 (by rintro rfl; have := k.cu.blk; rw [hi] at this; cases this; exact ht rfl)).trans hi
  exact ⟨hc, ⟨v, ht Bl _ 39 (by decide) h1, h2.typ (fun i cs t e => ht i cs t (by rcases e with rfl | rfl <;> decide))⟩, ht Bk _ 41 (by decide) k.ptr, fun i hi hn => (hb.same i (Nat.lt_of_lt_of_le hi k.bel.size) hn).trans (k.old i hi hn), k.bel.trans hb.bel⟩
/-- What a round keeps: all but the cutter, the variable of the chunks, and their row. -/
structure Kr (n₀ g : Nat) (A B : World) : Prop where
  bel : Below 0 A B
  low : ∀ i, i < n₀ → i ≠ g → B.heap[i]? = A.heap[i]?
  typ : ∀ (i : Nat) (cs : Array Value) (t : TypeId) (fr : Nat × Nat), t = 61 ∨ t = 23 → A.heap[i]? = some (.cells cs t fr) → B.heap[i]? = some (.cells cs t fr)
  oth : ∀ (i : Nat) (o : Obj), A.heap[i]? = some o → o.isCells = false → B.heap[i]? = some o
theorem Kr.trans {n₀ g : Nat} {A B C : World} (h : Kr n₀ g A B) (k : Kr n₀ g B C) : Kr n₀ g A C :=
  ⟨h.bel.trans k.bel, fun i hi hn => (k.low i hi hn).trans (h.low i hi hn), fun i cs t fr ht hi => k.typ i cs t fr ht (h.typ i cs t fr ht hi), fun i o hi ho => k.oth i o (h.oth i o hi ho) ho⟩
theorem Kr.below {n₀ g : Nat} {A B : World} (hn : n₀ ≤ A.heap.size) (h : Below A.heap.size A B) : Kr n₀ g A B :=
  ⟨h.mono (Nat.zero_le _), fun i hi _ => h.block i (by omega), fun i _ _ _ _ hi => (h.block i (Array.getElem?_eq_some_iff.1 hi).1).trans hi, fun i _ hi _ => (h.block i (Array.getElem?_eq_some_iff.1 hi).1).trans hi⟩
theorem Kr.but {n₀ g : Nat} {A B : World} {l m b s h : Int} {R : List Int} (hn : n₀ ≤ A.heap.size) (hc : Cu A g l m b s h R) (hb : But1 g A B) : Kr n₀ g A B := by
  refine ⟨hb.bel, fun i hi hne => hb.same i (by omega) hne, fun i cs t fr ht hi => (hb.same i (Array.getElem?_eq_some_iff.1 hi).1 ?_).trans hi, fun i o hi ho => (hb.same i (Array.getElem?_eq_some_iff.1 hi).1 ?_).trans hi⟩
  · rintro rfl
    have := hc.blk
    rw [hi] at this
    cases this
    simp at ht
  · rintro rfl
    have := hc.blk
    rw [hi] at this
    cases this
    cases ho
theorem Kr.kw {n₀ g N gb : Nat} {A B : World} (h : Kr n₀ g A B) (hg : 0 < N → gb < n₀ ∧ gb ≠ g) : Kw N gb A B := ⟨h.bel.size, fun h0 => h.low gb (hg h0).1 (hg h0).2, h.typ⟩
theorem Ri.same {w W : World} {a : Option Addr} {cap : Nat} {zs : List Int} (hr : Ri w .u8 a cap zs) (hz : w.heap.size ≤ W.heap.size) (hg : ∀ b off, 0 < zs.length → a = some ⟨b, off, none⟩ → W.heap[b]? = w.heap[b]?) : Ri W .u8 a cap zs := by
  refine ⟨hr.room, hr.most, fun h0 => ?_, hr.fits⟩
  obtain ⟨b, off, ha, hbw, hc⟩ := hr.cells h0
  refine ⟨b, off, ha, Nat.lt_of_lt_of_le hbw hz, fun j hj => ?_⟩
  have e := hc j hj
  rw [← e]
  unfold World.cell?
  rw [hg b off h0 ha]
theorem Ri.part {W : World} {a : Option Addr} {cap : Nat} {bs : List Int} (hr : Ri W .u8 a cap bs) (gb off st n : Nat) (ha : a = some ⟨gb, off, none⟩) (h1 : 1 ≤ n) (h2 : st + n ≤ bs.length) : Ri W .u8 (some ⟨gb, off + st, none⟩) n ((bs.drop st).take n) := by
  have h := (hr.dropR st gb off (by omega) ha).take n
  have hl : ((bs.drop st).take n).length = n := by rw [List.length_take, List.length_drop]; omega
  have hr1 := hr.room
  have hr2 := hr.most
  exact ⟨by omega, by omega, h.cells, h.fits⟩
theorem But1.typ {g : Nat} {l m b s h : Int} {R : List Int} {W W' : World} (hc : Cu W g l m b s h R) (hb : But1 g W W') (i : Nat) (cs : Array Value) (t : TypeId) (ht : t ≠ 71) (hi : W.heap[i]? = some (.cells cs t (0, 0))) : W'.heap[i]? = some (.cells cs t (0, 0)) :=
  (hb.same i (Array.getElem?_eq_some_iff.1 hi).1 (by rintro rfl; have := hc.blk; rw [hi] at this; cases this; exact ht rfl)).trans hi
theorem fold_len (l m b : Int) (bs : List Int) : ∀ (pre : List Pt) (S : Ws), (pre.foldl (wrS l m b bs) S).2.2.2.length ≤ S.2.2.2.length + pre.length
  | [], _ => Nat.le_refl _
  | x :: pre, S => by
    have ih := fold_len l m b bs pre (wrS l m b bs S x)
    have h1 : (wrS l m b bs S x).2.2.2.length ≤ S.2.2.2.length + 1 := by
      unfold wrS
      split
      · simp
      · exact Nat.le_succ _
    rw [List.foldl_cons, List.length_cons]
    omega
theorem partsH_len (l m b : Int) (f : Nat) (s h : Int) (st : Nat) (bs : List Int) : (partsH l m b f s h st bs).length ≤ bs.length := by
  cases f with
  | zero => simp [partsH]
  | succ f => cases bs with
    | nil => simp [partsH]
    | cons x r =>
      have h1 := with_cnt l m b (x :: r) s h
      have h3 := h1.2.2 (by simp)
      have ih := parts_len l m b f (st + ((withL l m b s h (x :: r)).1 - s).toNat) ((x :: r).drop ((withL l m b s h (x :: r)).1 - s).toNat)
      rw [partsH, List.length_cons]
      rw [List.length_drop] at ih
      rw [List.length_cons] at ih h1 ⊢
      omega
theorem fold_no {l m b : Int} {bs R R1 R2 : List Int} {s0 h0 h1 r1 r2 : Int} {sn st n : Nat} {L1 : List (List Int)} {pre : List Pt} (e : (R1, (sn : Int), h1, L1) = pre.foldl (wrS l m b bs) (R, s0, h0, [])) (hR : R2 = putL R1 sn ((bs.drop st).take n)) (he : endB l m b r1 r2 = false) : (pre ++ [(st, n, r1, r2)]).foldl (wrS l m b bs) (R, s0, h0, []) = (R2, r1, r2, L1) := by
  rw [List.foldl_append, ← e, List.foldl_cons, List.foldl_nil, wrS, if_neg (by simp [he]), wrR, hR]
  rfl
theorem fold_yes {l m b : Int} {bs R R1 R2 : List Int} {s0 h0 h1 r2 : Int} {sn st n rn : Nat} {L1 : List (List Int)} {pre : List Pt} (e : (R1, (sn : Int), h1, L1) = pre.foldl (wrS l m b bs) (R, s0, h0, [])) (hR : R2 = putL R1 sn ((bs.drop st).take n)) (he : endB l m b rn r2 = true) : (pre ++ [(st, n, (rn : Int), r2)]).foldl (wrS l m b bs) (R, s0, h0, []) = (R2, 0, 0, L1 ++ [R2.take rn]) := by
  rw [List.foldl_append, ← e, List.foldl_cons, List.foldl_nil, wrS, if_pos he, wrR, hR]
  rfl
theorem Try.info25c : (Try.prog.info? 25).map (fun i => (i.zero, i.size, i.bytes)) = some (some (.slice none 0 0), 1, 24) := by kernel_rfl
/-- A chunk is put behind the chunks. -/
theorem Wi.push {w : World} {g Bk Bl : Nat} {l m b : Int} {W w1 : World} {R : List Int} {s h : Int} {L : List (List Int)} {v v' y : Value} {z : List Int} {xs : List Value} {tmp : Obj} (k : Wi w g Bk Bl l m b W R s h L) (hBl : w.heap.size ≤ Bl) (hv : Boxed W Bl 39 v)
    (hrow : W.ownsRow w.heap.size 25 1 v L.length xs) (hch : ∀ i, i < L.length → W.ownsRow w.heap.size 5 1 (xs.getD i (.slice none 0 0)) (L.getD i []).length ((L.getD i []).map (Value.int .u8))) (hy : W.ownsRow w.heap.size 5 1 y z.length (z.map (Value.int .u8)))
    (hown' : w1.ownsRow w.heap.size 25 1 v' (L.length + 1) (xs ++ [y])) (hgrow : (W.alloc tmp).grownBy w1 v.ownBlock) : Wi w g Bk Bl l m b (w1.setCell ⟨Bl, 0, none⟩ v') R s h (L ++ [z]) ∧ Kr w.heap.size g W (w1.setCell ⟨Bl, 0, none⟩ v') := by
  obtain ⟨hv1, hv2, hr2, hk2, hb2⟩ := hv.appended (by decide) hrow k.bel.size hBl hown' hgrow
  have ht : ∀ (i : Nat) (cs : Array Value) (t : TypeId) (fr : Nat × Nat), t ≠ 39 → t ≠ 25 → W.heap[i]? = some (.cells cs t fr) → (w1.setCell ⟨Bl, 0, none⟩ v').heap[i]? = some (.cells cs t fr) := by
    intro i cs t fr h39 h25 hi
    have hlt := (Array.getElem?_eq_some_iff.1 hi).1
    have hB : i ≠ Bl := by
      rintro rfl
      have h1 := (show W.heap[i]? = _ from hv).symm.trans hi
      cases h1
      exact h39 rfl
    have hne : some i ≠ v.ownBlock := by
      rcases hrow.2 with ⟨rfl, _⟩ | ⟨g, cap, cur, rfl, _, hgb, _⟩
      · simp [Value.ownBlock]
      · intro e'
        obtain rfl : i = g := by simpa [Value.ownBlock] using e'
        have h1 := hi.symm.trans hgb
        cases h1
        exact h25 rfl
    refine (Below.heap_setCell w1 ⟨Bl, 0, none⟩ v' i hB).trans ?_
    exact (hgrow.block i (by simp; omega) hne).trans (heap_old W tmp hi)
  have hxl : xs.length = L.length := by rw [hrow.1, Nat.mul_one]
  refine ⟨⟨⟨ht g _ 71 _ (by decide) (by decide) k.cu.blk, k.cu.len, k.cu.fits⟩, ⟨v', hv2, xs ++ [y], by rw [List.length_append]; exact hr2, fun i hi => ?_⟩, ht Bk _ 41 _ (by decide) (by decide) k.ptr, fun i hi hn => (hb2.block i hi).trans (k.old i hi hn), k.bel.trans (hb2.mono (Nat.zero_le _))⟩,
    ⟨hb2.mono (Nat.zero_le _), fun i hi _ => hb2.block i hi, fun i cs t fr e hi => ht i cs t fr (by rcases e with rfl | rfl <;> decide) (by rcases e with rfl | rfl <;> decide) hi, fun i o hi ho => ?_⟩⟩
  · rw [List.length_append] at hi
    by_cases hlt : i < L.length
    · have e1 : (xs ++ [y]).getD i (.slice none 0 0) = xs.getD i (.slice none 0 0) := by rw [List.getD, List.getD, List.getElem?_append_left (by omega)]
      have e2 : (L ++ [z]).getD i [] = L.getD i [] := by rw [List.getD, List.getD, List.getElem?_append_left (by omega)]
      rw [e1, e2]
      exact own_typ (hch i hlt) (fun i cs => ht i cs 5 (0, 0) (by decide) (by decide))
    · have he : i = L.length := by simp at hi; omega
      have e1 : (xs ++ [y]).getD i (.slice none 0 0) = y := by rw [List.getD, List.getElem?_append_right (by omega), hxl, he]; simp
      have e2 : (L ++ [z]).getD i [] = z := by rw [List.getD, List.getElem?_append_right (by omega), he]; simp
      rw [e1, e2]
      exact own_typ hy (fun i cs => ht i cs 5 (0, 0) (by decide) (by decide))
  · exact hk2.same i o hi ho
end Go.Proofs.Ytcapkkldjgmhfaa
