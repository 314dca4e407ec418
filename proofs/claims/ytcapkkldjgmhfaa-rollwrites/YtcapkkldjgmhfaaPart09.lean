/-
  Chunks put behind chunks: append(got, x...).
-/
import Derived.Test.YtcapkkldjgmhfaaPart08
import Derived.Test.YtcapkkldjgmhfaaPart07
import Derived.Deep.Matrix
import Derived.Deep.Grids
namespace Go.Proofs.Ytcapkkldjgmhfaa
open Go.RowKit

theorem Chs.mono {W : World} {n n' : Nat} {v : Value} {L : List (List Int)} (h : Chs W n v L) (hn : n' ≤ n) : Chs W n' v L := by
  obtain ⟨xs, h1, h2⟩ := h
  exact ⟨xs, own_mono h1 hn, fun i hi => own_mono (h2 i hi) hn⟩
theorem Chs.bel {W W' : World} {n : Nat} {v : Value} {L : List (List Int)} (h : Chs W n v L) (hb : Below W.heap.size W W') : Chs W' n v L := h.typ (fun i _ _ _ hi => (hb.block i (Array.getElem?_eq_some_iff.1 hi).1).trans hi)
theorem own_take {W : World} {base e : Nat} {v : Value} {k : Nat} {xs : List Value} (h : W.ownsRow base e 1 v k xs) : ∃ a c, v = .slice a k c ∧ (∀ ad, a = some ad → ∃ g, ad = ⟨g, 0, none⟩ ∧ ∀ j u, xs[j]? = some u → W.cell? (ad.add j) = some u) ∧ (a = none → xs = []) := by
  obtain ⟨h1, h2 | ⟨g, cap, cur, rfl, hb, hg, hn, hc, hs, ht⟩⟩ := h
  · obtain ⟨rfl, rfl⟩ := h2
    exact ⟨none, 0, rfl, (fun _ h => nomatch h), (fun _ => List.length_eq_zero_iff.1 (by simpa using h1))⟩
  · refine ⟨some ⟨g, 0, none⟩, cap, rfl, fun ad e => ⟨g, by cases e; rfl, fun j u hj => ?_⟩, fun h => by cases h⟩
    cases e
    have hjl : j < xs.length := (List.getElem?_eq_some_iff.1 hj).1
    rw [Go.WideShapes.add_plain, Joins.cell_of_block hg (0 + j), Nat.zero_add]
    rw [Nat.mul_one] at ht h1
    rw [← ht, List.getElem?_take_of_lt (by omega), Array.getElem?_toList] at hj
    exact hj
theorem chs_app (w : World) {ops : Array Oper} {rest : List Oper} {o : Oper} {ac : Act} {Q : Exit → Act → World → Prop} (hgd : o.guard = none) (s x : Operand)
    (ho : o.op = .call { callee := .builtin .append, args := #[s, x], argTypes := #[39, 39] }) (B : Nat) (v vx : Value) (L M : List (List Int)) (hs : ac.eval s = v) (hL : Chs w B v L) (hx : ac.eval x = vx) (hM : Chs w B vx M)
    (hl : L.length + M.length ≤ 1048576) (hB : B ≤ w.heap.size)
    (h : ∀ v' w', Chs w' B v' (L ++ M) → (∀ (i : Nat) (cs : Array Value) (t : TypeId) (fr : Nat × Nat), t ≠ 25 → w.heap[i]? = some (.cells cs t fr) → w'.heap[i]? = some (.cells cs t fr)) → Below B w w' → wpList Try.prog ops Q rest (ac.put o.dst v') w') : wpList Try.prog ops Q (o :: rest) ac w := by
  obtain ⟨i0, hi, hz0, hz1, hz2⟩ := info_parts Try.info25c
  obtain ⟨xs, hrow, hch⟩ := hL
  obtain ⟨ys, hrowM, hchM⟩ := hM
  obtain ⟨a, c, rfl, ha, hn⟩ := own_take hrowM
  have hxl : xs.length = L.length := by rw [hrow.1, Nat.mul_one]
  have hyl : ys.length = M.length := by rw [hrowM.1, Nat.mul_one]
  cases a with
  | none =>
    have hy := hn rfl
    rw [hy, List.length_nil] at hyl
    have hM0 : M = [] := List.length_eq_zero_iff.1 hyl.symm
    subst hM0
    refine wpList_append_nil hgd s x 39 ho B 25 i0 1 c Try.underlying39 hi v L.length xs hs hrow hx ?_
    exact h v w ⟨xs, by rw [List.append_nil]; exact hrow, by rw [List.append_nil]; exact hch⟩ (fun _ _ _ _ _ h => h) (Below.refl _ _)
  | some ad =>
    obtain ⟨g, rfl, hcl⟩ := ha ad rfl
    refine wpList_append_own w hgd s x 39 ho B 25 i0 (.slice none 0 0) 1 24 Try.underlying39 hi hz0 hz1 hz2 rfl (by decide) v L.length xs hs hrow ⟨g, 0, none⟩ M.length c ys hx (by rw [Nat.mul_one]; exact hyl) hcl (fun u hu => ?_) (by unfold maxLen; omega) (by omega) hB ?_
    · obtain ⟨j, hj, rfl⟩ := List.mem_iff_getElem.1 hu
      have h1 := hchM j (by omega)
      rw [List.getD, List.getElem?_eq_getElem hj, Option.getD_some] at h1
      rcases h1.2 with ⟨e, _⟩ | ⟨_, _, _, e, _⟩ <;> rw [e] <;> rfl
    · intro v' w' hown' hgrow _
      have ht : ∀ (i : Nat) (cs : Array Value) (t : TypeId) (fr : Nat × Nat), t ≠ 25 → w.heap[i]? = some (.cells cs t fr) → w'.heap[i]? = some (.cells cs t fr) := by
        intro i cs t fr h25 hi
        have hne : some i ≠ v.ownBlock := by
          rcases hrow.2 with ⟨rfl, _⟩ | ⟨g, cap, cur, rfl, _, hgb, _⟩
          · simp [Value.ownBlock]
          · intro e'
            obtain rfl : i = g := by simpa [Value.ownBlock] using e'
            have h1 := hi.symm.trans hgb
            cases h1
            exact h25 rfl
        exact (hgrow.block i (Array.getElem?_eq_some_iff.1 hi).1 hne).trans hi
      refine h v' w' ⟨xs ++ ys, by rw [List.length_append]; exact hown', fun i hi => ?_⟩ ht ((Below.refl B w).grown hgrow hB fun j ej => ?_)
      · rw [List.length_append] at hi
        by_cases hlt : i < L.length
        · have e1 : (xs ++ ys).getD i (.slice none 0 0) = xs.getD i (.slice none 0 0) := by rw [List.getD, List.getD, List.getElem?_append_left (by omega)]
          have e2 : (L ++ M).getD i [] = L.getD i [] := by rw [List.getD, List.getD, List.getElem?_append_left (by omega)]
          rw [e1, e2]
          exact own_typ (hch i hlt) (fun i cs => ht i cs 5 (0, 0) (by decide))
        · have e1 : (xs ++ ys).getD i (.slice none 0 0) = ys.getD (i - L.length) (.slice none 0 0) := by rw [List.getD, List.getD, List.getElem?_append_right (by omega), hxl]
          have e2 : (L ++ M).getD i [] = M.getD (i - L.length) [] := by rw [List.getD, List.getD, List.getElem?_append_right (by omega)]
          rw [e1, e2]
          exact own_typ (hchM (i - L.length) (by omega)) (fun i cs => ht i cs 5 (0, 0) (by decide))
      · rcases hrow.2 with ⟨rfl, _⟩ | ⟨g, cap, cur, rfl, hb, _, _⟩
        · simp [Value.ownBlock] at ej
        · obtain rfl : g = j := by simpa [Value.ownBlock] using ej
          exact hb
theorem doc_len {l m b : Int} (hc : chkC l m b = 0) : ∀ (f : Nat) (T : List Int), T.length ≤ f → (docW l m b f T).1.length ≤ T.length
  | 0, T, _ => by rw [docW]; exact Nat.zero_le _
  | f + 1, T, h => by
    rw [docW]
    split
    · rename_i hk
      obtain ⟨c1, c2⟩ := next_cnt hc hk
      have ih := doc_len hc f (T.drop (nextL l m b T).1.toNat) (by rw [List.length_drop]; omega)
      rw [List.length_drop] at ih
      dsimp only
      rw [List.length_cons]
      omega
    · exact Nat.zero_le _
/-- What a cutter has behind the pieces up to a place. -/
theorem has_piece {l m b : Int} (hc : chkC l m b = 0) {R bs : List Int} {s h : Int} (st n : Nat) (hb : ∀ z ∈ bs, 0 ≤ z ∧ z ≤ 255) (hs : st + n ≤ bs.length) (k : Wg m (R, s, h, [])) (hp : Has l m b (R, s, h, []) (docW l m b bs.length (bs.take st)).2 []) :
    (wrO l m b s h R ((bs.drop st).take n)).1.take (wrO l m b s h R ((bs.drop st).take n)).2.1.toNat = (docW l m b bs.length (bs.take (st + n))).2 ∧ Has l m b ((wrO l m b s h R ((bs.drop st).take n)).1, (wrO l m b s h R ((bs.drop st).take n)).2.1, (wrO l m b s h R ((bs.drop st).take n)).2.2.1, []) (docW l m b bs.length (bs.take (st + n))).2 [] ∧
      (docW l m b bs.length (bs.take (st + n))).1 = (docW l m b bs.length (bs.take st)).1 ++ (wrO l m b s h R ((bs.drop st).take n)).2.2.2 := by
  obtain ⟨k1, k2, k3, k4, k5⟩ := chkC_ok hc
  have e : bs.take (st + n) = bs.take st ++ (bs.drop st).take n := List.take_add ..
  have hPl : (docW l m b bs.length (bs.take st)).2.length + ((bs.drop st).take n).length ≤ bs.length + 4096 := by
    rw [← hp.left]
    simp only [List.length_take, List.length_drop]
    have := k.len
    have := k.s1
    dsimp only at *
    omega
  have hw := has_wr hc R ((bs.drop st).take n) _ s h (fun z hz => hb z (List.mem_of_mem_drop (List.mem_of_mem_take hz))) k hp (bs.length + 4096) hPl
  have ha := docW_app hc ((bs.drop st).take n) bs.length (bs.take st) bs.length (bs.length + 4096) (by rw [List.length_take]; omega) (by rw [← e, List.length_take]; omega) (by rw [← e, List.length_take]; omega)
  rw [← e] at ha
  have h1 : (docW l m b bs.length (bs.take (st + n))).2 = (docW l m b (bs.length + 4096) ((docW l m b bs.length (bs.take st)).2 ++ (bs.drop st).take n)).2 := by rw [ha]
  have h2 : (docW l m b bs.length (bs.take (st + n))).1 = (docW l m b bs.length (bs.take st)).1 ++ (docW l m b (bs.length + 4096) ((docW l m b bs.length (bs.take st)).2 ++ (bs.drop st).take n)).1 := by rw [ha]
  rw [h1, h2, hw.told]
  exact ⟨hw.left, ⟨hw.left, hw.none, hw.walk, rfl⟩, rfl⟩
theorem spl_mem {l m b : Int} : ∀ (f : Nat) (T : List Int), ∀ c ∈ splF l m b f T, ∀ z ∈ c, z ∈ T
  | 0, _, c, hc, _, _ => by cases hc
  | f + 1, T, c, hc, z, hz => by
    rw [splF] at hc
    split at hc
    · cases hc
    · rcases List.mem_cons.1 hc with rfl | hc
      · exact List.mem_of_mem_take hz
      · exact List.mem_of_mem_drop (spl_mem f _ c hc z hz)
theorem spl_len {l m b : Int} (f : Nat) (T : List Int) : (splF l m b f T).length ≤ T.length := by
  have h := congrArg List.length (spl_cuts (l := l) (m := m) (b := b) f 0 T)
  rw [List.length_map, List.length_map] at h
  have h2 := parts_len l m b f 0 T
  omega
end Go.Proofs.Ytcapkkldjgmhfaa
/-
  Arguments that are rows of rows of bytes, and rows of bools, as they are handed in.
-/
namespace Go.Proofs.Ytcapkkldjgmhfaa
open Go.RowKit

structure Ps (w : World) (a : Option Addr) (cap : Nat) (L : List (List Int)) : Prop where
  room : L.length ≤ cap
  most : cap ≤ maxLen
  cells : 0 < L.length → ∃ b off, a = some ⟨b, off, none⟩ ∧ b < w.heap.size ∧ ∀ j, j < L.length → ∃ aj cj, w.cell? ⟨b, off + j, none⟩ = some (.slice aj (L.getD j []).length cj) ∧ Ri w .u8 aj cj (L.getD j [])
structure Bls (w : World) (a : Option Addr) (cap : Nat) (L : List Bool) : Prop where
  room : L.length ≤ cap
  most : cap ≤ maxLen
  cells : 0 < L.length → ∃ b off, a = some ⟨b, off, none⟩ ∧ b < w.heap.size ∧ ∀ j, j < L.length → w.cell? ⟨b, off + j, none⟩ = some (.bool (L.getD j false))
set_option maxRecDepth 100000 in
open Go.ChangeShapes Go.WideShapes Go.ChangeAt in
theorem open_ps {H : Type} {enc : TypeId × Value → H} {W : World} {base : Nat} {v : Value} {d : DataW H} {p : List MemPlace} (hv : Value.okWide Try.prog W .any base 39 v)
    (h : DataW.Trod enc Try.prog W 0 (fun _ => true) true 39 v d p) (hlt : ∀ x ∈ p, x.block < W.heap.size) : ∃ a cap l, v = .slice a (l : List (List Int)).length cap ∧ Ps W a cap l := by
  obtain ⟨a0, len, cap, rfl⟩ := okWide_slice Try.underlying39 hv
  obtain ⟨fuel, hf⟩ := h
  rcases Go.Deep.open_int_rows Try.underlying39 Try.underlying25 Try.underlying5 (by kernel_rfl) (by kernel_rfl) hf with ⟨hcs, hx⟩ | ⟨a, len', cap', A, L, C, Z, hcs, _, hl, hm, hx, hrow⟩
  · simp [Value.cells] at hcs
    obtain ⟨rfl, rfl, rfl⟩ := hcs
    exact ⟨none, 0, [], rfl, Nat.le_refl _, by unfold maxLen; omega, fun h => absurd h (by simp)⟩
  · simp [Value.cells] at hcs
    obtain ⟨rfl, rfl, rfl⟩ := hcs
    have hp : p = MemPlace.row a cap ++ (List.range cap).flatMap fun r => Go.Deep.intRowPlaces (A r) (Z r) := congrArg Prod.snd hx
    have hlen : ((List.range len).map fun r => (Z r).take (L r)).length = len := by simp
    refine ⟨some a, cap, (List.range len).map fun r => (Z r).take (L r), by rw [hlen], by rw [hlen]; exact hl, hm, fun h0 => ?_⟩
    rw [hlen] at h0 ⊢
    obtain ⟨b, off, spot⟩ := a
    have hspot : spot = none := by simpa [Addr.add] using World.cell?_spot (hrow 0 (by omega)).1
    subst hspot
    have hbW : b < W.heap.size := hlt (.cell b off) (by rw [hp, List.mem_append]; exact Or.inl (MemPlace.mem_row.2 ⟨0, by omega, by simp⟩))
    refine ⟨b, off, rfl, hbW, fun j hj => ?_⟩
    obtain ⟨h1, h2, h3, h4, h5, h6, h7⟩ := hrow j (by omega)
    rw [add_plain] at h1
    have hgd : ((List.range len).map fun r => (Z r).take (L r)).getD j [] = (Z j).take (L j) := by
      simp [List.getD, hj]
    rw [hgd]
    have hln : ((Z j).take (L j)).length = L j := by simp; omega
    have hby : ∀ i, (Lit.int .u8 (((Z j).take (L j)).getD i 0)).wf = true := by
      intro i
      by_cases hi : i < ((Z j).take (L j)).length
      · have hm : ((Z j).take (L j)).getD i 0 ∈ Z j := by
          simp only [List.getD, List.getElem?_eq_getElem hi, Option.getD_some]
          exact List.mem_of_mem_take (List.getElem_mem hi)
        exact h5 _ hm
      · rw [List.getD, List.getElem?_eq_none (show ((Z j).take (L j)).length ≤ i from by omega)]
        exact wf_zero _
    refine ⟨A j, C j, by rw [hln]; exact h1, by rw [hln]; exact h2, h3, fun h0 => ?_, hby⟩
    rw [hln] at h0 ⊢
    cases hA : A j with
    | none => have := h6 hA; omega
    | some a' =>
      obtain ⟨_, hcell⟩ := h7 a' hA
      obtain ⟨b', off', spot'⟩ := a'
      have hspot' : spot' = none := by simpa [Addr.add] using World.cell?_spot (hcell 0 (by omega))
      subst hspot'
      have hbW' : b' < W.heap.size := hlt (.cell b' off') (by
        rw [hp, List.mem_append]
        refine Or.inr (List.mem_flatMap.2 ⟨j, List.mem_range.2 (by omega), ?_⟩)
        rw [hA]
        exact MemPlace.mem_row.2 ⟨0, by omega, by simp⟩)
      refine ⟨b', off', rfl, hbW', fun i hi => ?_⟩
      rw [← add_plain]
      have e : ((Z j).take (L j)).getD i 0 = (Z j).getD i 0 := by simp [List.getD, List.getElem?_take_of_lt hi]
      rw [e]
      exact hcell i (by omega)
set_option maxRecDepth 100000 in
open Go.ChangeShapes Go.WideShapes Go.ChangeAt in
theorem open_bls {H : Type} {enc : TypeId × Value → H} {W : World} {base : Nat} {v : Value} {d : DataW H} {p : List MemPlace} (hv : Value.okWide Try.prog W .any base 40 v)
    (h : DataW.Trod enc Try.prog W 0 (fun _ => true) true 40 v d p) (hlt : ∀ x ∈ p, x.block < W.heap.size) : ∃ a cap l, v = .slice a (l : List Bool).length cap ∧ Bls W a cap l := by
  obtain ⟨a0, len, cap, rfl⟩ := okWide_slice Try.underlying40 hv
  obtain ⟨fuel, hf⟩ := h
  rcases Go.Deep.open_bools Try.underlying40 Try.underlying4 (by kernel_rfl) hf with ⟨hcs, hx⟩ | ⟨a, len', cap', B, hcs, _, hl, hm, hx, hcell⟩
  · simp [Value.cells] at hcs
    obtain ⟨rfl, rfl, rfl⟩ := hcs
    exact ⟨none, 0, [], rfl, Nat.le_refl _, by unfold maxLen; omega, fun h => absurd h (by simp)⟩
  · simp [Value.cells] at hcs
    obtain ⟨rfl, rfl, rfl⟩ := hcs
    have hp : p = MemPlace.row a cap := congrArg Prod.snd hx
    have hlen : ((List.range len).map B).length = len := by simp
    refine ⟨some a, cap, (List.range len).map B, by rw [hlen], by rw [hlen]; exact hl, hm, fun h0 => ?_⟩
    rw [hlen] at h0 ⊢
    obtain ⟨b, off, spot⟩ := a
    have hspot : spot = none := by simpa [Addr.add] using World.cell?_spot (hcell 0 (by omega))
    subst hspot
    have hbW : b < W.heap.size := hlt (.cell b off) (by rw [hp]; exact MemPlace.mem_row.2 ⟨0, by omega, by simp⟩)
    refine ⟨b, off, rfl, hbW, fun j hj => ?_⟩
    have h1 := hcell j (by omega)
    rw [add_plain] at h1
    rw [h1]
    simp [List.getD, hj]
end Go.Proofs.Ytcapkkldjgmhfaa
/-
  The document's cutter that has nothing: &R.Cutter{C: c}.
-/
namespace Go.Proofs.Ytcapkkldjgmhfaa
open Go.RowKit

theorem Try.zeros46 : (Try.prog.info? 46).map (fun i => (i.zero, i.size)) = some (some (.agg #[.int .i64 0, .int .i64 0, .int .i64 0, .slice none 0 0]), 4) := by kernel_rfl
theorem Try.zero46 (w : World) : (zeroValue 46).run Try.prog w = .ok (.agg #[.int .i64 0, .int .i64 0, .int .i64 0, .slice none 0 0]) w := by
  have h := Try.zeros46
  cases hi : Try.prog.info? 46 with
  | none => rw [hi] at h; cases h
  | some i =>
    rw [hi] at h
    simp only [Option.map_some, Option.some.injEq, Prod.mk.injEq] at h
    simp [zeroValue, typeInfo, hi, h.1]
theorem build_rc (l m b : Int) (w : World) : (Instr.build 46 #[(0, .agg #[.int .i64 l, .int .i64 m, .int .i64 b])]).run Try.prog w = .ok (.agg #[.int .i64 l, .int .i64 m, .int .i64 b, .slice none 0 0]) w := by
  unfold Instr.build
  simp only [Sem.run_bind, Try.zero46, run_underlying Try.underlying46, Result.andThen_ok, Value.cells]
  have hm : ∀ (w : World), (Array.mapM (m := Sem) (fun (f : Field) => do
              let s ← sizeOf f.type
              pure (f.offset, s))
            #[{ name := "C", type := 23, offset := 0, embedded := false, tag := "", pkgPath := "",
                byteOffset := 0 },
              { name := "B", type := 25, offset := 3, embedded := false, tag := "", pkgPath := "",
                byteOffset := 24 }]).run Try.prog w = .ok #[(0, 3), (3, 1)] w := fun w => by kernel_rfl
  first
    | rw [hm]
    | trace_state
  simp [Instr.fill, Value.cells, go_sem]
theorem rnew_rb (l m b : Int) (w : World) : Rb (w.alloc (.cells #[.int .i64 l, .int .i64 m, .int .i64 b, .slice none 0 0] 46)) w.heap.size l m b (.slice none 0 0) := heap_new w _
end Go.Proofs.Ytcapkkldjgmhfaa
