/-
  A row or a write put behind those of a document's device; the document's New.
-/
import Derived.Test.YtldgiimkkgmgaaaPart06
namespace Go.Proofs.Ytldgiimkkgmgaaa
open Go.RowKit

theorem own_at {W : World} {base e s n : Nat} {v : Value} {xs : List Value} (h : W.ownsRow base e s v n xs) {q : Nat} (hq : v.ownBlock = some q) : base ≤ q ∧ ∃ cs, W.heap[q]? = some (.cells cs e (0, 0)) := by
  rcases h.2 with ⟨rfl, _⟩ | ⟨g, cp, cur, rfl, h4, h5, _⟩
  · cases hq
  · cases hq; exact ⟨h4, _, h5⟩
theorem grown_obj {W W' : World} {base e s n : Nat} {v : Value} {xs : List Value} (h : W.ownsRow base e s v n xs) (hg : W.grownBy W' v.ownBlock) (i : Nat) (o : Obj) (hi : W.heap[i]? = some o) (ho : ∀ cs, o ≠ .cells cs e (0, 0)) : W'.heap[i]? = some o := by
  refine (hg.block i (Array.getElem?_eq_some_iff.1 hi).1 (fun e' => ?_)).trans hi
  obtain ⟨_, cs, h1⟩ := own_at h e'.symm
  rw [hi] at h1
  injection h1 with h1
  exact ho cs h1
theorem grown_frd {W W' : World} {base e s n : Nat} {v : Value} {xs : List Value} (h : W.ownsRow base e s v n xs) (he : e = 33 ∨ e = 87) (hg : W.grownBy W' v.ownBlock) (hb : base ≤ W.heap.size) : FrD base W W' :=
  ⟨bel_grown h hg hb, fun i o hi hk => grown_obj h hg i o hi (fun cs e' => by have := hk cs e (0, 0) e'; rcases he with rfl | rfl <;> simp at this)⟩
theorem RowL.push {W W' : World} {base n : Nat} {v v' y : Value} {xs : List Value} {L L' : Int → List Int} (h : W.ownsRow base 33 1 v n xs) (hx : ∀ i, i < n → Bk W (xs.getD i nilV) (L (i : Int))) (hy : Bk W y (L' (n : Int))) (hL : ∀ i : Nat, i < n → L' (i : Int) = L (i : Int)) (ho : W'.ownsRow base 33 1 v' (n + 1) (xs ++ [y])) (hg : W.grownBy W' v.ownBlock) : RowL W' base v' (n + 1) L' := by
  have hl : xs.length = n := by rw [h.1]; omega
  have h5 : ∀ (i : Nat) (cs : Array Value) (fr : Nat × Nat), W.heap[i]? = some (.cells cs 5 fr) → W'.heap[i]? = some (.cells cs 5 fr) := fun i cs fr hi => grown_obj h hg i _ hi (fun cs' e => by injection e with _ e; cases e)
  refine ⟨_, ho, fun i hi => ?_⟩
  by_cases e : i < n
  · rw [hL i e, show (xs ++ [y]).getD i nilV = xs.getD i nilV from by simp [List.getD, List.getElem?_append_left (show i < xs.length by omega)]]
    exact (hx i e).keep h5
  · have e2 : i = n := by omega
    subst e2
    rw [show (xs ++ [y]).getD i nilV = y from by rw [← hl]; simp [List.getD]]
    exact hy.keep h5
theorem Try.info33 : (Try.prog.info? 33).map (fun i => (i.zero, i.size, i.bytes)) = some (some (.slice none 0 0), 1, 24) := by kernel_rfl
theorem Try.info87 : (Try.prog.info? 87).map (fun i => (i.zero, i.size, i.bytes)) = some (some (.agg #[.int .i64 0, .slice none 0 0]), 2, 32) := by kernel_rfl
/-- make([]byte, 512). -/
theorem make_run (w : World) (base : Nat) (hb : base ≤ w.heap.size) : ∃ w', (Instr.makeSlice 33 (.int .i64 512) (.int .i64 512)).run Try.prog w = .ok (.slice (some ⟨w.heap.size, 0, none⟩) 512 512) w' ∧ Bk w' (.slice (some ⟨w.heap.size, 0, none⟩) 512 512) z512 ∧ Below w.heap.size w w' := by
  obtain ⟨i0, hi0, hz0, hz1, hz2⟩ := info_parts Try.info5c
  obtain ⟨w', h1, h2, h3⟩ := run_make_full (P := Try.prog) w base 33 5 i0 (.int .u8 0) 1 Try.underlying33 hi0 hz0 hz1 .i64 .i64 512 (by rw [hz2]; omega) (by unfold maxLen; omega) hb
  refine ⟨w', h1, Bk.own (B := base) ?_ blk_z, (Below.refl _ _).grown h3 (Nat.le_refl _) (fun k hk => by cases hk)⟩
  have h4 : w'.ownsRow base 5 1 (.slice (some ⟨w.heap.size, 0, none⟩) 512 512) 512 (madeCells #[.int .u8 0] (512 * 1)).toList := h2
  rw [toList_madeCells_one] at h4
  unfold bytesV z512
  rw [List.map_replicate]
  exact h4
theorem wp_make {P : Program} {o : Oper} {a : Act} {w w' : World} {K : Act → World → Prop} {Q : Exit → Act → World → Prop} (t : TypeId) (x y : Operand) (ho : o.op = .makeSlice t x y) (xv yv v : Value) (hx : a.eval x = xv) (hy : a.eval y = yv) (hr : (Instr.makeSlice t xv yv).run P w = .ok v w') (h : K (a.put o.dst v) w') : o.wp P a w K Q := by
  unfold Oper.wp execOp
  simp only [ho, hx, hy, Sem.run_bind, hr, Result.andThen_ok]
  exact h
/-- A slice of one cell. -/
theorem slice_one (v : Value) (h1 : v.oneCell' = true) (w : World) : (Instr.buildSlice 44 1 #[(0, v)]).run Try.prog w = .ok (.slice (some ⟨w.heap.size, 0, none⟩) 1 1) (w.alloc (.cells #[v] 33)) := by
  obtain ⟨ie, hi, hz, hs, _⟩ := info_parts Try.info33
  have hc : v.cells = #[v] := by cases v <;> first | rfl | cases h1
  refine run_buildSlice w 44 33 1 _ #[v] ie _ Try.underlying44 hi hz (by rw [hs]; decide) (by rw [hs]; decide) ?_
  rw [hs]
  have := Great.fill_whole (s := 1) (by decide) [v] ((Array.range (1 * 1)).map ((Value.slice none 0 0).cells[· % (Value.slice none 0 0).cells.size]!)) (fun u hu => by rw [List.mem_singleton] at hu; subst hu; rw [hc]; rfl) (by simp)
  rw [show (([v] : List Value).zipIdx 0).map (fun x => (x.2, x.1)) = [(0, v)] from rfl] at this
  show Instr.fill _ _ [(0, v)] = _
  rw [this]
  simp [hc]
theorem Bk.one {W : World} {v : Value} {b : List Int} (h : Bk W v b) : v.oneCell' = true := by
  obtain ⟨g, c, cs, fr, rfl, _⟩ := h
  rfl
theorem rnew_no (n : Int) (w : World) (h : ¬ (4 ≤ n ∧ n ≤ 4096)) : Calls Try.prog 9 #[.int .i64 n] w fun e w' => e = .returned (.tuple #[.pointer none, .int .i64 90]) ∧ w' = w := by
  by_cases h1 : n < 4
  · go_enter Try.func9, Try.ntmps9
    go_wp2_with fail
    go_ret2
    exact ⟨rfl, rfl⟩
  · have h2 : 4096 < n := by omega
    go_enter Try.func9, Try.ntmps9
    go_wp2_with fail
    go_ret2
    exact ⟨rfl, rfl⟩
structure NwI (w wr : World) (gr : Nat) (vL : Value) (q : Nat) : Prop where
  blk : Rc wr gr vL nilV false (-1)
  row : RowL wr w.heap.size vL q (fun _ => z512)
  bel : Below w.heap.size w wr
def RnPost (n : Nat) (w : World) (e : Ending) (w' : World) : Prop := ∃ gr vL, e = .returned (.tuple #[.pointer (some ⟨gr, 0, none⟩), .int .i64 0]) ∧ Rv w' w.heap.size gr vL nilV n (fun _ => z512) [] (-1) ∧ Below w.heap.size w w'
set_option maxHeartbeats 6400000 in
set_option maxRecDepth 100000 in
theorem rnew_ref (n : Nat) (w : World) (h : 4 ≤ n ∧ n ≤ 4096) : Calls Try.prog 9 #[.int .i64 (n : Int)] w (RnPost n w) := by
  unfold RnPost
  obtain ⟨h1, h2⟩ := h
  have h3 : ¬ (n : Int) < 4 := by omega
  have h4 : ¬ 4096 < (n : Int) := by omega
  have HI0 : Hid (NwI w (w.alloc (.cells #[.slice none 0 0, .slice none 0 0, .bool false, .bool false, .int .i64 0] 62)) w.heap.size (.slice none 0 0) 0) := ⟨heap_new w _, ⟨[], ⟨rfl, .inl ⟨rfl, rfl⟩⟩, fun i hi => absurd hi (Nat.not_lt_zero _)⟩, bel_alloc w _⟩
  obtain ⟨i0, hi0, hz0, hz1, hz2⟩ := info_parts Try.info33
  have hn6 : (n : Int) ≤ 4096 := by omega
  have HN6 := hid (show 4 ≤ n ∧ n ≤ 4096 from ⟨h1, h2⟩)
  clear h1
  go_enter Try.func9, Try.ntmps9
  go_wp2_with fail
  obtain ⟨gr, hgr⟩ : ∃ g, g = w.heap.size := ⟨_, rfl⟩
  have HGR := hid hgr
  rw [← hgr]
  have HI1 : Hid (NwI w (w.alloc (.cells #[.slice none 0 0, .slice none 0 0, .bool false, .bool false, .int .i64 0] 62)) gr (.slice none 0 0) 0) := by rw [hgr]; exact HI0.out
  clear hgr HI0
  go_loopw [5] (fun j wr => ∃ (q : Nat) (vL : Value), j = .int .i64 (q : Int) ∧ q ≤ n ∧ Hid (NwI w wr gr vL q)) (fun j _ => n - (intOf j).toNat)
  case atStart => exact ⟨0, _, rfl, Nat.zero_le _, HI1.out⟩
  case round =>
    clear HI1
    obtain ⟨q, vL, rfl, hq, HI⟩ := hrel
    by_cases hlt : q < n
    · have hz : (q : Int) < (n : Int) := by omega
      obtain ⟨aL, cL, rfl⟩ := HI.out.row.slice
      go_wp2_with fail
      refine OrdE.region (fun W => Rc W gr (.slice aL q cL) nilV false (-1)) 10 (by kernel_rfl) (show Rc wr.drew gr (.slice aL q cL) nilV false (-1) from HI.out.blk) (fun hSS => ?_)
      have HID : Hid (NwI w wr.drew gr (.slice aL q cL) q) := ⟨HI.out.blk, HI.out.row, HI.out.bel.drew⟩
      clear HI
      generalize wr.drew = v0 at *
      refine OrdE.take (i := 0) (d := 19) (v := ?va0) rfl rfl rfl (by as_aux_lemma => kernel_rfl) (by as_aux_lemma => kernel_rfl) (by as_aux_lemma => kernel_rfl) (by as_aux_lemma => kernel_rfl) (fun _ _ _ h => h) (by rfl) ?ha0 (by assumption) ?_
      case ha0 => intro w hSw; go_simp; try with_reducible rfl
      simp only [List.setIfInBounds_toArray, List.set_cons_zero, List.set_cons_succ]
      refine OrdE.take (i := 1) (d := 20) (v := ?va1) rfl rfl rfl (by as_aux_lemma => kernel_rfl) (by as_aux_lemma => kernel_rfl) (by as_aux_lemma => kernel_rfl) (by as_aux_lemma => kernel_rfl) (fun _ _ _ h => h) (by rfl) ?ha1 (by assumption) ?_
      case ha1 => intro w hSw; go_simp; try with_reducible rfl
      simp only [List.setIfInBounds_toArray, List.set_cons_zero, List.set_cons_succ]
      refine OrdE.take (i := 2) (d := 21) (v := ?va2) rfl rfl rfl (by as_aux_lemma => kernel_rfl) (by as_aux_lemma => kernel_rfl) (by as_aux_lemma => kernel_rfl) (by as_aux_lemma => kernel_rfl) (fun _ _ _ h => h) (by rfl) ?ha2 (by assumption) ?_
      case ha2 => intro w hSw; go_simp; try with_reducible rfl
      simp only [List.setIfInBounds_toArray, List.set_cons_zero, List.set_cons_succ]
      refine OrdE.take (i := 3) (d := 22) (v := ?va3) rfl rfl rfl (by as_aux_lemma => kernel_rfl) (by as_aux_lemma => kernel_rfl) (by as_aux_lemma => kernel_rfl) (by as_aux_lemma => kernel_rfl) (fun _ _ _ h => h) (by rfl) ?ha3 (by assumption) ?_
      case ha3 => intro w hSw; go_simp; try with_reducible rfl
      simp only [List.setIfInBounds_toArray, List.set_cons_zero, List.set_cons_succ]
      refine OrdE.take (i := 4) (d := 23) (v := .slice aL q cL) rfl rfl rfl (by as_aux_lemma => kernel_rfl) (by as_aux_lemma => kernel_rfl) (by as_aux_lemma => kernel_rfl) (by as_aux_lemma => kernel_rfl) (fun _ _ _ h => h) (by rfl) ?ha4 (by assumption) ?_
      case ha4 => intro w hSw; obtain ⟨q0, q1, q2, q3, q4⟩ := hSw.cells; go_simp; try with_reducible rfl
      simp only [List.setIfInBounds_toArray, List.set_cons_zero, List.set_cons_succ]
      obtain ⟨v1, hmk, hbk, hb1⟩ := make_run v0 w.heap.size HID.out.bel.size
      refine OrdE.one (i := 5) (by as_aux_lemma => kernel_rfl) rfl (fun K hK => ?_)
      rw [if_pos (by rfl)]
      refine wp_make 33 _ _ rfl (.int .i64 512) (.int .i64 512) _ rfl rfl hmk ?_
      have hS5 : Rc v1 gr (.slice aL q cL) nilV false (-1) := (hb1.block gr hSS.lt).trans hSS
      refine hK.out _ _ (fun _ => hS5) ?_
      clear hK K
      try refine OrdE.put (d := 24) rfl ?_
      try simp only [List.setIfInBounds_toArray, List.set_cons_zero, List.set_cons_succ]
      have hbs := slice_one (.slice (some ⟨v0.heap.size, 0, none⟩) 512 512) rfl v1
      have HB1 := hid hb1
      have HBK := hid hbk
      have HRW := hid (HID.out.row.keep (fun i cs hi => (hb1.block i (Array.getElem?_eq_some_iff.1 hi).1).trans hi) (fun i cs fr hi => (hb1.block i (Array.getElem?_eq_some_iff.1 hi).1).trans hi))
      generalize Value.slice (some ⟨v0.heap.size, 0, none⟩) 512 512 = yv at *
      clear hmk hb1 hbk hSS
      refine OrdE.one (i := 6) (by as_aux_lemma => kernel_rfl) rfl (fun K hK => ?_)
      rw [if_pos (by rfl)]
      refine wp_bslice 44 1 (.tmp 24) rfl yv _ rfl hbs ?_
      have hA : Below v1.heap.size v1 (v1.alloc (.cells #[yv] 33)) := bel_alloc v1 _
      have hS6 : Rc (v1.alloc (.cells #[yv] 33)) gr (.slice aL q cL) nilV false (-1) := (hA.block gr hS5.lt).trans hS5
      refine hK.out _ _ (fun _ => hS6) ?_
      clear hK K
      try refine OrdE.put (d := 25) rfl ?_
      try simp only [List.setIfInBounds_toArray, List.set_cons_zero, List.set_cons_succ]
      have hbA := hA.block
      have HR2 := hid (HRW.out.keep (fun i cs hi => (hA.block i (Array.getElem?_eq_some_iff.1 hi).1).trans hi) (fun i cs fr hi => (hA.block i (Array.getElem?_eq_some_iff.1 hi).1).trans hi))
      have HK2 := hid (HBK.out.keep (fun i cs fr hi => (hA.block i (Array.getElem?_eq_some_iff.1 hi).1).trans hi))
      have HB2 : Hid (Below w.heap.size w (v1.alloc (.cells #[yv] 33))) := Bn (Bn HID.out.bel HB1.out) hA
      have HNW : Hid (∀ (j : Nat) (u : Value), ([yv] : List Value)[j]? = some u → (v1.alloc (.cells #[yv] 33)).cell? (Addr.add ⟨v1.heap.size, 0, none⟩ j) = some u) := fun j u hu => by
        have hj : j = 0 := by have := (List.getElem?_eq_some_iff.1 hu).1; simp at this; exact this
        subst hj
        have h9 : yv = u := by simpa using hu
        rw [Go.WideShapes.add_plain, Nat.zero_add, ← h9]
        exact Joins.cell_of_block (heap_new v1 _) 0
      have hy1 := HBK.out.one
      obtain ⟨xs, hxo, hxb⟩ := HR2.out
      have hsz2 := HB2.out.size
      clear hbA hA hS5 hbs HRW HB1 HBK HID
      generalize v1.alloc (.cells #[yv] 33) = v2 at *
      refine OrdE.one (i := 7) (by as_aux_lemma => kernel_rfl) rfl (fun K hK => ?_)
      rw [if_pos (by rfl)]
      refine wp_append_own v2 (.tmp 23) (.tmp 25) 44 rfl w.heap.size 33 i0 (.slice none 0 0) 1 24 Try.underlying44 hi0 hz0 hz1 hz2 rfl (by decide) _ q xs rfl hxo ⟨v1.heap.size, 0, none⟩ 1 1 [yv] rfl rfl HNW.out (by simp [hy1]) (by unfold maxLen; omega) (by omega) hsz2 (fun v' w2 hown hgrow _ => ?_)
      have hS7 : Rc w2 gr (.slice aL q cL) nilV false (-1) := grown_obj hxo hgrow gr _ hS6 (fun cs e => by injection e with _ e; cases e)
      refine hK.out _ _ (fun _ => hS7) ?_
      clear hK K
      try refine OrdE.put (d := 26) rfl ?_
      try simp only [List.setIfInBounds_toArray, List.set_cons_zero, List.set_cons_succ]
      obtain ⟨a2, c2, rfl⟩ := own_slice hown
      have HRL : Hid (RowL w2 w.heap.size (.slice a2 (q + 1) c2) (q + 1) (fun _ => z512)) := RowL.push (L := fun _ => z512) (L' := fun _ => z512) hxo hxb HK2.out (fun _ _ => rfl) hown hgrow
      have HBL := hid (HB2.out.trans (bel_grown hxo hgrow hsz2))
      obtain ⟨y0, y1, y2, y3, y4⟩ := hS7.cells
      have yf := hS7.unfrozen 0
      clear hown hgrow hS6 HNW hxo hxb HR2 HK2 HB2
      refine OrdE.one (i := 8) (by as_aux_lemma => kernel_rfl) rfl (fun K hK => ?_)
      go_simp
      refine hK.out _ _ (fun _ => hS7) ?_
      clear hK K
      try refine OrdE.put (d := 27) rfl ?_
      try simp only [List.setIfInBounds_toArray, List.set_cons_zero, List.set_cons_succ]
      refine OrdE.one (i := 9) (by as_aux_lemma => kernel_rfl) rfl (fun K hK => ?_)
      go_simp
      refine hK.out _ _ (fun _ => hS7) ?_
      clear hK K
      try refine OrdE.put (d := 28) rfl ?_
      try simp only [List.setIfInBounds_toArray, List.set_cons_zero, List.set_cons_succ]
      refine OrdE.one (i := 10) (by as_aux_lemma => kernel_rfl) rfl (fun K hK => ?_)
      go_simp
      refine hK.out _ _ (fun h => absurd rfl h) ?_
      clear hK K
      try simp only [List.setIfInBounds_toArray, List.set_cons_zero, List.set_cons_succ]
      refine OrdE.done (by as_aux_lemma => kernel_rfl) ?_ _
      have HIN : Hid (NwI w (w2.setCell ⟨gr, 0, none⟩ (.slice a2 (q + 1) c2)) gr (.slice a2 (q + 1) c2) (q + 1)) := by
        obtain ⟨h5, h6⟩ := rc_set hS7 (show w.heap.size ≤ gr by rw [HGR.out]; exact Nat.le_refl _) 0 (.slice a2 (q + 1) c2)
        exact ⟨hS7.put.1 _, HRL.out.keep (fun i cs hi => (h5 i (hS7.ne5 hi (by decide))).trans hi) (fun i cs fr hi => (h5 i (hS7.ne5 hi (by decide))).trans hi), HBL.out.trans h6.bel⟩
      clear hS7 y0 y1 y2 y3 y4 yf HRL HBL
      go_wp2_with fail
      exact ⟨⟨q + 1, _, by go_num, hlt, HIN⟩, by simp only [intOf]; omega⟩
    · have hqn : q = n := by omega
      subst hqn
      have hz : ¬ (q : Int) < (q : Int) := by omega
      have HRV : Hid (Rv wr w.heap.size gr vL nilV q (fun _ => z512) [] (-1)) := ⟨HI.out.blk, HI.out.row, ⟨[], ⟨rfl, .inl ⟨rfl, rfl⟩⟩, rfl, fun k hk => absurd hk (Nat.not_lt_zero _)⟩, fun _ hx => absurd hx List.not_mem_nil, ⟨by omega, by omega⟩, HN6.out, by rw [HGR.out]; exact Nat.le_refl _⟩
      have HB := hid HI.out.bel
      clear HI
      go_wp2_with fail
      go_ret2
      first
        | exact ⟨_, _, rfl, HRV.out, HB.out⟩
        | exact ⟨_, rfl, ⟨_, HRV.out⟩, HB.out⟩
end Go.Proofs.Ytldgiimkkgmgaaa
/-
  The document's Write.
-/
namespace Go.Proofs.Ytldgiimkkgmgaaa
open Go.RowKit

theorem RowW.push {W W' : World} {base : Nat} {v v' y : Value} {ys : List Value} {O : List (Int × List Int)} {x : Int × List Int} (h : W.ownsRow base 87 2 v O.length (wC O ys)) (hl : ys.length = O.length) (hx : ∀ k, k < O.length → Bk W (ys.getD k nilV) (O.getD k (0, [])).2) (hy : Bk W y x.2) (ho : W'.ownsRow base 87 2 v' (O.length + 1) (wC O ys ++ [.int .i64 x.1, y])) (hg : W.grownBy W' v.ownBlock) : RowW W' base v' (O ++ [x]) := by
  have h5 : ∀ (i : Nat) (cs : Array Value) (fr : Nat × Nat), W.heap[i]? = some (.cells cs 5 fr) → W'.heap[i]? = some (.cells cs 5 fr) := fun i cs fr hi => grown_obj h hg i _ hi (fun cs' e => by injection e with _ e; cases e)
  refine ⟨ys ++ [y], ?_, by simp [hl], fun k hk => ?_⟩
  · rw [wC_app O ys x y hl, List.length_append, List.length_singleton]
    exact ho
  · rw [List.length_append, List.length_singleton] at hk
    by_cases e : k < O.length
    · rw [show (ys ++ [y]).getD k nilV = ys.getD k nilV from by simp [List.getD, List.getElem?_append_left (show k < ys.length by omega)], show (O ++ [x]).getD k (0, []) = O.getD k (0, []) from by simp [List.getD, List.getElem?_append_left e]]
      exact (hx k e).keep h5
    · have e2 : k = O.length := by omega
      subst e2
      rw [show (ys ++ [y]).getD O.length nilV = y from by rw [← hl]; simp [List.getD], show (O ++ [x]).getD O.length (0, []) = x from by simp [List.getD]]
      exact hy.keep h5
theorem slice_two (a b : Value) (w : World) : (Instr.buildSlice 60 1 #[(0, .agg #[a, b])]).run Try.prog w = .ok (.slice (some ⟨w.heap.size, 0, none⟩) 1 1) (w.alloc (.cells #[a, b] 87)) := by
  obtain ⟨ie, hi, hz, hs, _⟩ := info_parts Try.info87
  refine run_buildSlice w 60 87 1 _ #[a, b] ie _ Try.underlying60 hi hz (by rw [hs]; decide) (by rw [hs]; decide) ?_
  rw [hs]
  have := Great.fill_whole (s := 2) (by decide) [.agg #[a, b]] ((Array.range (1 * 2)).map ((Value.agg #[.int .i64 0, .slice none 0 0]).cells[· % (Value.agg #[.int .i64 0, .slice none 0 0]).cells.size]!)) (fun u hu => by rw [List.mem_singleton] at hu; subst hu; rfl) (by simp)
  rw [show (([.agg #[a, b]] : List Value).zipIdx 0).map (fun x => (x.2, x.1)) = [(0, .agg #[a, b])] from rfl] at this
  show Instr.fill _ _ [(0, .agg #[a, b])] = _
  rw [this]
  simp [Value.cells]
/-- A row of bytes that the document's calls leave as it is. -/
def RxD (base : Nat) (w : World) (a : Option Addr) (cap : Nat) (zs : List Int) : Prop := ∀ W, FrD base w W → Ri W .u8 a cap zs
theorem RxD.low {base : Nat} {w0 w : World} {a : Option Addr} {cap : Nat} {zs : List Int} (hr : Ri w0 .u8 a cap zs) (hb : w0.heap.size = base) (hw : Below base w0 w) : RxD base w a cap zs := fun W hW => hr.later (by rw [hb]; exact hw.trans hW.bel)
def RwrPost (base gr : Nat) (vL : Value) (n : Nat) (L : Int → List Int) (O : List (Int × List Int)) (f i : Int) (zs : List Int) (w : World) (e : Ending) (w' : World) : Prop :=
  e = .returned (.int .i64 (wrC (n : Int) f i zs.length)) ∧ (∃ vW', Rv w' base gr vL vW' n L (wrO (n : Int) f i O zs) (wrF (n : Int) f i zs.length)) ∧ FrD base w w'
set_option maxHeartbeats 6400000 in
set_option maxRecDepth 100000 in
theorem rwrite_ref (base gr n : Nat) (vL vW : Value) (L : Int → List Int) (O : List (Int × List Int)) (f i : Int) (a : Option Addr) (cap : Nat) (zs : List Int) (w : World) (k : Rv w base gr vL vW n L O f) (hr : RxD base w a cap zs) (hO : O.length ≤ 60000) :
    Calls Try.prog 25 #[.pointer (some ⟨gr, 0, none⟩), .int .i64 i, .slice a zs.length cap] w (RwrPost base gr vL n L O f i zs w) := by
  unfold RwrPost
  have HA := hid (asked_ref base gr n vL vW L O f i w k)
  have HK := hid k
  have HR := hid hr
  by_cases hi : 0 ≤ i ∧ i < (n : Int)
  case neg =>
    have hc : wrC (n : Int) f i zs.length = 5 := if_neg hi
    rw [hc, show wrO (n : Int) f i O zs = O from if_neg (by rw [hc]; decide), show wrF (n : Int) f i zs.length = f from if_neg (by rw [hc]; decide)]
    rw [show hasE (n : Int) i = 5 from if_neg hi] at HA
    clear k hr hc
    go_enter Try.func25, Try.ntmps25
    go_wp2_with fail
    refine HA.out.mono ?_
    rintro _ w1 ⟨rfl, hw⟩
    obtain rfl := hw.symm
    clear hw HA
    go_wp2_with fail
    go_ret
    exact ⟨rfl, ⟨_, HK.out⟩, FrD.refl _ _⟩
  rw [show hasE (n : Int) i = 0 from if_pos hi] at HA
  obtain ⟨aW, cW, rfl⟩ := k.rowW.slice
  obtain ⟨_, c1, _, _, _⟩ := k.blk.cells
  by_cases hl : 512 < zs.length
  · have hc : wrC (n : Int) f i zs.length = 2 := by unfold wrC; rw [if_pos hi, if_pos hl]
    rw [hc, show wrO (n : Int) f i O zs = O from if_neg (by rw [hc]; decide), show wrF (n : Int) f i zs.length = f from if_neg (by rw [hc]; decide)]
    have hz : (512 : Int) < (zs.length : Int) := by omega
    clear k hr hc
    generalize zs.length = ln at *
    go_enter Try.func25, Try.ntmps25
    go_wp2_with fail
    refine HA.out.mono ?_
    rintro _ w1 ⟨rfl, hw⟩
    obtain rfl := hw.symm
    clear hw HA
    go_wp2_with fail
    go_ret
    exact ⟨rfl, ⟨_, HK.out⟩, FrD.refl _ _⟩
  have HPW := hid (power_ref base gr n vL _ L O f w k)
  have hz : ¬ (512 : Int) < (zs.length : Int) := by omega
  have ho : decide ((65536 : Int) ≤ (O.length : Int)) = false := by rw [decide_eq_false_iff_not]; omega
  have ho2 : decide (65536 ≤ O.length) = false := by rw [decide_eq_false_iff_not]; omega
  have hol : Hid (O.length ≤ 60000) := hO
  clear hO
  by_cases hf : f = 0
  · have hc : wrC (n : Int) f i zs.length = 92 := by unfold wrC; rw [if_pos hi, if_neg hl, if_pos hf]
    rw [hc, show wrO (n : Int) f i O zs = O from if_neg (by rw [hc]; decide), show wrF (n : Int) f i zs.length = f from if_neg (by rw [hc]; decide)]
    rw [show decide (f ≠ 0) = false from by simpa using hf, show burnF f = f from if_neg (by omega)] at HPW
    clear k hr hc HK
    generalize zs.length = ln at *
    obtain ⟨m, hm⟩ : ∃ m, m = O.length := ⟨_, rfl⟩
    rw [← hm] at c1 ho ho2 HPW
    clear hm hf hi
    go_enter Try.func25, Try.ntmps25
    go_wp2_with fail
    refine HA.out.mono ?_
    rintro _ w1 ⟨rfl, hw⟩
    obtain rfl := hw.symm
    clear hw HA
    go_wp2_with fail
    refine HPW.out.mono ?_
    rintro _ w2 ⟨rfl, hd, hfr⟩
    have HD := hid hd
    have HFR := hid hfr
    clear HPW hd hfr c1
    go_wp2_with fail
    go_ret
    exact ⟨rfl, ⟨_, HD.out⟩, HFR.out⟩
  have hc : wrC (n : Int) f i zs.length = 0 := by unfold wrC; rw [if_pos hi, if_neg hl, if_neg hf]
  rw [hc, show wrO (n : Int) f i O zs = O ++ [(i, wholeL zs)] from if_pos hc, show wrF (n : Int) f i zs.length = burnF f from if_pos hc]
  rw [show decide (f ≠ 0) = true from by simpa using hf] at HPW
  have HWB := hid (whole_blk (b := zs) (by omega) (fits_of (hr w (FrD.refl _ _))))
  have HWH : Hid (∀ W, FrD base w W → Calls Try.prog 15 #[.slice a zs.length cap] W (WhoPost zs W)) := fun W hW => whole_ref a cap zs W (HR.out W hW) (by omega)
  unfold WhoPost at HWH
  rw [HWB.out.len] at HWH
  have HOI : Hid (∀ x ∈ O ++ [(i, wholeL zs)], 0 ≤ x.1 ∧ x.1 < (n : Int)) := fun x hx => by
    rcases List.mem_append.1 hx with h | h
    · exact k.okO x h
    · rw [List.mem_singleton] at h; subst h; exact hi
  have HON : Hid (4 ≤ n ∧ n ≤ 4096) := k.okN
  have HBG := hid k.bg
  clear k hr hc HK
  generalize zs.length = ln at *
  obtain ⟨m, hm⟩ : ∃ m, m = O.length := ⟨_, rfl⟩
  have HM := hid hm
  rw [← hm] at c1 ho ho2 HPW
  clear hm hf hi
  go_enter Try.func25, Try.ntmps25
  go_wp2_with fail
  refine HA.out.mono ?_
  rintro _ w1 ⟨rfl, hw⟩
  obtain rfl := hw.symm
  clear hw HA
  go_wp2_with fail
  refine HPW.out.mono ?_
  rintro _ w2 ⟨rfl, hd, hfr⟩
  clear HPW c1
  go_wp2_with fail
  refine OrdE.region (fun W => Rc W gr vL (.slice aW m cW) false (burnF f)) 13 (by kernel_rfl) (show Rc w2.drew gr vL (.slice aW m cW) false (burnF f) from hd.blk) (fun hSS => ?_)
  have HD : Hid (Rv w2.drew base gr vL (.slice aW m cW) n L O (burnF f)) := ⟨hd.blk, hd.rowL, hd.rowW, hd.okO, hd.okF, hd.okN, hd.bg⟩
  have HFR : Hid (FrD base w w2.drew) := hfr.drew
  clear hd hfr
  generalize w2.drew = v0 at *
  refine OrdE.take (i := 0) (d := 26) (v := ?va0) rfl rfl rfl (by as_aux_lemma => kernel_rfl) (by as_aux_lemma => kernel_rfl) (by as_aux_lemma => kernel_rfl) (by as_aux_lemma => kernel_rfl) (fun _ _ _ h => h) (by rfl) ?ha0 (by assumption) ?_
  case ha0 => intro w hSw; go_simp; try with_reducible rfl
  simp only [List.setIfInBounds_toArray, List.set_cons_zero, List.set_cons_succ]
  refine OrdE.take (i := 1) (d := 27) (v := ?va1) rfl rfl rfl (by as_aux_lemma => kernel_rfl) (by as_aux_lemma => kernel_rfl) (by as_aux_lemma => kernel_rfl) (by as_aux_lemma => kernel_rfl) (fun _ _ _ h => h) (by rfl) ?ha1 (by assumption) ?_
  case ha1 => intro w hSw; go_simp; try with_reducible rfl
  simp only [List.setIfInBounds_toArray, List.set_cons_zero, List.set_cons_succ]
  refine OrdE.take (i := 2) (d := 28) (v := ?va2) rfl rfl rfl (by as_aux_lemma => kernel_rfl) (by as_aux_lemma => kernel_rfl) (by as_aux_lemma => kernel_rfl) (by as_aux_lemma => kernel_rfl) (fun _ _ _ h => h) (by rfl) ?ha2 (by assumption) ?_
  case ha2 => intro w hSw; go_simp; try with_reducible rfl
  simp only [List.setIfInBounds_toArray, List.set_cons_zero, List.set_cons_succ]
  refine OrdE.take (i := 3) (d := 29) (v := ?va3) rfl rfl rfl (by as_aux_lemma => kernel_rfl) (by as_aux_lemma => kernel_rfl) (by as_aux_lemma => kernel_rfl) (by as_aux_lemma => kernel_rfl) (fun _ _ _ h => h) (by rfl) ?ha3 (by assumption) ?_
  case ha3 => intro w hSw; go_simp; try with_reducible rfl
  simp only [List.setIfInBounds_toArray, List.set_cons_zero, List.set_cons_succ]
  refine OrdE.take (i := 4) (d := 30) (v := .slice aW m cW) rfl rfl rfl (by as_aux_lemma => kernel_rfl) (by as_aux_lemma => kernel_rfl) (by as_aux_lemma => kernel_rfl) (by as_aux_lemma => kernel_rfl) (fun _ _ _ h => h) (by rfl) ?ha4 (by assumption) ?_
  case ha4 => intro w hSw; obtain ⟨q0, q1, q2, q3, q4⟩ := hSw.cells; go_simp; try with_reducible rfl
  simp only [List.setIfInBounds_toArray, List.set_cons_zero, List.set_cons_succ]
  refine OrdE.take (i := 5) (d := 31) (v := ?va5) rfl rfl rfl (by as_aux_lemma => kernel_rfl) (by as_aux_lemma => kernel_rfl) (by as_aux_lemma => kernel_rfl) (by as_aux_lemma => kernel_rfl) (fun _ _ _ h => h) (by rfl) ?ha5 (by assumption) ?_
  case ha5 => intro w hSw; go_simp; try with_reducible rfl
  simp only [List.setIfInBounds_toArray, List.set_cons_zero, List.set_cons_succ]
  refine OrdE.take (i := 6) (d := 32) (v := ?va6) rfl rfl rfl (by as_aux_lemma => kernel_rfl) (by as_aux_lemma => kernel_rfl) (by as_aux_lemma => kernel_rfl) (by as_aux_lemma => kernel_rfl) (fun _ _ _ h => h) (by rfl) ?ha6 (by assumption) ?_
  case ha6 => intro w hSw; go_simp; try with_reducible rfl
  simp only [List.setIfInBounds_toArray, List.set_cons_zero, List.set_cons_succ]
  refine OrdE.one (i := 7) (by as_aux_lemma => kernel_rfl) rfl (fun K hK => ?_)
  go_simp
  refine (HWH.out v0 HFR.out).mono ?_
  rintro _ v1 ⟨yv, rfl, hown, hb1⟩
  have hS5 : Rc v1 gr vL (.slice aW m cW) false (burnF f) := (hb1.block gr hSS.lt).trans hSS
  refine hK.out _ _ (fun _ => hS5) ?_
  clear hK K
  try refine OrdE.put (d := 33) rfl ?_
  try simp only [List.setIfInBounds_toArray, List.set_cons_zero, List.set_cons_succ]
  have HBK := hid (Bk.own hown HWB.out)
  have HR1 := hid (HD.out.below hb1)
  have HF1 := hid (HFR.out.trans (FrD.of_below hb1 HD.out.size))
  have hy1 := HBK.out.one
  clear hown hb1 hSS HD HFR HWH
  refine OrdE.take (i := 8) (d := 34) (v := .agg #[.int .i64 i, yv]) rfl rfl rfl (by as_aux_lemma => kernel_rfl) (by as_aux_lemma => kernel_rfl) (by as_aux_lemma => kernel_rfl) (by as_aux_lemma => kernel_rfl) (fun _ _ _ h => h) (by rfl) ?ha8 (by assumption) ?_
  case ha8 => intro w hSw; obtain ⟨g9, c9, e9, _⟩ := HBK.out.ri; subst e9; go_simp; try with_reducible rfl
  simp only [List.setIfInBounds_toArray, List.set_cons_zero, List.set_cons_succ]
  have hbs := slice_two (.int .i64 i) yv v1
  refine OrdE.one (i := 9) (by as_aux_lemma => kernel_rfl) rfl (fun K hK => ?_)
  rw [if_pos (by rfl)]
  refine wp_bslice 60 1 (.tmp 34) rfl (.agg #[.int .i64 i, yv]) _ rfl hbs ?_
  have hA : Below v1.heap.size v1 (v1.alloc (.cells #[.int .i64 i, yv] 87)) := bel_alloc v1 _
  have hS6 : Rc (v1.alloc (.cells #[.int .i64 i, yv] 87)) gr vL (.slice aW m cW) false (burnF f) := (hA.block gr hS5.lt).trans hS5
  refine hK.out _ _ (fun _ => hS6) ?_
  clear hK K
  try refine OrdE.put (d := 35) rfl ?_
  try simp only [List.setIfInBounds_toArray, List.set_cons_zero, List.set_cons_succ]
  have HR2 := hid (HR1.out.below hA)
  have HK2 := hid (HBK.out.keep (fun i cs fr hi => (hA.block i (Array.getElem?_eq_some_iff.1 hi).1).trans hi))
  have HF2 := hid (HF1.out.trans (FrD.of_below hA HR1.out.size))
  have HNW : Hid (∀ (j : Nat) (u : Value), ([.int .i64 i, yv] : List Value)[j]? = some u → (v1.alloc (.cells #[.int .i64 i, yv] 87)).cell? (Addr.add ⟨v1.heap.size, 0, none⟩ j) = some u) := fun j u hu => by
    rw [Go.WideShapes.add_plain, Nat.zero_add, Joins.cell_of_block (heap_new v1 _) j]
    simpa using hu
  obtain ⟨ys, hyo, hyl, hyb⟩ := HR2.out.rowW
  have hsz2 := HR2.out.size
  obtain ⟨i0, hi0, hz0, hz1, hz2⟩ := info_parts Try.info87
  rw [← HM.out] at hyo
  clear hA hS5 hbs HR1 HBK HF1
  generalize v1.alloc (.cells #[.int .i64 i, yv] 87) = v2 at *
  refine OrdE.one (i := 10) (by as_aux_lemma => kernel_rfl) rfl (fun K hK => ?_)
  rw [if_pos (by rfl)]
  refine wp_append_own v2 (.tmp 30) (.tmp 35) 60 rfl base 87 i0 _ 2 32 Try.underlying60 hi0 hz0 hz1 hz2 rfl (by decide) _ m (wC O ys) rfl hyo ⟨v1.heap.size, 0, none⟩ 1 1 [.int .i64 i, yv] rfl rfl HNW.out (by intro u hu; rcases List.mem_cons.1 hu with rfl | hu; rfl; rw [List.mem_singleton] at hu; subst hu; exact hy1) (by have := hol.out; have := HM.out; unfold maxLen; omega) (by have := hol.out; have := HM.out; omega) hsz2 (fun v' w3 hown hgrow _ => ?_)
  have hS7 : Rc w3 gr vL (.slice aW m cW) false (burnF f) := grown_obj hyo hgrow gr _ hS6 (fun cs e => by injection e with _ e; cases e)
  refine hK.out _ _ (fun _ => hS7) ?_
  clear hK K
  try refine OrdE.put (d := 36) rfl ?_
  try simp only [List.setIfInBounds_toArray, List.set_cons_zero, List.set_cons_succ]
  obtain ⟨a3, c3, rfl⟩ := own_slice hown
  have HRW : Hid (RowW w3 base (.slice a3 (m + 1) c3) (O ++ [(i, wholeL zs)])) := by
    rw [HM.out] at hyo hown hgrow
    rw [HM.out]
    exact RowW.push hyo hyl hyb HK2.out hown hgrow
  have HFD := hid (HF2.out.trans (grown_frd hyo (.inr rfl) hgrow hsz2))
  have HRL : Hid (RowL w3 base vL n L) := HR2.out.rowL.keep (fun i cs hi => grown_obj hyo hgrow i _ hi (fun cs' e => by injection e with _ e; cases e)) (fun i cs fr hi => grown_obj hyo hgrow i _ hi (fun cs' e => by injection e with _ e; cases e))
  have HOF := hid HR2.out.okF
  obtain ⟨y0, y1, y2, y3, y4⟩ := hS7.cells
  have yf := hS7.unfrozen 1
  clear hown hgrow hS6 HNW hyo hyl hyb HR2 HK2 HF2
  refine OrdE.one (i := 11) (by as_aux_lemma => kernel_rfl) rfl (fun K hK => ?_)
  go_simp
  refine hK.out _ _ (fun _ => hS7) ?_
  clear hK K
  try refine OrdE.put (d := 37) rfl ?_
  try simp only [List.setIfInBounds_toArray, List.set_cons_zero, List.set_cons_succ]
  refine OrdE.one (i := 12) (by as_aux_lemma => kernel_rfl) rfl (fun K hK => ?_)
  go_simp
  refine hK.out _ _ (fun _ => hS7) ?_
  clear hK K
  try refine OrdE.put (d := 38) rfl ?_
  try simp only [List.setIfInBounds_toArray, List.set_cons_zero, List.set_cons_succ]
  refine OrdE.one (i := 13) (by as_aux_lemma => kernel_rfl) rfl (fun K hK => ?_)
  go_simp
  refine hK.out _ _ (fun h => absurd rfl h) ?_
  clear hK K
  try simp only [List.setIfInBounds_toArray, List.set_cons_zero, List.set_cons_succ]
  refine OrdE.done (by as_aux_lemma => kernel_rfl) ?_ _
  have HFIN : Hid (Rv (w3.setCell ⟨gr, 1, none⟩ (.slice a3 (m + 1) c3)) base gr vL (.slice a3 (m + 1) c3) n L (O ++ [(i, wholeL zs)]) (burnF f) ∧ FrD base w (w3.setCell ⟨gr, 1, none⟩ (.slice a3 (m + 1) c3))) := by
    obtain ⟨h5, h6⟩ := rc_set hS7 HBG.out 1 (.slice a3 (m + 1) c3)
    exact ⟨⟨hS7.put.2.1 _, HRL.out.keep (fun i cs hi => (h5 i (hS7.ne5 hi (by decide))).trans hi) (fun i cs fr hi => (h5 i (hS7.ne5 hi (by decide))).trans hi), HRW.out.keep (fun i cs hi => (h5 i (hS7.ne5 hi (by decide))).trans hi) (fun i cs fr hi => (h5 i (hS7.ne5 hi (by decide))).trans hi), HOI.out, HOF.out, HON.out, HBG.out⟩, HFD.out.trans h6⟩
  clear hS7 y0 y1 y2 y3 y4 yf HRL HRW HFD
  go_wp2_with fail
  go_ret
  exact ⟨rfl, ⟨_, HFIN.out.1⟩, HFIN.out.2⟩
end Go.Proofs.Ytldgiimkkgmgaaa
