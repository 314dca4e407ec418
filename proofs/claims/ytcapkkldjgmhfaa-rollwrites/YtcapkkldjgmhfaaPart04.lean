/-
  A cutter in memory: made, Left, cut, Close.
-/
import Derived.Test.YtcapkkldjgmhfaaPart03
import Derived.Laws.AppendOwnNone
import Derived.Test.YtcapkkldjgmhfaaPart00
import Derived.Great.FillDense
import Derived.Laws.CopyOwn
namespace Go.Proofs.Ytcapkkldjgmhfaa
open Go.RowKit

/-- A cutter's cells: its settings, what is begun, its row. -/
def cuL (l m b s h : Int) (R : List Int) : List Value := [.int .i64 l, .int .i64 m, .int .i64 b, .int .i64 s, .int .u64 h] ++ R.map (Value.int .u8)
structure Cu (W : World) (g : Nat) (l m b s h : Int) (R : List Int) : Prop where
  blk : W.heap[g]? = some (.cells (cuL l m b s h R).toArray 71 (0, 0))
  len : R.length = 4096
  fits : ∀ j, 0 ≤ R.getD j 0 ∧ R.getD j 0 ≤ 255
theorem Cu.lt {W : World} {g : Nat} {l m b s h : Int} {R : List Int} (k : Cu W g l m b s h R) : g < W.heap.size := (Array.getElem?_eq_some_iff.1 k.blk).1
theorem Cu.later {W W' : World} {g : Nat} {l m b s h : Int} {R : List Int} (k : Cu W g l m b s h R) (hb : W'.heap[g]? = W.heap[g]?) : Cu W' g l m b s h R := ⟨hb.trans k.blk, k.len, k.fits⟩
theorem Cu.cells {W : World} {g : Nat} {l m b s h : Int} {R : List Int} (k : Cu W g l m b s h R) : W.cell? ⟨g, 0, none⟩ = some (.int .i64 l) ∧ W.cell? ⟨g, 1, none⟩ = some (.int .i64 m) ∧ W.cell? ⟨g, 2, none⟩ = some (.int .i64 b) ∧ W.cell? ⟨g, 3, none⟩ = some (.int .i64 s) ∧ W.cell? ⟨g, 4, none⟩ = some (.int .u64 h) :=
  ⟨Joins.cell_of_block k.blk 0, Joins.cell_of_block k.blk 1, Joins.cell_of_block k.blk 2, Joins.cell_of_block k.blk 3, Joins.cell_of_block k.blk 4⟩
theorem Cu.ri {W : World} {g : Nat} {l m b s h : Int} {R : List Int} (k : Cu W g l m b s h R) (n : Nat) (hn : n ≤ 4096) : Ri W .u8 (some ⟨g, 5, none⟩) 4096 (R.take n) := by
  refine ⟨by rw [List.length_take]; omega, by unfold maxLen; omega, fun _ => ⟨g, 5, rfl, k.lt, fun j hj => ?_⟩, fun j => ?_⟩
  · rw [List.length_take, k.len] at hj
    rw [Joins.cell_of_block k.blk (5 + j)]
    have hjl : j < R.length := by rw [k.len]; omega
    rw [List.getElem?_toArray, cuL, List.getElem?_append_right (by simp), List.getElem?_map]
    simp only [List.length_cons, List.length_nil, Nat.zero_add, Nat.reduceAdd, Nat.add_sub_cancel_left]
    rw [List.getElem?_eq_getElem hjl]
    simp [List.getD, List.getElem?_take_of_lt (show j < n by omega), List.getElem?_eq_getElem hjl]
  · by_cases hj : j < n
    · rw [getD_take _ _ _ hj]; exact wf_mk_u8 (k.fits j).1 (k.fits j).2
    · rw [getD_take_out _ _ _ hj]; exact wf_zero _
/-- What is begun, written. -/
theorem Cu.put {W : World} {g : Nat} {l m b s h : Int} {R : List Int} (k : Cu W g l m b s h R) (s' h' : Int) : Cu ((W.setCell ⟨g, 3, none⟩ (.int .i64 s')).setCell ⟨g, 4, none⟩ (.int .u64 h')) g l m b s' h' R := by
  refine ⟨?_, k.len, k.fits⟩
  rw [Joins.block_setCell (Joins.block_setCell k.blk _) _]
  simp [cuL]
theorem Cu.unfrozen {W : World} {g : Nat} {l m b s h : Int} {R : List Int} (k : Cu W g l m b s h R) (i : Nat) : W.frozen? ⟨g, i, none⟩ = false := Joins.unfrozen_of_block k.blk i
/-- Only block g was turned, of what there was. -/
structure But1 (g : Nat) (w w' : World) : Prop where
  bel : Below 0 w w'
  same : ∀ i, i < w.heap.size → i ≠ g → w'.heap[i]? = w.heap[i]?
theorem But1.of_below {g : Nat} {w w' : World} (h : Below w.heap.size w w') : But1 g w w' := ⟨h.mono (Nat.zero_le _), fun i hi _ => h.block i hi⟩
theorem But1.trans {g : Nat} {a b c : World} (h : But1 g a b) (k : But1 g b c) : But1 g a c := ⟨h.bel.trans k.bel, fun i hi hn => (k.same i (Nat.lt_of_lt_of_le hi h.bel.size) hn).trans (h.same i hi hn)⟩
theorem But1.set {g i : Nat} {w w' : World} (h : But1 g w w') (v : Value) : But1 g w (w'.setCell ⟨g, i, none⟩ v) := ⟨h.bel.setCell (Nat.zero_le _) v, fun j hj hn => (Below.heap_setCell w' ⟨g, i, none⟩ v j hn).trans (h.same j hj hn)⟩

theorem made_ok (g : Nat) (l m b s h : Int) (R : List Int) (w : World) (k : Cu w g l m b s h R) (hc : chkC l m b = 0) : Calls Try.prog 33 #[.pointer (some ⟨g, 0, none⟩)] w fun e w' => e = .returned (.bool true) ∧ Below w.heap.size w w' := by
  obtain ⟨c0, c1, c2, _, _⟩ := k.cells
  have HCK := hid (check_word l m b w)
  rw [hc] at HCK
  clear k hc
  go_enter Try.func33, Try.ntmps33
  go_wp2_with fail
  refine HCK.out.mono ?_
  rintro _ w1 ⟨rfl, hb⟩
  have HB := hid hb
  clear hb c0 c1 c2
  go_wp2_with fail
  go_ret
  exact ⟨rfl, HB.out⟩
theorem left_ok (g : Nat) (l m b s h : Int) (R : List Int) (w : World) (k : Cu w g l m b s h R) (hc : chkC l m b = 0) : Calls Try.prog 24 #[.pointer (some ⟨g, 0, none⟩)] w fun e w' => e = .returned (.int .i64 s) ∧ Below w.heap.size w w' := by
  have HM := hid (made_ok g l m b s h R w k hc)
  have HK := hid k
  clear k hc
  go_enter Try.func24, Try.ntmps24
  go_wp2_with fail
  refine HM.out.mono ?_
  rintro _ w1 ⟨rfl, hb⟩
  obtain ⟨_, _, _, c3, _⟩ := (HK.out.later (hb.block g HK.out.lt)).cells
  have HB := hid hb
  clear hb
  go_wp2_with fail
  go_ret
  exact ⟨rfl, HB.out⟩
theorem Try.info5c : (Try.prog.info? 5).map (fun i => (i.zero, i.size, i.bytes)) = some (some (.int .u8 0), 1, 1) := by kernel_rfl
end Go.Proofs.Ytcapkkldjgmhfaa
/-
  What is left is taken off a cutter: cut, Close.
-/
namespace Go.Proofs.Ytcapkkldjgmhfaa
open Go.RowKit

def CutcPost (g : Nat) (l m b : Int) (R : List Int) (n : Nat) (w : World) (e : Ending) (w' : World) : Prop :=
  ∃ v, e = .returned v ∧ w'.ownsRow w.heap.size 5 1 v n ((R.take n).map (Value.int .u8)) ∧ Cu w' g l m b 0 0 R ∧ But1 g w w'
theorem grown_set (W : World) (b i : Nat) (v : Value) : W.grownBy (W.setCell ⟨b, i, none⟩ v) (some b) :=
  ⟨rfl, rfl, rfl, (KeepsWalks.setCell W _ v).size, fun k _ hk => Below.heap_setCell _ _ _ k (fun e => hk (by rw [e]))⟩
set_option maxHeartbeats 6400000 in
set_option maxRecDepth 100000 in
theorem cut_ok (g : Nat) (l m b h : Int) (n : Nat) (R : List Int) (w : World) (k : Cu w g l m b (n : Int) h R) (hn : n ≤ 4096) : Calls Try.prog 34 #[.pointer (some ⟨g, 0, none⟩)] w (CutcPost g l m b R n w) := by
  unfold CutcPost
  obtain ⟨i0, hi, hz0, hz1, hz2⟩ := info_parts Try.info5c
  have HK := hid k
  have hS0 : Cu w.drew g l m b (n : Int) h R := k.later rfl
  have hnz : (n : Int) ≤ 4096 := by omega
  have hn0 : (0 : Int) ≤ (n : Int) := by omega
  have HLT := hid k.lt
  clear k
  go_enter Try.func34, Try.ntmps34
  go_wp2_with fail
  refine wp_region_held_drew (S := fun W => Cu W g l m b (n : Int) h R) (by kernel_rfl) hS0 (fun hS => ?_)
  have hbD : Below w.heap.size w w.drew := (Below.refl _ _).drew
  have HBD := hid hbD
  have HSZ : Hid (w.drew.heap.size = w.heap.size) := rfl
  clear hS0 hbD
  generalize w.drew = wD at *
  refine Ord.take (i := 0) (d := 4) (v := ?v0) rfl rfl (by as_aux_lemma => kernel_rfl) (by as_aux_lemma => kernel_rfl) (by as_aux_lemma => kernel_rfl) (fun _ _ _ h => h) (by rfl) ?h0 (by assumption) ?_
  case h0 => intro w hSw; go_simp; try with_reducible rfl
  simp only [List.setIfInBounds_toArray, List.set_cons_zero, List.set_cons_succ]
  refine Ord.take (i := 1) (d := 5) (v := ?v1) rfl rfl (by as_aux_lemma => kernel_rfl) (by as_aux_lemma => kernel_rfl) (by as_aux_lemma => kernel_rfl) (fun _ _ _ h => h) (by rfl) ?h1 (by assumption) ?_
  case h1 => intro w hSw; go_simp; try with_reducible rfl
  simp only [List.setIfInBounds_toArray, List.set_cons_zero, List.set_cons_succ]
  refine Ord.take (i := 2) (d := 6) (v := ?v2) rfl rfl (by as_aux_lemma => kernel_rfl) (by as_aux_lemma => kernel_rfl) (by as_aux_lemma => kernel_rfl) (fun _ _ _ h => h) (by rfl) ?h2 (by assumption) ?_
  case h2 => intro w hSw; go_simp; try with_reducible rfl
  simp only [List.setIfInBounds_toArray, List.set_cons_zero, List.set_cons_succ]
  refine Ord.take (i := 3) (d := 7) (v := ?v3) rfl rfl (by as_aux_lemma => kernel_rfl) (by as_aux_lemma => kernel_rfl) (by as_aux_lemma => kernel_rfl) (fun _ _ _ h => h) (by rfl) ?h3 (by assumption) ?_
  case h3 => intro w hSw; go_simp; try with_reducible rfl
  simp only [List.setIfInBounds_toArray, List.set_cons_zero, List.set_cons_succ]
  refine Ord.take (i := 4) (d := 8) (v := ?v4) rfl rfl (by as_aux_lemma => kernel_rfl) (by as_aux_lemma => kernel_rfl) (by as_aux_lemma => kernel_rfl) (fun _ _ _ h => h) (by rfl) ?h4 (by assumption) ?_
  case h4 => intro w hSw; go_simp; try with_reducible rfl
  simp only [List.setIfInBounds_toArray, List.set_cons_zero, List.set_cons_succ]
  refine Ord.take (i := 5) (d := 9) (v := ?v5) rfl rfl (by as_aux_lemma => kernel_rfl) (by as_aux_lemma => kernel_rfl) (by as_aux_lemma => kernel_rfl) (fun _ _ _ h => h) (by rfl) ?h5 (by assumption) ?_
  case h5 => intro w hSw; go_simp; try with_reducible rfl
  simp only [List.setIfInBounds_toArray, List.set_cons_zero, List.set_cons_succ]
  refine Ord.take (i := 6) (d := 10) (v := ?v6) rfl rfl (by as_aux_lemma => kernel_rfl) (by as_aux_lemma => kernel_rfl) (by as_aux_lemma => kernel_rfl) (fun _ _ _ h => h) (by rfl) ?h6 (by assumption) ?_
  case h6 => intro w hSw; go_simp; try with_reducible rfl
  simp only [List.setIfInBounds_toArray, List.set_cons_zero, List.set_cons_succ]
  refine Ord.take (i := 7) (d := 11) (v := .int .i64 (n : Int)) rfl rfl (by as_aux_lemma => kernel_rfl) (by as_aux_lemma => kernel_rfl) (by as_aux_lemma => kernel_rfl) (fun _ _ _ h => h) (by rfl) ?h7 (by assumption) ?_
  case h7 => intro w hSw; obtain ⟨q0, q1, q2, q3, q4⟩ := hSw.cells; go_simp; try with_reducible rfl
  simp only [List.setIfInBounds_toArray, List.set_cons_zero, List.set_cons_succ]
  refine Ord.take (i := 8) (d := 12) (v := ?v8) rfl rfl (by as_aux_lemma => kernel_rfl) (by as_aux_lemma => kernel_rfl) (by as_aux_lemma => kernel_rfl) (fun _ _ _ h => h) (by rfl) ?h8 (by assumption) ?_
  case h8 => intro w hSw; go_simp; try with_reducible rfl
  simp only [List.setIfInBounds_toArray, List.set_cons_zero, List.set_cons_succ]
  have hri := hS.ri n hn
  have hrl : (R.take n).length = n := by rw [List.length_take, hS.len]; omega
  refine wpAnyH_ready (rs := [9]) (by as_aux_lemma => kernel_rfl) (by simp) (AllReadyH.cons rfl (fun K hK => ?_) AllReadyH.nil)
  rw [if_pos (by rfl)]
  refine wp_append_own wD (.const (.slice none 0 0)) (.tmp 12) 25 rfl wD.heap.size 5 i0 (.int .u8 0) 1 1 Try.underlying25 hi hz0 hz1 hz2 rfl (by decide) (.slice none 0 0) 0 [] rfl (nil_own _ _ _) ⟨g, 5, none⟩ n 4096 ((R.take n).map (Value.int .u8)) rfl (by rw [List.length_map, hrl, Nat.mul_one]) ?c1 ?c2 (by unfold maxLen; omega) (by omega) (Nat.le_refl _) ?_
  case c1 =>
    intro j u hj
    rw [List.getElem?_map] at hj
    by_cases hjn : j < n
    · obtain ⟨b', off', e', _, hc'⟩ := hri.cells (by rw [hrl]; omega)
      cases e'
      have := hc' j (by rw [hrl]; exact hjn)
      rw [Go.WideShapes.add_plain, this, ← hj]
      simp [List.getD, List.getElem?_eq_getElem (show j < (R.take n).length by rw [hrl]; exact hjn)]
    · rw [List.getElem?_eq_none (by rw [hrl]; omega)] at hj
      cases hj
  case c2 =>
    intro u hu
    obtain ⟨z, _, rfl⟩ := List.mem_map.1 hu
    rfl
  intro v1 w1 hown hgrow _
  rw [Nat.zero_add, List.nil_append] at hown
  have hb1 : Below wD.heap.size wD w1 := (Below.refl wD.heap.size wD).grown hgrow (Nat.le_refl _) (fun j e => by simp [Value.ownBlock] at e)
  have hS1 := hS.later (hb1.block g hS.lt)
  refine hK.out _ _ hS1 (fun _ => ?_)
  clear hK K
  have HK1 := hid hS1
  have HOW := hid hown
  have HB1 := hid (Bn HBD.out hb1)
  clear hown hgrow hb1 hS hri
  try refine Ord.put (d := 13) rfl ?_
  try simp only [List.setIfInBounds_toArray, List.set_cons_zero, List.set_cons_succ]
  refine Ord.take (i := 10) (d := 3) (v := ?v10) rfl rfl (by as_aux_lemma => kernel_rfl) (by as_aux_lemma => kernel_rfl) (by as_aux_lemma => kernel_rfl) (fun _ _ _ h => h) (by rfl) ?h10 (by assumption) ?_
  case h10 => intro w hSw; go_simp; try with_reducible rfl
  simp only [List.setIfInBounds_toArray, List.set_cons_zero, List.set_cons_succ]
  refine wpAnyH_done (by as_aux_lemma => kernel_rfl) ?_ _
  obtain ⟨_, _, _, d3, d4⟩ := hS1.cells
  have f3 := hS1.unfrozen 3
  have f4 := hS1.unfrozen 4
  have hP := hS1.put 0 0
  have HP := hid hP
  have HBT := hid (((But1.of_below (g := g) HB1.out).set (i := 3) (.int .i64 0)).set (i := 4) (.int .u64 0))
  have HO2 : Hid (((w1.setCell ⟨g, 3, none⟩ (.int .i64 0)).setCell ⟨g, 4, none⟩ (.int .u64 0)).ownsRow w.heap.size 5 1 v1 n ((R.take n).map (Value.int .u8))) := by
    show World.ownsRow _ _ _ _ _ _ _
    rw [← HSZ.out]
    have hne : v1.ownBlock = none ∨ some g ≠ v1.ownBlock := by
      rcases HOW.out.2 with ⟨rfl, _⟩ | ⟨gg, cp, cur, rfl, hbase, _, _⟩
      · exact .inl rfl
      · refine .inr (fun e => ?_)
        have e' : g = gg := by simpa [Value.ownBlock] using e
        have := HLT.out
        have := HSZ.out
        omega
    refine (HOW.out.kept (grown_set w1 g 3 (.int .i64 0)) ?_).kept (grown_set _ g 4 (.int .u64 0)) ?_
    · rcases hne with h | h
      · exact .inl h
      · exact .inr (fun e => h e.symm)
    · rcases hne with h | h
      · exact .inl h
      · exact .inr (fun e => h e.symm)
  clear hS1 hP HK1 HOW
  go_wp2_with fail
  go_ret
  refine ⟨v1, rfl, ?_, HP.out, HBT.out⟩
  rw [← List.map_take]
  exact HO2.out
end Go.Proofs.Ytcapkkldjgmhfaa
/-
  Close: what is left is told, the cutter has nothing then.
-/
namespace Go.Proofs.Ytcapkkldjgmhfaa
open Go.RowKit

def CloPost (g : Nat) (l m b : Int) (R : List Int) (n : Nat) (w : World) (e : Ending) (w' : World) : Prop :=
  ∃ v, e = .returned (.tuple #[v, .int .i64 0]) ∧ w'.ownsRow w.heap.size 5 1 v n ((R.take n).map (Value.int .u8)) ∧ Cu w' g l m b 0 0 R ∧ But1 g w w'
theorem own_mono {w : World} {n n' e s : Nat} {v : Value} {k : Nat} {xs : List Value} (h : w.ownsRow n e s v k xs) (hn : n' ≤ n) : w.ownsRow n' e s v k xs := by
  rcases h with ⟨h1, h2 | ⟨gg, cp, cur, h3, h4, h5⟩⟩
  · exact ⟨h1, .inl h2⟩
  · exact ⟨h1, .inr ⟨gg, cp, cur, h3, Nat.le_trans hn h4, h5⟩⟩
theorem close_ok (g : Nat) (l m b h : Int) (n : Nat) (R : List Int) (w : World) (k : Cu w g l m b (n : Int) h R) (hn : n ≤ 4096) (hc : chkC l m b = 0) : Calls Try.prog 22 #[.pointer (some ⟨g, 0, none⟩)] w (CloPost g l m b R n w) := by
  unfold CloPost
  have HM := hid (made_ok g l m b n h R w k hc)
  have HK := hid k
  clear k hc
  go_enter Try.func22, Try.ntmps22
  go_wp2_with fail
  refine HM.out.mono ?_
  rintro _ w1 ⟨rfl, hb⟩
  have HC := hid (cut_ok g l m b h n R w1 (HK.out.later (hb.block g HK.out.lt)) hn)
  have HB := hid hb
  clear hb
  go_wp2_with fail
  refine HC.out.mono ?_
  rintro _ w2 ⟨v, rfl, hown, hcu, hbt⟩
  have HO := hid hown
  have HCU := hid hcu
  have HBT := hid hbt
  clear hown hcu hbt
  go_wp2_with fail
  go_ret2
  exact ⟨v, rfl, own_mono HO.out HB.out.size, HCU.out, (But1.of_below HB.out).trans HBT.out⟩
end Go.Proofs.Ytcapkkldjgmhfaa
/-
  New makes a cutter that has nothing.
-/
namespace Go.Proofs.Ytcapkkldjgmhfaa
open Go.RowKit

/-- A cutter's row that nothing was written to. -/
def z4 : List Int := List.replicate 4096 0
theorem z4_len : z4.length = 4096 := List.length_replicate ..
theorem z4_fits (j : Nat) : 0 ≤ z4.getD j 0 ∧ z4.getD j 0 ≤ 255 := by
  have : z4.getD j 0 = 0 := by
    unfold z4 List.getD
    rw [List.getElem?_replicate]
    split <;> rfl
  omega
theorem Try.zeros71 : (Try.prog.info? 71).map (fun i => (i.zero, i.size)) = some (some (.agg (cuL 0 0 0 0 0 z4).toArray), 4101) := by kernel_rfl
theorem Try.zero71 (w : World) : (zeroValue 71).run Try.prog w = .ok (.agg (cuL 0 0 0 0 0 z4).toArray) w := by
  have h := Try.zeros71
  cases hi : Try.prog.info? 71 with
  | none => rw [hi] at h; cases h
  | some i =>
    rw [hi] at h
    simp only [Option.map_some, Option.some.injEq, Prod.mk.injEq] at h
    simp [zeroValue, typeInfo, hi, h.1]
theorem build_cu (l m b : Int) (w : World) : (Instr.build 71 #[(0, .agg #[.int .i64 l, .int .i64 m, .int .i64 b])]).run Try.prog w = .ok (.agg (cuL l m b 0 0 z4).toArray) w := by
  have hz := Try.zero71
  have hl := z4_len
  generalize z4 = R at hz hl
  unfold Instr.build
  simp only [Sem.run_bind, hz, run_underlying Try.underlying71, Result.andThen_ok, Value.cells]
  have hm : ∀ (w : World), (Array.mapM (m := Sem) (fun (f : Field) => do
              let s ← sizeOf f.type
              pure (f.offset, s))
            #[{ name := "conf", type := 23, offset := 0, embedded := false, tag := "", pkgPath := "saltern/roll",
                byteOffset := 0 },
              { name := "open", type := 61, offset := 3, embedded := false, tag := "", pkgPath := "saltern/roll",
                byteOffset := 24 },
              { name := "row", type := 69, offset := 5, embedded := false, tag := "", pkgPath := "saltern/roll",
                byteOffset := 40 }]).run Try.prog w = .ok #[(0, 3), (3, 2), (5, 4096)] w := fun w => by kernel_rfl
  rw [hm]
  simp [Instr.fill, Value.cells, cuL, go_sem]
/-- A struct built out of one part that is known. -/
theorem wpList_build_one {P : Program} {ops : Array Oper} {rest : List Oper} {o : Oper} {a : Act} {w : World} {Q : Exit → Act → World → Prop} (hg : o.guard = none) (t : TypeId) (x0 : Operand) (ho : o.op = .build t #[(0, x0)])
    (v0 v : Value) (h0 : a.eval x0 = v0) (hr : (Instr.build t #[(0, v0)]).run P w = .ok v w) (h : wpList P ops Q rest (a.put o.dst v) w) : wpList P ops Q (o :: rest) a w :=
  wpList_plain hg fun _ hK => by
    unfold Oper.wp execOp
    simp only [ho, List.map_toArray, List.map_cons, List.map_nil, h0, Sem.run_bind, hr, Result.andThen_ok]
    exact hK _ _ h
theorem new_no (l m b : Int) (w : World) (hc : chkC l m b ≠ 0) : Calls Try.prog 21 #[.agg #[.int .i64 l, .int .i64 m, .int .i64 b]] w fun e w' => e = .returned (.tuple #[.pointer none, .int .i64 (chkC l m b)]) ∧ Below w.heap.size w w' := by
  have hbA := bel_alloc w (.cells #[.int .i64 l, .int .i64 m, .int .i64 b] 23)
  have HB0 := hid hbA
  have HCK := hid (check_word l m b (w.alloc (.cells #[.int .i64 l, .int .i64 m, .int .i64 b] 23)))
  generalize chkC l m b = c at *
  clear hbA
  go_enter Try.func21, Try.ntmps21
  go_wp2_with fail
  refine HCK.out.mono ?_
  rintro _ w1 ⟨rfl, hb⟩
  have HB := hid (Bn HB0.out hb)
  clear hb HB0 HCK
  go_wp2_with fail
  go_ret2
  exact ⟨rfl, HB.out⟩
def NewPost (l m b : Int) (w : World) (e : Ending) (w' : World) : Prop :=
  ∃ g, w.heap.size ≤ g ∧ e = .returned (.tuple #[.pointer (some ⟨g, 0, none⟩), .int .i64 0]) ∧ Cu w' g l m b 0 0 z4 ∧ Below w.heap.size w w'
theorem new_ok (l m b : Int) (w : World) (hc : chkC l m b = 0) : Calls Try.prog 21 #[.agg #[.int .i64 l, .int .i64 m, .int .i64 b]] w (NewPost l m b w) := by
  unfold NewPost
  have hbA := bel_alloc w (.cells #[.int .i64 l, .int .i64 m, .int .i64 b] 23)
  have HB0 := hid hbA
  have HCK := hid (check_word l m b (w.alloc (.cells #[.int .i64 l, .int .i64 m, .int .i64 b] 23)))
  have eA := heap_new w (.cells #[.int .i64 l, .int .i64 m, .int .i64 b] 23)
  rw [hc] at HCK
  have HE := hid eA
  clear hbA hc eA
  go_enter Try.func21, Try.ntmps21
  go_wp2_with fail
  refine HCK.out.mono ?_
  rintro _ w1 ⟨rfl, hb⟩
  have e1 := (hb.block w.heap.size (by rw [World.size_alloc]; omega)).trans HE.out
  have c0 := Joins.cell_of_block e1 0
  have c1 := Joins.cell_of_block e1 1
  have c2 := Joins.cell_of_block e1 2
  simp only [List.getElem?_toArray, List.getElem?_cons_zero, List.getElem?_cons_succ] at c0 c1 c2
  have hbu := build_cu l m b w1
  have hb2 := bel_alloc w1 (.cells (cuL l m b 0 0 z4).toArray 71)
  have e2 := heap_new w1 (.cells (cuL l m b 0 0 z4).toArray 71)
  have HCU : Hid (Cu (w1.alloc (.cells (cuL l m b 0 0 z4).toArray 71)) w1.heap.size l m b 0 0 z4) := ⟨e2, z4_len, z4_fits⟩
  have HS : Hid (w.heap.size ≤ w1.heap.size) := Nat.le_trans HB0.out.size hb.size
  have HB := hid (Bn (Bn HB0.out hb) hb2)
  clear hb HB0 HCK e1 hb2 e2 HE
  generalize cuL l m b 0 0 z4 = C at *
  go_wp2_with (refine wpList_build_one rfl 71 (.tmp 10) rfl (.agg #[.int .i64 l, .int .i64 m, .int .i64 b]) (.agg C.toArray) rfl hbu ?_)
  go_ret2
  exact ⟨_, HS.out, rfl, HCU.out, HB.out⟩
end Go.Proofs.Ytcapkkldjgmhfaa
/-
  What Write does to a cutter, part by part: the row's turn.
-/
namespace Go.Proofs.Ytcapkkldjgmhfaa
open Go.RowKit

/-- Bytes written over a row. -/
def putL (R : List Int) (s : Nat) (ys : List Int) : List Int := R.take s ++ ys ++ R.drop (s + ys.length)
theorem putL_len {R ys : List Int} {s : Nat} (h : s + ys.length ≤ R.length) : (putL R s ys).length = R.length := by
  unfold putL
  simp only [List.length_append, List.length_take, List.length_drop]
  omega
theorem fits_mem {L : List Int} : (∀ j, 0 ≤ L.getD j 0 ∧ L.getD j 0 ≤ 255) ↔ ∀ z ∈ L, 0 ≤ z ∧ z ≤ 255 := by
  constructor
  · intro h z hz
    obtain ⟨j, hj, rfl⟩ := List.mem_iff_getElem.1 hz
    have := h j
    rwa [List.getD, List.getElem?_eq_getElem hj] at this
  · intro h j
    by_cases hj : j < L.length
    · rw [List.getD, List.getElem?_eq_getElem hj]
      exact h _ (List.getElem_mem hj)
    · rw [List.getD, List.getElem?_eq_none (by omega)]
      exact ⟨by decide, by decide⟩
theorem putL_fits {R ys : List Int} {s : Nat} (h : ∀ j, 0 ≤ R.getD j 0 ∧ R.getD j 0 ≤ 255) (k : ∀ j, 0 ≤ ys.getD j 0 ∧ ys.getD j 0 ≤ 255) : ∀ j, 0 ≤ (putL R s ys).getD j 0 ∧ (putL R s ys).getD j 0 ≤ 255 := by
  rw [fits_mem] at h k ⊢
  intro z hz
  unfold putL at hz
  simp only [List.mem_append] at hz
  rcases hz with (hz | hz) | hz
  · exact h z (List.mem_of_mem_take hz)
  · exact k z hz
  · exact h z (List.mem_of_mem_drop hz)
theorem putL_take {R ys : List Int} {s : Nat} (h : s ≤ R.length) : (putL R s ys).take (s + ys.length) = R.take s ++ ys := by
  unfold putL
  rw [List.take_append_of_le_length (by simp only [List.length_append, List.length_take]; omega)]
  exact List.take_of_length_le (by simp only [List.length_append, List.length_take]; omega)
/-- A part is copied into the row, behind what is begun. -/
theorem copy_cu {w : World} {g : Nat} {l m b s' h : Int} {R : List Int} (k : Cu w g l m b s' h R) (s gb off cap : Nat) (ys : List Int) (hr : Ri w .u8 (some ⟨gb, off, none⟩) cap ys) (h0 : 0 < ys.length) (hs : s + ys.length ≤ 4096) :
    ∃ w', (Builtin.copy_ #[25, 25] 3 #[.slice (some ⟨g, 5 + s, none⟩) (4096 - s) (4096 - s), .slice (some ⟨gb, off, none⟩) ys.length cap]).run Try.prog w = .ok (.int .i64 (ys.length : Int)) w' ∧ Cu w' g l m b s' h (putL R s ys) ∧ But1 g w w' := by
  have hsrc : ∀ (j : Nat) (v : Value), (ys.map (Value.int .u8))[j]? = some v → w.cell? (Addr.add ⟨gb, off, none⟩ j) = some v := by
    intro j v hv
    have hj : j < ys.length := by have := (List.getElem?_eq_some_iff.1 hv).1; rwa [List.length_map] at this
    obtain ⟨b', off', hab, _, hc⟩ := hr.cells h0
    cases hab
    rw [Go.WideShapes.add_plain, hc j hj, ← hv, List.getElem?_map, List.getElem?_eq_getElem hj]
    simp [List.getD, List.getElem?_eq_getElem hj]
  have hc := run_copy_row (P := Try.prog) w 25 25 3 5 g (5 + s) (4096 - s) (4096 - s) ⟨gb, off, none⟩ ys.length cap _ 71 (ys.map (Value.int .u8)) Try.underlying25 (by kernel_rfl) k.blk (by rw [List.length_map]; show _ = min _ _; omega) hsrc (by rw [List.length_map, List.size_toArray, cuL, List.length_append, List.length_map, k.len]; simp only [List.length_cons, List.length_nil]; omega) (fun v hv => by obtain ⟨z, _, rfl⟩ := List.mem_map.1 hv; rfl)
  rw [List.length_map] at hc
  have e : (List.take (5 + s) (cuL l m b s' h R).toArray.toList ++ ys.map (Value.int .u8) ++ List.drop (5 + s + ys.length) (cuL l m b s' h R).toArray.toList) = cuL l m b s' h (putL R s ys) := by
    unfold cuL putL
    simp only [List.map_append, List.map_take, List.map_drop]
    rw [Nat.add_comm 5 s, Nat.add_right_comm s 5 ys.length]
    simp [List.take, List.drop, List.append_assoc]
  rw [e] at hc
  refine ⟨_, hc, ⟨?_, (putL_len (by rw [k.len]; exact hs)).trans k.len, putL_fits k.fits (fun j => wf_u8 (hr.fits j))⟩, ?_⟩
  · exact setRow_heap w g _ _ 71 (0, 0) k.blk
  · exact ⟨below_setRow (Below.refl 0 w) (Nat.zero_le _) _, fun i _ hne => setRow_other w g i _ hne⟩
/-- A cutter's row, what is begun, and the chunks that ended. -/
abbrev Ws := List Int × Int × Int × List (List Int)
def wrR (bs : List Int) (S : Ws) (x : Pt) : List Int := putL S.1 S.2.1.toNat ((bs.drop x.1).take x.2.1)
def wrS (l m b : Int) (bs : List Int) (S : Ws) (x : Pt) : Ws :=
  if endB l m b x.2.2.1 x.2.2.2 = true then (wrR bs S x, 0, 0, S.2.2.2 ++ [(wrR bs S x).take x.2.2.1.toNat]) else (wrR bs S x, x.2.2.1, x.2.2.2, S.2.2.2)
/-- The parts are as they should be. -/
def Okp (l m b : Int) (bs : List Int) : Ws → List Pt → Prop
  | _, [] => True
  | S, x :: r => (0 ≤ S.2.1 ∧ S.2.1 + (x.2.1 : Int) = x.2.2.1 ∧ 1 ≤ x.2.1 ∧ x.2.2.1 ≤ m ∧ 0 ≤ x.2.2.2 ∧ x.2.2.2 < 18446744073709551616 ∧ x.1 + x.2.1 ≤ bs.length) ∧ Okp l m b bs (wrS l m b bs S x) r
theorem Okp.app {l m b : Int} {bs : List Int} : ∀ (pre : List Pt) (S : Ws) (r : List Pt), Okp l m b bs S (pre ++ r) → Okp l m b bs (pre.foldl (wrS l m b bs) S) r
  | [], _, _, h => h
  | _ :: pre, _, r, h => Okp.app pre _ r h.2
theorem okp_F {l m b : Int} (hc : chkC l m b = 0) (bs : List Int) : ∀ (f st : Nat) (R : List Int) (h : Int) (L : List (List Int)), st ≤ bs.length → Okp l m b bs (R, 0, h, L) (partsF l m b f st (bs.drop st))
  | 0, _, _, _, _, _ => by rw [partsF]; trivial
  | f + 1, st, R, h, L, hst => by
    obtain ⟨k1, k2, k3, k4, k5⟩ := chkC_ok hc
    have hdl : (bs.drop st).length = bs.length - st := List.length_drop ..
    cases hd : bs.drop st with
    | nil => rw [partsF]; trivial
    | cons x r =>
      rw [hd] at hdl
      have h1 := with_cnt l m b (x :: r) 0 0
      have h2 := with_most (l := l) (m := m) (b := b) (x :: r) 0 0 (by omega)
      have h3 := with_rng l m b (x :: r) 0 0 ⟨by decide, by decide⟩
      have h4 := with_end (l := l) (m := m) (b := b) (x :: r) 0 0
      have h5 := h1.2.2 (by simp)
      rw [partsF]
      have hdd : ∀ n, (x :: r).drop n = bs.drop (st + n) := fun n => by rw [← hd, List.drop_drop]
      rw [hdd]
      generalize withL l m b 0 0 (x :: r) = W at *
      refine ⟨⟨Int.le_refl _, by dsimp only; omega, by dsimp only; omega, h2, h3.1, h3.2, by dsimp only; omega⟩, ?_⟩
      unfold wrS
      dsimp only
      split
      · exact okp_F hc bs f _ _ _ _ (by omega)
      · rename_i he
        have h6 : ¬ W.1 < 0 + ((x :: r).length : Int) := fun h => he (h4 h)
        have h7 : bs.drop (st + W.1.toNat) = [] := List.drop_eq_nil_of_le (by omega)
        rw [h7]
        cases f <;> (rw [partsF]; trivial)
theorem okp_H {l m b : Int} (hc : chkC l m b = 0) (bs : List Int) (s0 h0 : Int) (hs0 : 0 ≤ s0) (hs1 : s0 < m) (hh0 : 0 ≤ h0) (hh1 : h0 < 18446744073709551616) (f : Nat) (R : List Int) (L : List (List Int)) : Okp l m b bs (R, s0, h0, L) (partsH l m b f s0 h0 0 bs) := by
  cases f with
  | zero => rw [partsH]; trivial
  | succ f =>
    cases hd : bs with
    | nil => rw [partsH]; trivial
    | cons x r =>
      have h1 := with_cnt l m b (x :: r) s0 h0
      have h2 := with_most (l := l) (m := m) (b := b) (x :: r) s0 h0 hs1
      have h3 := with_rng l m b (x :: r) s0 h0 ⟨hh0, hh1⟩
      have h4 := with_end (l := l) (m := m) (b := b) (x :: r) s0 h0
      have h5 := h1.2.2 (by simp)
      rw [partsH, Nat.zero_add]
      rw [← hd] at *
      generalize withL l m b s0 h0 bs = W at *
      refine ⟨⟨hs0, by dsimp only; omega, by dsimp only; omega, h2, h3.1, h3.2, by dsimp only; omega⟩, ?_⟩
      unfold wrS
      dsimp only
      split
      · exact okp_F hc bs f _ _ _ _ (by omega)
      · rename_i he
        have h6 : ¬ W.1 < s0 + (bs.length : Int) := fun h => he (h4 h)
        have h7 : bs.drop (W.1 - s0).toNat = [] := List.drop_eq_nil_of_le (by omega)
        rw [h7]
        cases f <;> (rw [partsF]; trivial)
end Go.Proofs.Ytcapkkldjgmhfaa
