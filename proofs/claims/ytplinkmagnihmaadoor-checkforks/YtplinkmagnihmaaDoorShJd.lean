/-
  The contract of mac.Sum. The contract of mac's closed. The contract of slices.Concat at two rows of rows. The contracts of slices.Grow and slices.Concat, at rows of rows and at rows of bytes.
-/
import Derived.Test.YtplinkmagnihmaaDoorShJc
import Derived.Lib.AppendZerosOnto
import Derived.Lib.SliceRun
import Derived.Lib.Walk
namespace Go.Proofs.YtplinkmagnihmaaDoor.Sh
open Go.RowKit Sha

set_option maxHeartbeats 1600000 in
set_option maxRecDepth 100000 in
/-- slices.Grow of nothing. -/
theorem grow_rows (n : Nat) (w : World) (hn : n ≤ 1000000) :
    Calls Tryd.prog 86 #[.slice none 0 0, .int .i64 (n : Int)] w fun e w' => ∃ v, e = .returned v ∧ w'.ownsRow w.heap.size 22 1 v 0 [] ∧ Below w.heap.size w w' := by
  obtain ⟨i0, hi, hz0, hz1, hz2⟩ := info_parts Tryd.info22
  have h1 : ¬ ((n : Int) < 0) := by omega
  by_cases h0 : n = 0
  · subst h0
    go_enter Tryd.func86, Tryd.ntmps86
    go_wp2
    go_ret
    exact ⟨_, rfl, World.ownsRow_nil _ _ _ _, Below.refl _ _⟩
  · have h4 : (n : Int) > 0 := by omega
    have hold : (Builtin.firstCells i0.size 0 (.slice none 0 0)).run Tryd.prog w.drew = .ok ([] : List Value).toArray w.drew := run_firstCells_none w.drew i0.size 0 0 0
    have hrz : ∀ ty, (Builtin.append_ #[101, 3] ty #[.slice none 0 0, .int .i64 (n : Int)]).run Tryd.prog w =
        .ok (.slice (some ⟨w.heap.size, 0, none⟩) n (grownCap w n 0 22)) (w.drew.alloc (.cells (([] : List Value).toArray ++ Builtin.zeroCells (.slice none 0 0 : Value).cells n ++ Builtin.zeroCells (.slice none 0 0 : Value).cells (grownCap w n 0 22 - n)) 22)) := fun ty => by
      have h := Lib.run_append_grow_zeros w 101 3 ty 22 i0 (.slice none 0 0) .i64 .i64 Tryd.underlying101 Tryd.underlying3 hi hz0 none 0 0 [] hold n (by omega) (by rw [hz1]; decide) (by omega) (by omega) (by rw [hz2]; omega)
        (by rw [Nat.zero_add]; exact growslice_fits (by omega) (by rw [hz2]; omega))
      rw [Nat.zero_add] at h
      exact h
    have hGn : n ≤ grownCap w n 0 22 := grownCap_ge w _ _ _
    have hGm := grownCap_le_maxLen w n 0 22 (by unfold maxLen; omega)
    generalize grownCap w n 0 22 = G at *
    have hsz : (([] : List Value).toArray ++ Builtin.zeroCells (.slice none 0 0 : Value).cells n ++ Builtin.zeroCells (.slice none 0 0 : Value).cells (G - n)).size = G * 1 := by
      simp [Builtin.zeroCells, Value.cells]
      omega
    have HO : Hid ((w.drew.alloc (.cells (([] : List Value).toArray ++ Builtin.zeroCells (.slice none 0 0 : Value).cells n ++ Builtin.zeroCells (.slice none 0 0 : Value).cells (G - n)) 22)).ownsRow w.heap.size 22 1 (.slice (some ⟨w.heap.size, 0, none⟩) 0 G) 0 []) :=
      ⟨rfl, Or.inr ⟨w.heap.size, G, _, rfl, Nat.le_refl _, heap_new w.drew _, by omega, hGm, hsz, by simp⟩⟩
    have HB : Hid (Below w.heap.size w (w.drew.alloc (.cells (([] : List Value).toArray ++ Builtin.zeroCells (.slice none 0 0 : Value).cells n ++ Builtin.zeroCells (.slice none 0 0 : Value).cells (G - n)) 22))) := (Below.refl _ _).drew.alloc (by simp) _
    clear hold hsz
    generalize w.drew.alloc (.cells (([] : List Value).toArray ++ Builtin.zeroCells (.slice none 0 0 : Value).cells n ++ Builtin.zeroCells (.slice none 0 0 : Value).cells (G - n)) 22) = wG at *
    go_enter Tryd.func86, Tryd.ntmps86
    go_wp2_with (at_builtin; refine Lib.wpList_append_run _ rfl _ _ _ _ rfl _ _ rfl rfl _ _ (hrz _) ?_)
    go_ret
    exact ⟨_, rfl, HO.out, HB.out⟩

theorem add_block (a : Addr) (j : Nat) : (a.add j).block = a.block := by cases a; simp only [Addr.add]; split <;> rfl

end Go.Proofs.YtplinkmagnihmaaDoor.Sh
namespace Go.Proofs.YtplinkmagnihmaaDoor.Sh
open Go.RowKit Sha

/-- The slices that a list of rows holds, and where they lie. -/
theorem Ps.vals {w : World} {ad : Addr} {cap : Nat} {l : List (List Nat)} (h : Ps w (some ad) cap l) : ∃ vals, Vals w vals l ∧ (∀ (j : Nat) (u : Value), vals[j]? = some u → w.cell? (ad.add j) = some u) ∧ ∀ u ∈ vals, u.oneCell' = true := by
  rcases Nat.eq_zero_or_pos l.length with h0 | h0
  · have := List.length_eq_zero_iff.1 h0
    subst this
    exact ⟨[], ⟨rfl, fun j hj => by simp at hj⟩, fun j u hu => by simp at hu, fun u hu => by simp at hu⟩
  · obtain ⟨b, off, hb, _, hc⟩ := h.cells h0
    injection hb with hb
    subst hb
    have key : ∀ j, j < l.length → ((List.range l.length).map fun j => (w.cell? ⟨b, off + j, none⟩).getD undef)[j]? = some ((w.cell? ⟨b, off + j, none⟩).getD undef) := by
      intro j hj
      simp [hj]
    refine ⟨(List.range l.length).map fun j => (w.cell? ⟨b, off + j, none⟩).getD undef, ⟨by simp, fun j hj => ?_⟩, fun j u hu => ?_, fun u hu => ?_⟩
    · obtain ⟨v, a', cap', h1, h2⟩ := hc j hj
      refine ⟨a', cap', ?_⟩
      rw [List.getD, key j hj, h1]
      exact h2
    · have hj : j < l.length := by have := (List.getElem?_eq_some_iff.1 hu).1; simpa using this
      rw [key j hj] at hu
      injection hu with hu
      obtain ⟨v, a', cap', h1, h2⟩ := hc j hj
      rw [Go.WideShapes.add_plain, h1, ← hu, h1]
      rfl
    · rw [List.mem_map] at hu
      obtain ⟨j, hj, rfl⟩ := hu
      obtain ⟨v, a', cap', h1, h2⟩ := hc j (List.mem_range.1 hj)
      rw [h1, Option.getD_some, h2.val]
      rfl

theorem Vals.later {w w' : World} {vals : List Value} {m : List (List Nat)} (h : Vals w vals m) (hb : Below w.heap.size w w') : Vals w' vals m :=
  ⟨h.len, fun j hj => by obtain ⟨a, c, hr⟩ := h.each j hj; exact ⟨a, c, hr.later hb⟩⟩
theorem Vals.app {w : World} {vals vals' : List Value} {m m' : List (List Nat)} (h : Vals w vals m) (h' : Vals w vals' m') : Vals w (vals ++ vals') (m ++ m') := by
  have hl := h.len
  have hl' := h'.len
  refine ⟨by simp [hl, hl'], fun j hj => ?_⟩
  by_cases hjm : j < m.length
  · obtain ⟨a, c, hr⟩ := h.each j hjm
    refine ⟨a, c, ?_⟩
    rw [show (vals ++ vals').getD j undef = vals.getD j undef from by simp [List.getD, List.getElem?_append_left (show j < vals.length by omega)], show (m ++ m').getD j [] = m.getD j [] from by simp [List.getD, List.getElem?_append_left hjm]]
    exact hr
  · obtain ⟨a, c, hr⟩ := h'.each (j - m.length) (by simp at hj; omega)
    refine ⟨a, c, ?_⟩
    rw [show (vals ++ vals').getD j undef = vals'.getD (j - m.length) undef from by simp [List.getD, List.getElem?_append_right (show vals.length ≤ j by omega), hl], show (m ++ m').getD j [] = m'.getD (j - m.length) [] from by simp [List.getD, List.getElem?_append_right (show m.length ≤ j by omega)]]
    exact hr
theorem own_rows_later {w w' : World} {B n : Nat} {v : Value} {xs : List Value} (h : w.ownsRow B 22 1 v n xs) (hb : Below w.heap.size w w') : w'.ownsRow B 22 1 v n xs := by
  refine ⟨h.1, ?_⟩
  rcases h.2 with h1 | ⟨g, cap, cur, hv, hg, hh, hr⟩
  · exact Or.inl h1
  · have hlt : g < w.heap.size := (Array.getElem?_eq_some_iff.1 hh).1
    exact Or.inr ⟨g, cap, cur, hv, hg, (hb.block g hlt).trans hh, hr⟩

set_option maxHeartbeats 3200000 in
set_option maxRecDepth 100000 in
theorem concat_rows (g n1 c1 n2 c2 : Nat) (x1 x2 : Addr) (v1 v2 : List Value) (w : World) (hg : g < w.heap.size)
    (e0 : w.cell? ⟨g, 0, none⟩ = some (.slice (some x1) n1 c1)) (e1 : w.cell? ⟨g, 1, none⟩ = some (.slice (some x2) n2 c2)) (l1 : v1.length = n1) (l2 : v2.length = n2) (hs : n1 + n2 ≤ 1000000)
    (k1 : ∀ (j : Nat) (u : Value), v1[j]? = some u → w.cell? (x1.add j) = some u) (k2 : ∀ (j : Nat) (u : Value), v2[j]? = some u → w.cell? (x2.add j) = some u)
    (o1 : ∀ u ∈ v1, u.oneCell' = true) (o2 : ∀ u ∈ v2, u.oneCell' = true) (y1 : x1.block < w.heap.size) (y2 : x2.block < w.heap.size) :
    Calls Tryd.prog 66 #[.slice (some ⟨g, 0, none⟩) 2 2] w fun e w' => ∃ v, e = .returned v ∧ w'.ownsRow w.heap.size 22 1 v (n1 + n2) (v1 ++ v2) ∧ Below w.heap.size w w' := by
  obtain ⟨i0, hi, hz0, hz1, hz2⟩ := info_parts Tryd.info22
  have HG := hid (fun W : World => grow_rows (n1 + n2) W hs)
  have HK1 := hid k1
  have HK2 := hid k2
  have HO1 := hid o1
  have HO2 := hid o2
  have HL1 := hid l1
  have HL2 := hid l2
  clear k1 k2 o1 o2 l1 l2
  go_enter Tryd.func66, Tryd.ntmps66
  go_wp2_with fail
  go_loopw [3, 11] (fun s i wr => wr = w ∧ ((i = .int .i64 0 ∧ s = .int .i64 0) ∨ (i = .int .i64 1 ∧ s = .int .i64 (n1 : Int)) ∨ (i = .int .i64 2 ∧ s = .int .i64 ((n1 : Int) + (n2 : Int))))) (fun _ i _ => 2 - (intOf i).toNat)
  case atStart => exact ⟨rfl, Or.inl ⟨rfl, rfl⟩⟩
  case round =>
    obtain ⟨hw, hrel⟩ := hrel
    obtain rfl := hw.symm
    clear hw
    rcases hrel with ⟨rfl, rfl⟩ | ⟨rfl, rfl⟩ | ⟨rfl, rfl⟩
    · have hp : ¬ ((n1 : Int) < 0) := by omega
      go_wp2
      exact ⟨⟨by trivial, Or.inr (Or.inl ⟨by go_num, by go_num⟩)⟩, by decide⟩
    · have hp : ¬ ((n1 : Int) + (n2 : Int) < 0) := by omega
      go_wp2
      exact ⟨⟨by trivial, Or.inr (Or.inr ⟨by go_num, by go_num⟩)⟩, by decide⟩
    · go_wp2_with fail
      go_at_call 86
      rw [show (n1 : Int) + (n2 : Int) = ((n1 + n2 : Nat) : Int) from by omega]
      refine (HG.out w).mono ?_
      rintro _ w1 ⟨v, rfl, hown, hb1⟩
      go_wp2_with fail
      go_loopw [6, 27] (fun v i wq => Below w.heap.size w wq ∧ ((i = .int .i64 0 ∧ wq.ownsRow w.heap.size 22 1 v 0 []) ∨ (i = .int .i64 1 ∧ wq.ownsRow w.heap.size 22 1 v n1 v1) ∨ (i = .int .i64 2 ∧ wq.ownsRow w.heap.size 22 1 v (n1 + n2) (v1 ++ v2)))) (fun _ i _ => 2 - (intOf i).toNat)
      case atStart => exact ⟨hb1, Or.inl ⟨rfl, hown⟩⟩
      case round =>
        obtain ⟨hbq, hrel⟩ := hrel
        have hzq := hbq.size
        have f0 := (hbq.cell (p := ⟨g, 0, none⟩) hg).trans e0
        have f1 := (hbq.cell (p := ⟨g, 1, none⟩) hg).trans e1
        rcases hrel with ⟨rfl, ho⟩ | ⟨rfl, ho⟩ | ⟨rfl, ho⟩
        · have hq1 : v1.length = n1 * 1 := by rw [HL1.out, Nat.mul_one]
          have hq2 : ∀ (j : Nat) (u : Value), v1[j]? = some u → wr.cell? (x1.add j) = some u := fun j u hu => (hbq.cell (p := x1.add j) (by rw [add_block]; exact y1)).trans (HK1.out j u hu)
          have hq3 : 0 + n1 ≤ maxLen := by unfold maxLen; omega
          have hq4 : (0 + n1) * 24 ≤ 140737488355328 := by omega
          go_wp2_with (at_builtin; refine wpList_append_own _ rfl _ _ 101 rfl w.heap.size 22 i0 (.slice none 0 0) 1 24 Tryd.underlying101 hi hz0 hz1 hz2 rfl (by decide) _ _ _ rfl ho x1 n1 c1 v1 rfl hq1 hq2 HO1.out hq3 hq4 hzq ?_)
          intro v' w2 hown' hgrow _
          have hb2 := hbq.grown hgrow (by omega) (fun j hj => (ho.lt j hj).1)
          clear hgrow ho
          go_wp2
          exact ⟨⟨hb2, Or.inr (Or.inl ⟨by go_num, hown'⟩)⟩, by decide⟩
        · have hq1 : v2.length = n2 * 1 := by rw [HL2.out, Nat.mul_one]
          have hq2 : ∀ (j : Nat) (u : Value), v2[j]? = some u → wr.cell? (x2.add j) = some u := fun j u hu => (hbq.cell (p := x2.add j) (by rw [add_block]; exact y2)).trans (HK2.out j u hu)
          have hq3 : n1 + n2 ≤ maxLen := by unfold maxLen; omega
          have hq4 : (n1 + n2) * 24 ≤ 140737488355328 := by omega
          go_wp2_with (at_builtin; refine wpList_append_own _ rfl _ _ 101 rfl w.heap.size 22 i0 (.slice none 0 0) 1 24 Tryd.underlying101 hi hz0 hz1 hz2 rfl (by decide) _ _ _ rfl ho x2 n2 c2 v2 rfl hq1 hq2 HO2.out hq3 hq4 hzq ?_)
          intro v' w2 hown' hgrow _
          have hb2 := hbq.grown hgrow (by omega) (fun j hj => (ho.lt j hj).1)
          clear hgrow ho
          go_wp2
          exact ⟨⟨hb2, Or.inr (Or.inr ⟨by go_num, hown'⟩)⟩, by decide⟩
        · go_wp2
          go_ret
          exact ⟨_, rfl, ho, hbq⟩

end Go.Proofs.YtplinkmagnihmaaDoor.Sh
namespace Go.Proofs.YtplinkmagnihmaaDoor.Sh
open Go.RowKit Sha

set_option maxHeartbeats 1600000 in
set_option maxRecDepth 100000 in
theorem closed_word (o d : List Nat) (w : World) (hlaid : Laid w) (ho : o.length = 64) (hd : d.length = 32) (hob : ∀ j, o.getD j 0 < 256) (hdb : ∀ j, d.getD j 0 < 256) :
    Calls Tryd.prog 67 #[.agg (arr .u8 o), .agg (arr .u8 d)] w fun e w' => e = .returned (.agg (arr .u8 (digest (o ++ d)))) ∧ Below w.heap.size w w' := by
  have b1 := bel_alloc w (.cells (arr .u8 o) 112)
  have e1 := heap_new w (.cells (arr .u8 o) 112)
  have s1 : (w.alloc (.cells (arr .u8 o) 112)).heap.size = w.heap.size + 1 := by simp
  have b2 := bel_alloc (w.alloc (.cells (arr .u8 o) 112)) (.cells (arr .u8 d) 25)
  have e2 := heap_new (w.alloc (.cells (arr .u8 o) 112)) (.cells (arr .u8 d) 25)
  have s2 : ((w.alloc (.cells (arr .u8 o) 112)).alloc (.cells (arr .u8 d) 25)).heap.size = w.heap.size + 1 + 1 := by simp
  rw [s1] at e2
  generalize hw1 : w.alloc (.cells (arr .u8 o) 112) = w1 at *
  generalize hw2 : w1.alloc (.cells (arr .u8 d) 25) = w2 at *
  have b3 := bel_alloc w2 (.cells (arr .u8 z32) 25)
  have e3 := heap_new w2 (.cells (arr .u8 z32) 25)
  rw [s2] at e3
  have s3 : (w2.alloc (.cells (arr .u8 z32) 25)).heap.size = w.heap.size + 1 + 1 + 1 := by simp [s2]
  have B3 := Bn (Bn b1 b2) b3
  have r1 : Rd (w2.alloc (.cells (arr .u8 z32) 25)) (.slice (some ⟨w.heap.size, 0, none⟩) 64 64) (some ⟨w.heap.size, 0, none⟩) 64 o := Rd.block 64 ho (by rw [b3.block _ (by omega), b2.block _ (by omega)]; exact e1) (by decide) hob
  have r2 : Rd (w2.alloc (.cells (arr .u8 z32) 25)) (.slice (some ⟨w.heap.size + 1, 0, none⟩) 32 32) (some ⟨w.heap.size + 1, 0, none⟩) 32 d := Rd.block 32 hd (by rw [b3.block _ (by omega)]; exact e2) (by decide) hdb
  have hl3 := hlaid.later B3
  subst hw2 hw1
  have HR1 := hid r1
  have HR2 := hid r2
  have HL3 := hid hl3
  have HB3 := hid B3
  clear b1 e1 s1 b2 e2 b3 r1 r2 hl3 B3 hlaid
  go_enter Tryd.func67, Tryd.ntmps67
  go_wp2_with (refine wpList_alloc_at rfl 25 rfl (some 4) rfl (arr .u8 z32) Tryd.zero25 (w.heap.size + 1 + 1) (by simp) ?_)
  generalize ((w.alloc (.cells (arr .u8 o) 112)).alloc (.cells (arr .u8 d) 25)).alloc (.cells (arr .u8 z32) 25) = w3 at *
  refine wp_region_held_drew (S := fun w' => Below w.heap.size w w') (by as_aux_lemma => kernel_rfl) HB3.out.drew (fun hS => ?_)
  refine Ord.take (i := 0) (d := 5) (v := .slice (some ⟨w.heap.size, 0, none⟩) 64 64) rfl rfl (by as_aux_lemma => kernel_rfl) (by as_aux_lemma => kernel_rfl) (by as_aux_lemma => kernel_rfl) (fun _ _ _ h => h) (by rfl) ?h0 (by assumption) ?_
  case h0 => intro w hSw; go_simp; try with_reducible rfl
  simp only [List.setIfInBounds_toArray, List.set_cons_zero, List.set_cons_succ]
  refine Ord.take (i := 1) (d := 6) (v := .slice (some ⟨w.heap.size + 1, 0, none⟩) 32 32) rfl rfl (by as_aux_lemma => kernel_rfl) (by as_aux_lemma => kernel_rfl) (by as_aux_lemma => kernel_rfl) (fun _ _ _ h => h) (by rfl) ?h1 (by assumption) ?_
  case h1 => intro w hSw; go_simp; try with_reducible rfl
  simp only [List.setIfInBounds_toArray, List.set_cons_zero, List.set_cons_succ]
  refine wpAnyH_ready (rs := [2]) (by as_aux_lemma => kernel_rfl) (by simp) (AllReadyH.cons rfl (fun K hK => ?_) AllReadyH.nil)
  go_simp
  have hbA := (bel_alloc w3 (.cells #[.slice (some ⟨w.heap.size, 0, none⟩) 64 64, .slice (some ⟨w.heap.size + 1, 0, none⟩) 32 32] 22)).drew
  have hps := (Ps.two HR1.out HR2.out (w.heap.size + 1 + 1 + 1) s3.symm).later (Below.refl _ _).drew
  have hSA := Bn HB3.out hbA
  refine hK.out _ _ hSA (fun _ => ?_)
  clear hK K hS
  generalize (w3.alloc (.cells #[.slice (some ⟨w.heap.size, 0, none⟩) 64 64, .slice (some ⟨w.heap.size + 1, 0, none⟩) 32 32] 22)).drew = wA at *
  have hsm := sum_word _ _ _ wA (HL3.out.later hbA) hps (by simp; omega)
  rw [show [o, d].flatten = o ++ d from by simp] at hsm
  have HS := hid hsm
  have hres : wA.heap[w.heap.size + 1 + 1]? = some (.cells (arr .u8 z32) 25 (0, 0)) := by rw [hbA.block _ (by omega)]; exact e3
  have hza : w.heap.size + 1 + 1 < wA.heap.size := by have := hbA.size; omega
  clear hsm hps e3
  refine wpAnyH_ready (rs := [3]) (by as_aux_lemma => kernel_rfl) (by simp) (AllReadyH.cons rfl (fun K hK => ?_) AllReadyH.nil)
  go_simp
  refine HS.out.mono ?_
  rintro _ w5 ⟨rfl, hb5⟩
  have hS5 := Bn hSA hb5
  refine hK.out _ _ hS5 (fun _ => ?_)
  clear hK K
  have hres5 : w5.heap[w.heap.size + 1 + 1]? = some (.cells (arr .u8 z32) 25 (0, 0)) := by rw [hb5.block _ (by omega)]; exact hres
  have hsz : (arr .u8 (digest (o ++ d))).size = 32 := by rw [arr_size, digest_len]
  have hasz : (Tryd.prog.info? 25).map (·.size) = some (arr .u8 (digest (o ++ d))).size := by rw [hsz]; exact Tryd.size25'
  have hS6 : Below w.heap.size w (w5.setRow (w.heap.size + 1 + 1) (arr .u8 (digest (o ++ d)))) := below_setRow hS5 (by omega) _
  refine wpAnyH_ready (rs := [4]) (by as_aux_lemma => kernel_rfl) (by simp) (AllReadyH.cons rfl (fun K hK => ?_) AllReadyH.nil)
  refine wp_store_row 25 (.tmp 4) (.tmp 8) rfl (w.heap.size + 1 + 1) (arr .u8 (digest (o ++ d))) rfl rfl 25 _ hres5 hasz (by rw [hsz]; rfl) (arr_one _ _) ?_
  refine hK.out _ _ hS6 (fun _ => ?_)
  clear hK K
  refine wpAnyH_done (by as_aux_lemma => kernel_rfl) ?_ _
  have HS6 := hid hS6
  have hrr := setRow_heap _ _ _ (arr .u8 (digest (o ++ d))) _ _ hres5
  clear hS6 hS5 hSA hres hres5 hb5 hbA HS HB3 HR1 HR2 HL3
  generalize w5.setRow (w.heap.size + 1 + 1) (arr .u8 (digest (o ++ d))) = w6 at *
  go_wp2
  refine bodyPost_ret (results_cell_row (ty := 25) rfl _ _ _ _ _ _ _ rfl hrr Tryd.underlying25 rfl hasz) rfl ?_
  exact ⟨rfl, HS6.out⟩
end Go.Proofs.YtplinkmagnihmaaDoor.Sh
namespace Go.Proofs.YtplinkmagnihmaaDoor.Sh
open Go.RowKit Sha

theorem put_block (w : World) (l : List Nat) (g : Nat) (hg : g = w.heap.size) :
    Below w.heap.size w ((w.alloc (.cells (arr .u8 z64) 112)).setRow g (arr .u8 l)) ∧ ((w.alloc (.cells (arr .u8 z64) 112)).setRow g (arr .u8 l)).heap[g]? = some (.cells (arr .u8 l) 112 (0, 0)) ∧ ((w.alloc (.cells (arr .u8 z64) 112)).setRow g (arr .u8 l)).heap.size = w.heap.size + 1 := by
  subst hg
  have b := bel_alloc w (.cells (arr .u8 z64) 112)
  have e := heap_new w (.cells (arr .u8 z64) 112)
  have h1 := setRow_heap _ w.heap.size _ (arr .u8 l) _ _ e
  refine ⟨below_setRow b (Nat.le_refl _) _, h1, ?_⟩
  simp

theorem add_plain' (a : Addr) : a.add 0 = a := by cases a; simp [Addr.add]

theorem blockL_lt (key : List Nat) (h : ∀ j, key.getD j 0 < 256) : ∀ j, (blockL key).getD j 0 < 256 := by
  rw [blockL]
  refine getD_app _ _ ?_ ?_
  · unfold Sha.keyOf
    split
    · exact digest_lt key
    · exact h
  · rw [all_lt]
    intro z hz
    rw [List.eq_of_mem_replicate hz]
    decide

set_option maxHeartbeats 3200000 in
set_option maxRecDepth 100000 in
theorem macSum_word (a : Option Addr) (cap : Nat) (key : List Nat) (ad : Addr) (c : Nat) (l : List (List Nat)) (w : World) (hlaid : Laid w) (hr : Rd w (.slice a key.length cap) a cap key) (hk : key.length ≤ 100000)
    (hp : Ps w (some ad) c l) (h0 : 0 < l.length) (hn : l.length ≤ 1000) (hl : l.flatten.length ≤ 300000) :
    Calls Tryd.prog 49 #[.slice a key.length cap, .slice (some ad) l.length c] w fun e w' => e = .returned (.agg (arr .u8 (hmac key l.flatten))) ∧ Below w.heap.size w w' := by
  have b1 := bel_alloc w (.cells (arr .u8 z32) 25)
  have e1 := heap_new w (.cells (arr .u8 z32) 25)
  have s1 : (w.alloc (.cells (arr .u8 z32) 25)).heap.size = w.heap.size + 1 := by simp
  have HB1 := hid b1
  have HL1 := hid (hlaid.later b1)
  have HP1 := hid (hp.later b1)
  have HBO := hid (blockOf_word a cap key _ (hlaid.later b1) (hr.later b1) hk)
  have HX36 := hid (fun W : World => xored_word (blockL key) 54 W (blockL_length key) (blockL_lt key hr.hi) (by decide))
  have HX5C := hid (fun W : World => xored_word (blockL key) 92 W (blockL_length key) (blockL_lt key hr.hi) (by decide))
  have HXB1 := hid (xorL_lt 54 (blockL key) (by decide) (blockL_lt key hr.hi))
  have HXB2 := hid (xorL_lt 92 (blockL key) (by decide) (blockL_lt key hr.hi))
  have HXL1 : Hid ((xorL 54 (blockL key)).length = 64) := (xorL_length _ _).trans (blockL_length key)
  have HXL2 : Hid ((xorL 92 (blockL key)).length = 64) := (xorL_length _ _).trans (blockL_length key)
  have HBL := hid (blockL_length key)
  have HH : Hid (hmac key l.flatten = digest (xorL 92 (blockL key) ++ digest (xorL 54 (blockL key) ++ l.flatten))) := rfl
  have hbs : (arr .u8 (blockL key)).size = 64 := by rw [arr_size, blockL_length]
  have hba : (Tryd.prog.info? 112).map (·.size) = some (arr .u8 (blockL key)).size := by rw [hbs]; exact Tryd.size112
  have hxs : (arr .u8 (xorL 54 (blockL key))).size = 64 := by rw [arr_size, HXL1.out]
  clear hr hp hlaid
  generalize hmac key l.flatten = MM at *
  generalize xorL 54 (blockL key) = x1 at *
  generalize xorL 92 (blockL key) = x2 at *
  generalize blockL key = bk at *
  generalize hln : l.length = ln at *
  have HLN := hid hln
  clear hln b1
  go_enter Tryd.func49, Tryd.ntmps49
  go_wp2_with (refine wpList_alloc_at rfl 25 rfl (some 4) rfl (arr .u8 z32) Tryd.zero25 w.heap.size rfl ?_)
  generalize w.alloc (.cells (arr .u8 z32) 25) = w1 at *
  go_at_call 64
  refine HBO.out.mono ?_
  rintro _ w2 ⟨rfl, hb2⟩
  have hz2 := hb2.size
  have n2 := heap_new w2 (.cells (arr .u8 z64) 112)
  obtain ⟨q3, f3, z3⟩ := put_block w2 bk w2.heap.size rfl
  go_wp2_with (first
    | (refine wpList_alloc_at rfl 112 rfl (some 5) rfl (arr .u8 z64) Tryd.zero112 w2.heap.size rfl ?_)
    | (refine wpList_store_rowTo rfl 112 _ _ rfl rfl w2.heap.size (arr .u8 bk) rfl rfl 112 _ n2 hba (by rw [hbs]; rfl) (arr_one _ _) ?_)
    | (refine wpList_load_row rfl 112 _ rfl w2.heap.size rfl 112 (arr .u8 bk) (0, 0) _ f3 Tryd.underlying112 rfl hba ?_))
  generalize (w2.alloc (.cells (arr .u8 z64) 112)).setRow w2.heap.size (arr .u8 bk) = w3 at *
  go_at_call 65
  refine (HX36.out w3).mono ?_
  rintro _ w4 ⟨rfl, hb4⟩
  have hz4 := hb4.size
  have n4 := heap_new w4 (.cells (arr .u8 z64) 112)
  obtain ⟨q5, f5, z5⟩ := put_block w4 x1 w4.heap.size rfl
  have b13 : Below w1.heap.size w1 w3 := Bn hb2 q3
  have hB5 := Bn b13 (Bn hb4 q5)
  have HR5 := hid (Rd.block 64 HXL1.out f5 (by decide) HXB1.out)
  have hxa : (Tryd.prog.info? 112).map (·.size) = some (arr .u8 x1).size := by rw [hxs]; exact Tryd.size112
  go_wp2_with (first
    | (refine wpList_alloc_at rfl 112 rfl (some 6) rfl (arr .u8 z64) Tryd.zero112 w4.heap.size rfl ?_)
    | (refine wpList_store_rowTo rfl 112 _ _ rfl rfl w4.heap.size (arr .u8 x1) rfl rfl 112 _ n4 hxa (by rw [hxs]; rfl) (arr_one _ _) ?_))
  generalize (w4.alloc (.cells (arr .u8 z64) 112)).setRow w4.heap.size (arr .u8 x1) = w5 at *
  have b6 := bel_alloc w5 (.cells #[.slice (some ⟨w4.heap.size, 0, none⟩) 64 64] 22)
  have c6 := World.cell?_alloc_mark w5 #[.slice (some ⟨w4.heap.size, 0, none⟩) 64 64] 22 (0, 0)
  have s6 : (w5.alloc (.cells #[.slice (some ⟨w4.heap.size, 0, none⟩) 64 64] 22)).heap.size = w4.heap.size + 1 + 1 := by simp [z5]
  rw [z5] at c6
  generalize hw6 : w5.alloc (.cells #[.slice (some ⟨w4.heap.size, 0, none⟩) 64 64] 22) = w6 at *
  have b7 := bel_alloc w6 (.cells #[.slice (some ⟨w4.heap.size + 1, 0, none⟩) 1 1, .slice (some ad) ln c] 101)
  have c7 := World.cell?_alloc_mark w6 #[.slice (some ⟨w4.heap.size + 1, 0, none⟩) 1 1, .slice (some ad) ln c] 101 (0, 0)
  have s7 : (w6.alloc (.cells #[.slice (some ⟨w4.heap.size + 1, 0, none⟩) 1 1, .slice (some ad) ln c] 101)).heap.size = w4.heap.size + 1 + 1 + 1 := by simp [s6]
  rw [s6] at c7
  generalize hw7 : w6.alloc (.cells #[.slice (some ⟨w4.heap.size + 1, 0, none⟩) 1 1, .slice (some ad) ln c] 101) = w7 at *
  have hB7 := Bn hB5 (Bn b6 b7)
  have hps := HP1.out.later hB7
  obtain ⟨ab, ao, hab, habl, _⟩ := hps.cells (by rw [HLN.out]; exact h0)
  obtain ⟨vals, hV, hVc, hV1⟩ := hps.vals
  have hvl : vals.length = ln := hV.len.trans HLN.out
  have hr7 := HR5.out.later (Bn b6 b7)
  have hV0 : Vals w7 [.slice (some ⟨w4.heap.size, 0, none⟩) 64 64] [x1] := ⟨rfl, fun j hj => by
    obtain rfl : j = 0 := by simp at hj; omega
    exact ⟨_, _, hr7⟩⟩
  have HV := hid (hV0.app hV)
  have HCN := hid (concat_rows (w4.heap.size + 1 + 1) 1 1 ln c ⟨w4.heap.size + 1, 0, none⟩ ad [.slice (some ⟨w4.heap.size, 0, none⟩) 64 64] vals w7 (by omega) (c7 0) (c7 1) rfl hvl (by omega)
    (fun j u hu => by
      obtain rfl : j = 0 := by have := (List.getElem?_eq_some_iff.1 hu).1; simp at this; omega
      rw [add_plain']
      exact ((b7.cell (p := ⟨w4.heap.size + 1, 0, none⟩) (by show w4.heap.size + 1 < _; omega)).trans (c6 0)).trans hu)
    hVc (by intro u hu; simp at hu; subst hu; rfl) hV1 (by show w4.heap.size + 1 < _; omega) (by injection hab with hab; subst hab; exact habl))
  have hk7 : w7.heap[w2.heap.size]? = some (.cells (arr .u8 bk) 112 (0, 0)) := by rw [(Bn (Bn hb4 q5) (Bn b6 b7)).block _ (by omega)]; exact f3
  have hr7' : w7.heap[w.heap.size]? = some (.cells (arr .u8 z32) 25 (0, 0)) := by rw [hB7.block _ (by omega)]; exact e1
  have HB7 := hid (Bn HB1.out hB7)
  have HL7 := hid (HL1.out.later hB7)
  clear hps hV hVc hV1 hr7 hV0 c6 c7 b6 b7 hB7 hB5 b13 q5 f5 hb4 q3 f3 hb2 e1 HP1 HR5 n2 n4 hab habl
  subst hw7 hw6
  go_at_call 66
  generalize (w5.alloc (.cells #[.slice (some ⟨w4.heap.size, 0, none⟩) 64 64] 22)).alloc (.cells #[.slice (some ⟨w4.heap.size + 1, 0, none⟩) 1 1, .slice (some ad) ln c] 101) = w7 at *
  refine HCN.out.mono ?_
  rintro _ w8 ⟨v8, rfl, hown, hb8⟩
  have hml : ([x1] ++ l).length = 1 + ln := by rw [List.length_append, HLN.out]; rfl
  have hfl : ([x1] ++ l).flatten = x1 ++ l.flatten := by simp
  obtain ⟨a8, c8, hv8, hps8⟩ := ps_own (v := v8) HV.out (by rw [hml]; exact hown) hb8
  rw [hml] at hv8
  subst hv8
  have hk8 : w8.heap[w2.heap.size]? = some (.cells (arr .u8 bk) 112 (0, 0)) := by rw [hb8.block _ (by omega)]; exact hk7
  have hr8 : w8.heap[w.heap.size]? = some (.cells (arr .u8 z32) 25 (0, 0)) := by rw [hb8.block _ (by omega)]; exact hr7'
  have HB8 := hid (Bn HB7.out hb8)
  have HL8 := hid (HL7.out.later hb8)
  have HP8 := hid hps8
  have hz8 := hb8.size
  have HCS := hid (fun (W : World) (h : Below w8.heap.size w8 W) => sum_word a8 c8 ([x1] ++ l) W (HL8.out.later h) (HP8.out.later h) (by rw [hfl, List.length_append, HXL1.out]; omega))
  rw [hml, hfl] at HCS
  have HCL := hid (fun (W : World) (h : Below w8.heap.size w8 W) => closed_word x2 (digest (x1 ++ l.flatten)) W (HL8.out.later h) HXL2.out (digest_len _) HXB2.out (digest_lt _))
  rw [← HH.out] at HCL
  generalize digest (x1 ++ l.flatten) = D1 at *
  clear hown hb8 hps8 HP8 hk7 hr7' HCN HV
  go_wp2_with (refine wpList_load_row rfl 112 _ rfl w2.heap.size rfl 112 (arr .u8 bk) (0, 0) _ hk8 Tryd.underlying112 rfl hba ?_)
  go_at_call 65
  refine (HX5C.out w8).mono ?_
  rintro _ w9 ⟨rfl, hb9⟩
  have HB9 := hid hb9
  clear hb9
  go_wp2_with fail
  go_at_call 61
  refine (HCS.out w9 HB9.out).mono ?_
  rintro _ w10 ⟨rfl, hb10⟩
  have HB10 := hid (Bn HB9.out hb10)
  clear hb10
  go_wp2_with fail
  go_at_call 67
  refine (HCL.out w10 HB10.out).mono ?_
  rintro _ w11 ⟨rfl, hb11⟩
  have hb8b := Bn HB10.out hb11
  have hres : w11.heap[w.heap.size]? = some (.cells (arr .u8 z32) 25 (0, 0)) := by rw [hb8b.block _ (by omega)]; exact hr8
  have hbel := Bn HB8.out hb8b
  have hsz : (arr .u8 MM).size = 32 := by rw [HH.out, arr_size, digest_len]
  have hasz : (Tryd.prog.info? 25).map (·.size) = some (arr .u8 MM).size := by rw [hsz]; exact Tryd.size25'
  clear hb11 hb8b
  go_wp2_with (refine wpList_store_rowTo rfl 25 _ _ rfl rfl w.heap.size (arr .u8 MM) rfl rfl 25 _ hres hasz (by rw [hsz]; rfl) (arr_one _ _) ?_)
  refine bodyPost_ret (results_cell_row (ty := 25) rfl _ _ _ _ _ _ _ rfl (setRow_heap _ _ _ _ _ _ hres) Tryd.underlying25 rfl hasz) rfl ?_
  exact ⟨rfl, below_setRow hbel (Nat.le_refl _) _⟩
end Go.Proofs.YtplinkmagnihmaaDoor.Sh
