/-
  The document's Check.
-/
import Derived.Test.YtkfoeijhhfaceabPart08
namespace Go.Proofs.Ytkfoeijhhfaceab
open Go.RowKit Go.Shelf
attribute [local go_sem] Oper.semAt_some

theorem rowB_take {b : Int} {l : List Ext} {k : Nat} (h : rowB b 0 (l.take k) = false) : rowB b 0 l = false := by
  by_cases h2 : rowB b 0 l = true
  · rw [← List.take_append_drop k l] at h2
    rw [rowB_pre b _ _ 0 h2] at h
    cases h
  · simpa using h2
theorem lst_take (l : List Ext) (m : Nat) (h : m < l.length) : lst (l.take (m + 1)) = (l.getD m ex0).1 + (l.getD m ex0).2 + 1 := by rw [ext_take l m h, lst_snoc]
theorem lst_zero (l : List Ext) : lst (l.take 0) = 0 := by simp [lst]

set_option maxHeartbeats 6400000 in
set_option maxRecDepth 100000 in
theorem rcheck_good (b : Int) (a : Option Addr) (cap : Nat) (l : List Ext) (w : World) (hr : Rx w a cap l) (hb0 : 0 ≤ b) (hb1 : b ≤ 4096) :
    Calls Try.prog 6 #[.int .i64 b, .slice a l.length cap] w fun e w' => e = .returned (.int .i64 (if rowB b 0 l = true then 0 else 100)) ∧ Below w.heap.size w w' := by
  obtain ⟨o, ho⟩ : ∃ o : Int, o = if rowB b 0 l = true then 0 else 100 := ⟨_, rfl⟩
  have HO := hid ho
  rw [← ho]
  have hroom := hr.room
  have hmost := hr.most
  unfold maxLen at hmost
  have HR := hid hr
  obtain ⟨len, hln⟩ : ∃ n, n = l.length := ⟨_, rfl⟩
  have HL := hid hln
  rw [← hln] at hroom ⊢
  clear ho hr hln
  have hdb0 : decide (b < 0) = false := decide_eq_false (by omega)
  have hdb1 : decide (4096 < b) = false := decide_eq_false (by omega)
  go_enter Try.func6, Try.ntmps6
  go_wp2
  go_loopw [5] (fun x5 wr => ∃ k : Nat, k ≤ len ∧ x5 = .int .i64 (k : Int) ∧ Hid (rowB b 0 (l.take k) = true) ∧ Hid (Below w.heap.size w wr)) (fun x5 _ => len - (intOf x5).toNat)
  case atStart => exact ⟨0, by omega, rfl, rfl, Below.refl _ _⟩
  case round =>
    obtain ⟨k, hk, rfl, HT, HB⟩ := hrel
    by_cases hlt : k < len
    · have hkz : (k : Int) < (len : Int) := by omega
      have hkl : k < l.length := by rw [← HL.out]; exact hlt
      have hRr := HR.out.later HB.out
      obtain ⟨g, off, hag, hgw, hc⟩ := hRr.cells (by omega)
      subst hag
      obtain ⟨c0, c1⟩ := hc k hkl
      obtain ⟨f0, f1⟩ := hRr.fits k hkl
      have HSN := hid (rowB_snoc b (l.take k) (l.getD k ex0))
      rw [← ext_take l k hkl, HT.out, Bool.true_and] at HSN
      have hls := lst_rng HT.out hb1
      obtain ⟨⟨y, z⟩, hyz⟩ : ∃ x, x = l.getD k ex0 := ⟨_, rfl⟩
      rw [← hyz] at c0 c1 f0 f1 HSN
      dsimp only at c0 c1 f0 f1 HSN
      have HLI : Hid (∀ V, Calls Try.prog 10 #[.int .i64 b, .agg #[.int .i64 y, .int .i64 z]] V fun e w' => e = .returned (.bool (lieB b (y, z))) ∧ Below V.heap.size V w') := fun V => lies_ref b (y, z) V hb0 hb1 f0
      have hy := wf_i64 f0
      rcases Nat.eq_zero_or_pos k with hk0 | hkp
      · subst hk0
        rw [lst_zero] at HSN hls
        rw [Nat.zero_mul, Nat.add_zero] at c0 c1
        have HST : Hid (∀ V, Below wr.heap.size wr V → V.cell? ⟨g, off, none⟩ = some (.int .i64 y) ∧ V.cell? ⟨g, off + 1, none⟩ = some (.int .i64 z) ∧ True ∧ True) := fun V hV => ⟨(hV.cell (p := ⟨g, off, none⟩) hgw).trans c0, (hV.cell (p := ⟨g, off + 1, none⟩) hgw).trans c1, trivial, trivial⟩
        clear hc c0 c1 f0 f1 hRr hyz 
        by_cases hli : lieB b (y, z) = true
        · rw [hli, Bool.and_true] at HSN
          rw [hli] at HLI
          obtain ⟨l1, l2, l3⟩ := (lieB_iff b (y, z)).1 hli
          dsimp only at l1 l2 l3
          go_wp2
          refine wp_region_held_drew (S := fun V => V.cell? ⟨g, off, none⟩ = some (.int .i64 y) ∧ V.cell? ⟨g, off + 1, none⟩ = some (.int .i64 z) ∧ True ∧ True) (by kernel_rfl) (HST.out _ (Below.refl _ wr).drew) (fun hS0 => ?_)
          have HZ0 : Hid (Below wr.heap.size wr wr.drew) := (Below.refl _ wr).drew
          refine Ord.take (i := 0) (d := 18) (v := ?vt00) rfl rfl (by as_aux_lemma => kernel_rfl) (by as_aux_lemma => kernel_rfl) (by as_aux_lemma => kernel_rfl) (fun _ _ _ h => h) (by rfl) ?ht00 (by assumption) ?_
          case ht00 => intro w hSw; go_simp; try with_reducible rfl
          simp only [List.setIfInBounds_toArray, List.set_cons_zero, List.set_cons_succ]
          refine Ord.take (i := 1) (d := 19) (v := ?vt01) rfl rfl (by as_aux_lemma => kernel_rfl) (by as_aux_lemma => kernel_rfl) (by as_aux_lemma => kernel_rfl) (fun _ _ _ h => h) (by rfl) ?ht01 (by assumption) ?_
          case ht01 => intro w hSw; go_simp; try with_reducible rfl
          simp only [List.setIfInBounds_toArray, List.set_cons_zero, List.set_cons_succ]
          refine Ord.take (i := 2) (d := 20) (v := ?vt02) rfl rfl (by as_aux_lemma => kernel_rfl) (by as_aux_lemma => kernel_rfl) (by as_aux_lemma => kernel_rfl) (fun _ _ _ h => h) (by rfl) ?ht02 (by assumption) ?_
          case ht02 => intro w hSw; go_simp; try with_reducible rfl
          simp only [List.setIfInBounds_toArray, List.set_cons_zero, List.set_cons_succ]
          refine Ord.take (i := 3) (d := 21) (v := ?vt03) rfl rfl (by as_aux_lemma => kernel_rfl) (by as_aux_lemma => kernel_rfl) (by as_aux_lemma => kernel_rfl) (fun _ _ _ h => h) (by rfl) ?ht03 (by assumption) ?_
          case ht03 => intro w hSw; go_simp; try with_reducible rfl
          simp only [List.setIfInBounds_toArray, List.set_cons_zero, List.set_cons_succ]
          refine Ord.take (i := 4) (d := 22) (v := .agg #[.int .i64 y, .int .i64 z]) rfl rfl (by as_aux_lemma => kernel_rfl) (by as_aux_lemma => kernel_rfl) (by as_aux_lemma => kernel_rfl) (fun _ _ _ h => h) (by rfl) ?ht04 (by assumption) ?_
          case ht04 => intro w hSw; have e0 := hSw.1; have e1 := hSw.2.1; go_simp; try with_reducible rfl
          simp only [List.setIfInBounds_toArray, List.set_cons_zero, List.set_cons_succ]
          refine wpAnyH_ready (rs := [5]) (by as_aux_lemma => kernel_rfl) (by simp) (AllReadyH.cons rfl (fun K hK => ?_) AllReadyH.nil)
          go_simp
          refine (HLI.out _).mono ?_
          rintro _ v1 ⟨rfl, hbv⟩
          have hS1 := HST.out v1 (HZ0.out.trans (hbv.mono HZ0.out.size))
          have HV1 := hid (Bn HB.out (HZ0.out.trans (hbv.mono HZ0.out.size)))
          refine hK.out _ _ hS1 (fun _ => ?_)
          clear hK K hbv
          try simp only [List.setIfInBounds_toArray, List.set_cons_zero, List.set_cons_succ]
          refine Ord.take (i := 6) (d := 24) (v := ?vt06) rfl rfl (by as_aux_lemma => kernel_rfl) (by as_aux_lemma => kernel_rfl) (by as_aux_lemma => kernel_rfl) (fun _ _ _ h => h) (by rfl) ?ht06 (by assumption) ?_
          case ht06 => intro w hSw; go_simp; try with_reducible rfl
          simp only [List.setIfInBounds_toArray, List.set_cons_zero, List.set_cons_succ]
          refine Ord.take (i := 7) (d := 25) (v := ?vt07) rfl rfl (by as_aux_lemma => kernel_rfl) (by as_aux_lemma => kernel_rfl) (by as_aux_lemma => kernel_rfl) (fun _ _ _ h => h) (by rfl) ?ht07 (by assumption) ?_
          case ht07 => intro w hSw; go_simp; try with_reducible rfl
          simp only [List.setIfInBounds_toArray, List.set_cons_zero, List.set_cons_succ]
          refine Ord.take (i := 8) (d := 26) (v := ?vt08) rfl rfl (by as_aux_lemma => kernel_rfl) (by as_aux_lemma => kernel_rfl) (by as_aux_lemma => kernel_rfl) (fun _ _ _ h => h) (by rfl) ?ht08 (by assumption) ?_
          case ht08 => intro w hSw; go_simp; try with_reducible rfl
          simp only [List.setIfInBounds_toArray, List.set_cons_zero, List.set_cons_succ]
          refine Ord.take (i := 9) (d := 27) (v := .bool false) rfl rfl (by as_aux_lemma => kernel_rfl) (by as_aux_lemma => kernel_rfl) (by as_aux_lemma => kernel_rfl) (fun _ _ _ h => h) (by rfl) ?ht09 (by assumption) ?_
          case ht09 => intro w hSw; go_simp; try with_reducible rfl
          simp only [List.setIfInBounds_toArray, List.set_cons_zero, List.set_cons_succ]
          refine Ord.take (i := 10) (d := 28) (v := ?vt010) rfl rfl (by as_aux_lemma => kernel_rfl) (by as_aux_lemma => kernel_rfl) (by as_aux_lemma => kernel_rfl) (fun _ _ _ h => h) (by rfl) ?ht010 (by assumption) ?_
          case ht010 => intro w hSw; go_simp; try with_reducible rfl
          simp only [List.setIfInBounds_toArray, List.set_cons_zero, List.set_cons_succ]
          refine Ord.skip (i := 11) (d := 29) rfl rfl (by as_aux_lemma => kernel_rfl) (by as_aux_lemma => kernel_rfl) (by as_aux_lemma => kernel_rfl) (fun _ _ _ h => h) (by rfl) (by assumption) ?_
          simp only [List.setIfInBounds_toArray, List.set_cons_zero, List.set_cons_succ]
          refine Ord.skip (i := 12) (d := 30) rfl rfl (by as_aux_lemma => kernel_rfl) (by as_aux_lemma => kernel_rfl) (by as_aux_lemma => kernel_rfl) (fun _ _ _ h => h) (by rfl) (by assumption) ?_
          simp only [List.setIfInBounds_toArray, List.set_cons_zero, List.set_cons_succ]
          refine Ord.skip (i := 13) (d := 31) rfl rfl (by as_aux_lemma => kernel_rfl) (by as_aux_lemma => kernel_rfl) (by as_aux_lemma => kernel_rfl) (fun _ _ _ h => h) (by rfl) (by assumption) ?_
          simp only [List.setIfInBounds_toArray, List.set_cons_zero, List.set_cons_succ]
          refine Ord.skip (i := 14) (d := 32) rfl rfl (by as_aux_lemma => kernel_rfl) (by as_aux_lemma => kernel_rfl) (by as_aux_lemma => kernel_rfl) (fun _ _ _ h => h) (by rfl) (by assumption) ?_
          simp only [List.setIfInBounds_toArray, List.set_cons_zero, List.set_cons_succ]
          refine Ord.skip (i := 15) (d := 33) rfl rfl (by as_aux_lemma => kernel_rfl) (by as_aux_lemma => kernel_rfl) (by as_aux_lemma => kernel_rfl) (fun _ _ _ h => h) (by rfl) (by assumption) ?_
          simp only [List.setIfInBounds_toArray, List.set_cons_zero, List.set_cons_succ]
          refine Ord.skip (i := 16) (d := 34) rfl rfl (by as_aux_lemma => kernel_rfl) (by as_aux_lemma => kernel_rfl) (by as_aux_lemma => kernel_rfl) (fun _ _ _ h => h) (by rfl) (by assumption) ?_
          simp only [List.setIfInBounds_toArray, List.set_cons_zero, List.set_cons_succ]
          refine Ord.skip (i := 17) (d := 35) rfl rfl (by as_aux_lemma => kernel_rfl) (by as_aux_lemma => kernel_rfl) (by as_aux_lemma => kernel_rfl) (fun _ _ _ h => h) (by rfl) (by assumption) ?_
          simp only [List.setIfInBounds_toArray, List.set_cons_zero, List.set_cons_succ]
          refine Ord.skip (i := 18) (d := 36) rfl rfl (by as_aux_lemma => kernel_rfl) (by as_aux_lemma => kernel_rfl) (by as_aux_lemma => kernel_rfl) (fun _ _ _ h => h) (by rfl) (by assumption) ?_
          simp only [List.setIfInBounds_toArray, List.set_cons_zero, List.set_cons_succ]
          refine Ord.skip (i := 19) (d := 37) rfl rfl (by as_aux_lemma => kernel_rfl) (by as_aux_lemma => kernel_rfl) (by as_aux_lemma => kernel_rfl) (fun _ _ _ h => h) (by rfl) (by assumption) ?_
          simp only [List.setIfInBounds_toArray, List.set_cons_zero, List.set_cons_succ]
          refine Ord.skip (i := 20) (d := 38) rfl rfl (by as_aux_lemma => kernel_rfl) (by as_aux_lemma => kernel_rfl) (by as_aux_lemma => kernel_rfl) (fun _ _ _ h => h) (by rfl) (by assumption) ?_
          simp only [List.setIfInBounds_toArray, List.set_cons_zero, List.set_cons_succ]
          refine Ord.skip (i := 21) (d := 39) rfl rfl (by as_aux_lemma => kernel_rfl) (by as_aux_lemma => kernel_rfl) (by as_aux_lemma => kernel_rfl) (fun _ _ _ h => h) (by rfl) (by assumption) ?_
          simp only [List.setIfInBounds_toArray, List.set_cons_zero, List.set_cons_succ]
          refine Ord.skip (i := 22) (d := 40) rfl rfl (by as_aux_lemma => kernel_rfl) (by as_aux_lemma => kernel_rfl) (by as_aux_lemma => kernel_rfl) (fun _ _ _ h => h) (by rfl) (by assumption) ?_
          simp only [List.setIfInBounds_toArray, List.set_cons_zero, List.set_cons_succ]
          refine Ord.skip (i := 23) (d := 41) rfl rfl (by as_aux_lemma => kernel_rfl) (by as_aux_lemma => kernel_rfl) (by as_aux_lemma => kernel_rfl) (fun _ _ _ h => h) (by rfl) (by assumption) ?_
          simp only [List.setIfInBounds_toArray, List.set_cons_zero, List.set_cons_succ]
          refine Ord.skip (i := 24) (d := 42) rfl rfl (by as_aux_lemma => kernel_rfl) (by as_aux_lemma => kernel_rfl) (by as_aux_lemma => kernel_rfl) (fun _ _ _ h => h) (by rfl) (by assumption) ?_
          simp only [List.setIfInBounds_toArray, List.set_cons_zero, List.set_cons_succ]
          refine Ord.skip (i := 25) (d := 43) rfl rfl (by as_aux_lemma => kernel_rfl) (by as_aux_lemma => kernel_rfl) (by as_aux_lemma => kernel_rfl) (fun _ _ _ h => h) (by rfl) (by assumption) ?_
          simp only [List.setIfInBounds_toArray, List.set_cons_zero, List.set_cons_succ]
          refine Ord.skip (i := 26) (d := 44) rfl rfl (by as_aux_lemma => kernel_rfl) (by as_aux_lemma => kernel_rfl) (by as_aux_lemma => kernel_rfl) (fun _ _ _ h => h) (by rfl) (by assumption) ?_
          simp only [List.setIfInBounds_toArray, List.set_cons_zero, List.set_cons_succ]
          refine Ord.skip (i := 27) (d := 45) rfl rfl (by as_aux_lemma => kernel_rfl) (by as_aux_lemma => kernel_rfl) (by as_aux_lemma => kernel_rfl) (fun _ _ _ h => h) (by rfl) (by assumption) ?_
          simp only [List.setIfInBounds_toArray, List.set_cons_zero, List.set_cons_succ]
          refine Ord.skip (i := 28) (d := 46) rfl rfl (by as_aux_lemma => kernel_rfl) (by as_aux_lemma => kernel_rfl) (by as_aux_lemma => kernel_rfl) (fun _ _ _ h => h) (by rfl) (by assumption) ?_
          simp only [List.setIfInBounds_toArray, List.set_cons_zero, List.set_cons_succ]
          refine Ord.skip (i := 29) (d := 47) rfl rfl (by as_aux_lemma => kernel_rfl) (by as_aux_lemma => kernel_rfl) (by as_aux_lemma => kernel_rfl) (fun _ _ _ h => h) (by rfl) (by assumption) ?_
          simp only [List.setIfInBounds_toArray, List.set_cons_zero, List.set_cons_succ]
          refine Ord.take (i := 30) (d := 48) (v := ?vt030) rfl rfl (by as_aux_lemma => kernel_rfl) (by as_aux_lemma => kernel_rfl) (by as_aux_lemma => kernel_rfl) (fun _ _ _ h => h) (by rfl) ?ht030 (by assumption) ?_
          case ht030 => intro w hSw; go_simp; try with_reducible rfl
          simp only [List.setIfInBounds_toArray, List.set_cons_zero, List.set_cons_succ]
          refine Ord.take (i := 31) (d := 49) (v := ?vt031) rfl rfl (by as_aux_lemma => kernel_rfl) (by as_aux_lemma => kernel_rfl) (by as_aux_lemma => kernel_rfl) (fun _ _ _ h => h) (by rfl) ?ht031 (by assumption) ?_
          case ht031 => intro w hSw; go_simp; try with_reducible rfl
          simp only [List.setIfInBounds_toArray, List.set_cons_zero, List.set_cons_succ]
          refine wpAnyH_done (by as_aux_lemma => kernel_rfl) ?_ _
          rw [decide_eq_true (show (0 : Int) ≤ y from l1)] at HSN
          go_wp2
          exact ⟨⟨0 + 1, by omega, by go_num, HSN, HV1⟩, by simp [intOf]; omega⟩
        · have hlf : lieB b (y, z) = false := by simpa using hli
          rw [hlf, Bool.and_false] at HSN
          rw [hlf] at HLI
          have ho := HO.out
          rw [if_neg (by rw [rowB_take HSN.out]; simp)] at ho
          subst ho
          go_wp2
          refine wp_region_held_drew (S := fun V => V.cell? ⟨g, off, none⟩ = some (.int .i64 y) ∧ V.cell? ⟨g, off + 1, none⟩ = some (.int .i64 z) ∧ True ∧ True) (by kernel_rfl) (HST.out _ (Below.refl _ wr).drew) (fun hS0 => ?_)
          have HZ0 : Hid (Below wr.heap.size wr wr.drew) := (Below.refl _ wr).drew
          refine Ord.take (i := 0) (d := 18) (v := ?vf00) rfl rfl (by as_aux_lemma => kernel_rfl) (by as_aux_lemma => kernel_rfl) (by as_aux_lemma => kernel_rfl) (fun _ _ _ h => h) (by rfl) ?hf00 (by assumption) ?_
          case hf00 => intro w hSw; go_simp; try with_reducible rfl
          simp only [List.setIfInBounds_toArray, List.set_cons_zero, List.set_cons_succ]
          refine Ord.take (i := 1) (d := 19) (v := ?vf01) rfl rfl (by as_aux_lemma => kernel_rfl) (by as_aux_lemma => kernel_rfl) (by as_aux_lemma => kernel_rfl) (fun _ _ _ h => h) (by rfl) ?hf01 (by assumption) ?_
          case hf01 => intro w hSw; go_simp; try with_reducible rfl
          simp only [List.setIfInBounds_toArray, List.set_cons_zero, List.set_cons_succ]
          refine Ord.take (i := 2) (d := 20) (v := ?vf02) rfl rfl (by as_aux_lemma => kernel_rfl) (by as_aux_lemma => kernel_rfl) (by as_aux_lemma => kernel_rfl) (fun _ _ _ h => h) (by rfl) ?hf02 (by assumption) ?_
          case hf02 => intro w hSw; go_simp; try with_reducible rfl
          simp only [List.setIfInBounds_toArray, List.set_cons_zero, List.set_cons_succ]
          refine Ord.take (i := 3) (d := 21) (v := ?vf03) rfl rfl (by as_aux_lemma => kernel_rfl) (by as_aux_lemma => kernel_rfl) (by as_aux_lemma => kernel_rfl) (fun _ _ _ h => h) (by rfl) ?hf03 (by assumption) ?_
          case hf03 => intro w hSw; go_simp; try with_reducible rfl
          simp only [List.setIfInBounds_toArray, List.set_cons_zero, List.set_cons_succ]
          refine Ord.take (i := 4) (d := 22) (v := .agg #[.int .i64 y, .int .i64 z]) rfl rfl (by as_aux_lemma => kernel_rfl) (by as_aux_lemma => kernel_rfl) (by as_aux_lemma => kernel_rfl) (fun _ _ _ h => h) (by rfl) ?hf04 (by assumption) ?_
          case hf04 => intro w hSw; have e0 := hSw.1; have e1 := hSw.2.1; go_simp; try with_reducible rfl
          simp only [List.setIfInBounds_toArray, List.set_cons_zero, List.set_cons_succ]
          refine wpAnyH_ready (rs := [5]) (by as_aux_lemma => kernel_rfl) (by simp) (AllReadyH.cons rfl (fun K hK => ?_) AllReadyH.nil)
          go_simp
          refine (HLI.out _).mono ?_
          rintro _ v1 ⟨rfl, hbv⟩
          have hS1 := HST.out v1 (HZ0.out.trans (hbv.mono HZ0.out.size))
          have HV1 := hid (Bn HB.out (HZ0.out.trans (hbv.mono HZ0.out.size)))
          refine hK.out _ _ hS1 (fun _ => ?_)
          clear hK K hbv
          try simp only [List.setIfInBounds_toArray, List.set_cons_zero, List.set_cons_succ]
          refine Ord.take (i := 6) (d := 24) (v := ?vf06) rfl rfl (by as_aux_lemma => kernel_rfl) (by as_aux_lemma => kernel_rfl) (by as_aux_lemma => kernel_rfl) (fun _ _ _ h => h) (by rfl) ?hf06 (by assumption) ?_
          case hf06 => intro w hSw; go_simp; try with_reducible rfl
          simp only [List.setIfInBounds_toArray, List.set_cons_zero, List.set_cons_succ]
          refine Ord.take (i := 7) (d := 25) (v := ?vf07) rfl rfl (by as_aux_lemma => kernel_rfl) (by as_aux_lemma => kernel_rfl) (by as_aux_lemma => kernel_rfl) (fun _ _ _ h => h) (by rfl) ?hf07 (by assumption) ?_
          case hf07 => intro w hSw; go_simp; try with_reducible rfl
          simp only [List.setIfInBounds_toArray, List.set_cons_zero, List.set_cons_succ]
          refine Ord.skip (i := 8) (d := 26) rfl rfl (by as_aux_lemma => kernel_rfl) (by as_aux_lemma => kernel_rfl) (by as_aux_lemma => kernel_rfl) (fun _ _ _ h => h) (by rfl) (by assumption) ?_
          simp only [List.setIfInBounds_toArray, List.set_cons_zero, List.set_cons_succ]
          refine Ord.skip (i := 9) (d := 27) rfl rfl (by as_aux_lemma => kernel_rfl) (by as_aux_lemma => kernel_rfl) (by as_aux_lemma => kernel_rfl) (fun _ _ _ h => h) (by rfl) (by assumption) ?_
          simp only [List.setIfInBounds_toArray, List.set_cons_zero, List.set_cons_succ]
          refine Ord.skip (i := 10) (d := 28) rfl rfl (by as_aux_lemma => kernel_rfl) (by as_aux_lemma => kernel_rfl) (by as_aux_lemma => kernel_rfl) (fun _ _ _ h => h) (by rfl) (by assumption) ?_
          simp only [List.setIfInBounds_toArray, List.set_cons_zero, List.set_cons_succ]
          refine Ord.skip (i := 11) (d := 29) rfl rfl (by as_aux_lemma => kernel_rfl) (by as_aux_lemma => kernel_rfl) (by as_aux_lemma => kernel_rfl) (fun _ _ _ h => h) (by rfl) (by assumption) ?_
          simp only [List.setIfInBounds_toArray, List.set_cons_zero, List.set_cons_succ]
          refine Ord.skip (i := 12) (d := 30) rfl rfl (by as_aux_lemma => kernel_rfl) (by as_aux_lemma => kernel_rfl) (by as_aux_lemma => kernel_rfl) (fun _ _ _ h => h) (by rfl) (by assumption) ?_
          simp only [List.setIfInBounds_toArray, List.set_cons_zero, List.set_cons_succ]
          refine Ord.skip (i := 13) (d := 31) rfl rfl (by as_aux_lemma => kernel_rfl) (by as_aux_lemma => kernel_rfl) (by as_aux_lemma => kernel_rfl) (fun _ _ _ h => h) (by rfl) (by assumption) ?_
          simp only [List.setIfInBounds_toArray, List.set_cons_zero, List.set_cons_succ]
          refine Ord.skip (i := 14) (d := 32) rfl rfl (by as_aux_lemma => kernel_rfl) (by as_aux_lemma => kernel_rfl) (by as_aux_lemma => kernel_rfl) (fun _ _ _ h => h) (by rfl) (by assumption) ?_
          simp only [List.setIfInBounds_toArray, List.set_cons_zero, List.set_cons_succ]
          refine Ord.skip (i := 15) (d := 33) rfl rfl (by as_aux_lemma => kernel_rfl) (by as_aux_lemma => kernel_rfl) (by as_aux_lemma => kernel_rfl) (fun _ _ _ h => h) (by rfl) (by assumption) ?_
          simp only [List.setIfInBounds_toArray, List.set_cons_zero, List.set_cons_succ]
          refine Ord.skip (i := 16) (d := 34) rfl rfl (by as_aux_lemma => kernel_rfl) (by as_aux_lemma => kernel_rfl) (by as_aux_lemma => kernel_rfl) (fun _ _ _ h => h) (by rfl) (by assumption) ?_
          simp only [List.setIfInBounds_toArray, List.set_cons_zero, List.set_cons_succ]
          refine Ord.skip (i := 17) (d := 35) rfl rfl (by as_aux_lemma => kernel_rfl) (by as_aux_lemma => kernel_rfl) (by as_aux_lemma => kernel_rfl) (fun _ _ _ h => h) (by rfl) (by assumption) ?_
          simp only [List.setIfInBounds_toArray, List.set_cons_zero, List.set_cons_succ]
          refine Ord.skip (i := 18) (d := 36) rfl rfl (by as_aux_lemma => kernel_rfl) (by as_aux_lemma => kernel_rfl) (by as_aux_lemma => kernel_rfl) (fun _ _ _ h => h) (by rfl) (by assumption) ?_
          simp only [List.setIfInBounds_toArray, List.set_cons_zero, List.set_cons_succ]
          refine Ord.skip (i := 19) (d := 37) rfl rfl (by as_aux_lemma => kernel_rfl) (by as_aux_lemma => kernel_rfl) (by as_aux_lemma => kernel_rfl) (fun _ _ _ h => h) (by rfl) (by assumption) ?_
          simp only [List.setIfInBounds_toArray, List.set_cons_zero, List.set_cons_succ]
          refine Ord.skip (i := 20) (d := 38) rfl rfl (by as_aux_lemma => kernel_rfl) (by as_aux_lemma => kernel_rfl) (by as_aux_lemma => kernel_rfl) (fun _ _ _ h => h) (by rfl) (by assumption) ?_
          simp only [List.setIfInBounds_toArray, List.set_cons_zero, List.set_cons_succ]
          refine Ord.skip (i := 21) (d := 39) rfl rfl (by as_aux_lemma => kernel_rfl) (by as_aux_lemma => kernel_rfl) (by as_aux_lemma => kernel_rfl) (fun _ _ _ h => h) (by rfl) (by assumption) ?_
          simp only [List.setIfInBounds_toArray, List.set_cons_zero, List.set_cons_succ]
          refine Ord.skip (i := 22) (d := 40) rfl rfl (by as_aux_lemma => kernel_rfl) (by as_aux_lemma => kernel_rfl) (by as_aux_lemma => kernel_rfl) (fun _ _ _ h => h) (by rfl) (by assumption) ?_
          simp only [List.setIfInBounds_toArray, List.set_cons_zero, List.set_cons_succ]
          refine Ord.skip (i := 23) (d := 41) rfl rfl (by as_aux_lemma => kernel_rfl) (by as_aux_lemma => kernel_rfl) (by as_aux_lemma => kernel_rfl) (fun _ _ _ h => h) (by rfl) (by assumption) ?_
          simp only [List.setIfInBounds_toArray, List.set_cons_zero, List.set_cons_succ]
          refine Ord.skip (i := 24) (d := 42) rfl rfl (by as_aux_lemma => kernel_rfl) (by as_aux_lemma => kernel_rfl) (by as_aux_lemma => kernel_rfl) (fun _ _ _ h => h) (by rfl) (by assumption) ?_
          simp only [List.setIfInBounds_toArray, List.set_cons_zero, List.set_cons_succ]
          refine Ord.skip (i := 25) (d := 43) rfl rfl (by as_aux_lemma => kernel_rfl) (by as_aux_lemma => kernel_rfl) (by as_aux_lemma => kernel_rfl) (fun _ _ _ h => h) (by rfl) (by assumption) ?_
          simp only [List.setIfInBounds_toArray, List.set_cons_zero, List.set_cons_succ]
          refine Ord.skip (i := 26) (d := 44) rfl rfl (by as_aux_lemma => kernel_rfl) (by as_aux_lemma => kernel_rfl) (by as_aux_lemma => kernel_rfl) (fun _ _ _ h => h) (by rfl) (by assumption) ?_
          simp only [List.setIfInBounds_toArray, List.set_cons_zero, List.set_cons_succ]
          refine Ord.skip (i := 27) (d := 45) rfl rfl (by as_aux_lemma => kernel_rfl) (by as_aux_lemma => kernel_rfl) (by as_aux_lemma => kernel_rfl) (fun _ _ _ h => h) (by rfl) (by assumption) ?_
          simp only [List.setIfInBounds_toArray, List.set_cons_zero, List.set_cons_succ]
          refine Ord.skip (i := 28) (d := 46) rfl rfl (by as_aux_lemma => kernel_rfl) (by as_aux_lemma => kernel_rfl) (by as_aux_lemma => kernel_rfl) (fun _ _ _ h => h) (by rfl) (by assumption) ?_
          simp only [List.setIfInBounds_toArray, List.set_cons_zero, List.set_cons_succ]
          refine Ord.skip (i := 29) (d := 47) rfl rfl (by as_aux_lemma => kernel_rfl) (by as_aux_lemma => kernel_rfl) (by as_aux_lemma => kernel_rfl) (fun _ _ _ h => h) (by rfl) (by assumption) ?_
          simp only [List.setIfInBounds_toArray, List.set_cons_zero, List.set_cons_succ]
          refine Ord.skip (i := 30) (d := 48) rfl rfl (by as_aux_lemma => kernel_rfl) (by as_aux_lemma => kernel_rfl) (by as_aux_lemma => kernel_rfl) (fun _ _ _ h => h) (by rfl) (by assumption) ?_
          simp only [List.setIfInBounds_toArray, List.set_cons_zero, List.set_cons_succ]
          refine Ord.take (i := 31) (d := 49) (v := ?vf031) rfl rfl (by as_aux_lemma => kernel_rfl) (by as_aux_lemma => kernel_rfl) (by as_aux_lemma => kernel_rfl) (fun _ _ _ h => h) (by rfl) ?hf031 (by assumption) ?_
          case hf031 => intro w hSw; go_simp; try with_reducible rfl
          simp only [List.setIfInBounds_toArray, List.set_cons_zero, List.set_cons_succ]
          refine wpAnyH_done (by as_aux_lemma => kernel_rfl) ?_ _
          go_wp2
          go_ret
          exact ⟨rfl, HV1.out⟩
      · obtain ⟨m, hm⟩ : ∃ m, k = m + 1 := ⟨k - 1, by omega⟩
        obtain ⟨r0, r1⟩ := hc m (by omega)
        have hlt2 := lst_take l m (by omega)
        rw [← hm] at hlt2
        rw [hlt2] at HSN hls
        clear hlt2
        have hmem : l.getD m ex0 ∈ l.take k := by rw [hm, ext_take l m (by omega)]; simp
        obtain ⟨hn, hu, _⟩ := (rowB_iff b (l.take k) 0).1 HT.out
        have hp1 := hn.pos _ hmem
        have hp2 := hu _ hmem
        obtain ⟨⟨q0, q1⟩, hq⟩ : ∃ x, x = l.getD m ex0 := ⟨_, rfl⟩
        rw [← hq] at r0 r1 HSN hls hp1 hp2
        dsimp only at r0 r1 HSN hls hp1 hp2
        have HWR : Hid (IntKind.i64.wrap (q0 + q1) = q0 + q1) := hid (IntWalk.i64_in _ ⟨by omega, by omega⟩)
        have HST : Hid (∀ V, Below wr.heap.size wr V → V.cell? ⟨g, off + k * 2, none⟩ = some (.int .i64 y) ∧ V.cell? ⟨g, off + k * 2 + 1, none⟩ = some (.int .i64 z) ∧ V.cell? ⟨g, off + m * 2, none⟩ = some (.int .i64 q0) ∧ V.cell? ⟨g, off + m * 2 + 1, none⟩ = some (.int .i64 q1)) := fun V hV => ⟨(hV.cell (p := ⟨g, off + k * 2, none⟩) hgw).trans c0, (hV.cell (p := ⟨g, off + k * 2 + 1, none⟩) hgw).trans c1, (hV.cell (p := ⟨g, off + m * 2, none⟩) hgw).trans r0, (hV.cell (p := ⟨g, off + m * 2 + 1, none⟩) hgw).trans r1⟩
        have HKM : Hid (IntKind.i64.wrap ((k : Int) - 1) = (m : Int)) := by show _ = _; rw [IntWalk.i64_in _ ⟨by omega, by omega⟩]; omega
        have hkp2 : (0 : Int) < (k : Int) := by omega
        have hdk : decide ((0 : Int) < (k : Int)) = true := decide_eq_true hkp2
        have hdk2 : decide (0 < k) = true := decide_eq_true (by omega)
        have HM := hid hm
        have hml : (m : Int) < (len : Int) := by omega
        have hm0 : (0 : Int) ≤ (m : Int) := by omega
        clear hc c0 c1 f0 f1 hRr hyz r0 r1 hq hmem hn hu hm
        by_cases hli : lieB b (y, z) = true
        · rw [hli, Bool.and_true] at HSN
          rw [hli] at HLI
          obtain ⟨l1, l2, l3⟩ := (lieB_iff b (y, z)).1 hli
          dsimp only at l1 l2 l3
          go_wp2
          refine wp_region_held_drew (S := fun V => V.cell? ⟨g, off + k * 2, none⟩ = some (.int .i64 y) ∧ V.cell? ⟨g, off + k * 2 + 1, none⟩ = some (.int .i64 z) ∧ V.cell? ⟨g, off + m * 2, none⟩ = some (.int .i64 q0) ∧ V.cell? ⟨g, off + m * 2 + 1, none⟩ = some (.int .i64 q1)) (by kernel_rfl) (HST.out _ (Below.refl _ wr).drew) (fun hS0 => ?_)
          have HZ0 : Hid (Below wr.heap.size wr wr.drew) := (Below.refl _ wr).drew
          refine Ord.take (i := 0) (d := 18) (v := ?vt10) rfl rfl (by as_aux_lemma => kernel_rfl) (by as_aux_lemma => kernel_rfl) (by as_aux_lemma => kernel_rfl) (fun _ _ _ h => h) (by rfl) ?ht10 (by assumption) ?_
          case ht10 => intro w hSw; go_simp; try with_reducible rfl
          simp only [List.setIfInBounds_toArray, List.set_cons_zero, List.set_cons_succ]
          refine Ord.take (i := 1) (d := 19) (v := ?vt11) rfl rfl (by as_aux_lemma => kernel_rfl) (by as_aux_lemma => kernel_rfl) (by as_aux_lemma => kernel_rfl) (fun _ _ _ h => h) (by rfl) ?ht11 (by assumption) ?_
          case ht11 => intro w hSw; go_simp; try with_reducible rfl
          simp only [List.setIfInBounds_toArray, List.set_cons_zero, List.set_cons_succ]
          refine Ord.take (i := 2) (d := 20) (v := ?vt12) rfl rfl (by as_aux_lemma => kernel_rfl) (by as_aux_lemma => kernel_rfl) (by as_aux_lemma => kernel_rfl) (fun _ _ _ h => h) (by rfl) ?ht12 (by assumption) ?_
          case ht12 => intro w hSw; go_simp; try with_reducible rfl
          simp only [List.setIfInBounds_toArray, List.set_cons_zero, List.set_cons_succ]
          refine Ord.take (i := 3) (d := 21) (v := ?vt13) rfl rfl (by as_aux_lemma => kernel_rfl) (by as_aux_lemma => kernel_rfl) (by as_aux_lemma => kernel_rfl) (fun _ _ _ h => h) (by rfl) ?ht13 (by assumption) ?_
          case ht13 => intro w hSw; go_simp; try with_reducible rfl
          simp only [List.setIfInBounds_toArray, List.set_cons_zero, List.set_cons_succ]
          refine Ord.take (i := 4) (d := 22) (v := .agg #[.int .i64 y, .int .i64 z]) rfl rfl (by as_aux_lemma => kernel_rfl) (by as_aux_lemma => kernel_rfl) (by as_aux_lemma => kernel_rfl) (fun _ _ _ h => h) (by rfl) ?ht14 (by assumption) ?_
          case ht14 => intro w hSw; have e0 := hSw.1; have e1 := hSw.2.1; go_simp; try with_reducible rfl
          simp only [List.setIfInBounds_toArray, List.set_cons_zero, List.set_cons_succ]
          refine wpAnyH_ready (rs := [5]) (by as_aux_lemma => kernel_rfl) (by simp) (AllReadyH.cons rfl (fun K hK => ?_) AllReadyH.nil)
          go_simp
          refine (HLI.out _).mono ?_
          rintro _ v1 ⟨rfl, hbv⟩
          have hS1 := HST.out v1 (HZ0.out.trans (hbv.mono HZ0.out.size))
          have HV1 := hid (Bn HB.out (HZ0.out.trans (hbv.mono HZ0.out.size)))
          refine hK.out _ _ hS1 (fun _ => ?_)
          clear hK K hbv
          try simp only [List.setIfInBounds_toArray, List.set_cons_zero, List.set_cons_succ]
          refine Ord.take (i := 6) (d := 24) (v := ?vt16) rfl rfl (by as_aux_lemma => kernel_rfl) (by as_aux_lemma => kernel_rfl) (by as_aux_lemma => kernel_rfl) (fun _ _ _ h => h) (by rfl) ?ht16 (by assumption) ?_
          case ht16 => intro w hSw; go_simp; try with_reducible rfl
          simp only [List.setIfInBounds_toArray, List.set_cons_zero, List.set_cons_succ]
          refine Ord.take (i := 7) (d := 25) (v := ?vt17) rfl rfl (by as_aux_lemma => kernel_rfl) (by as_aux_lemma => kernel_rfl) (by as_aux_lemma => kernel_rfl) (fun _ _ _ h => h) (by rfl) ?ht17 (by assumption) ?_
          case ht17 => intro w hSw; go_simp; try with_reducible rfl
          simp only [List.setIfInBounds_toArray, List.set_cons_zero, List.set_cons_succ]
          refine Ord.take (i := 8) (d := 26) (v := ?vt18) rfl rfl (by as_aux_lemma => kernel_rfl) (by as_aux_lemma => kernel_rfl) (by as_aux_lemma => kernel_rfl) (fun _ _ _ h => h) (by rfl) ?ht18 (by assumption) ?_
          case ht18 => intro w hSw; go_simp; try with_reducible rfl
          simp only [List.setIfInBounds_toArray, List.set_cons_zero, List.set_cons_succ]
          refine Ord.take (i := 9) (d := 27) (v := .bool true) rfl rfl (by as_aux_lemma => kernel_rfl) (by as_aux_lemma => kernel_rfl) (by as_aux_lemma => kernel_rfl) (fun _ _ _ h => h) (by rfl) ?ht19 (by assumption) ?_
          case ht19 => intro w hSw; go_simp; try with_reducible rfl
          simp only [List.setIfInBounds_toArray, List.set_cons_zero, List.set_cons_succ]
          refine Ord.take (i := 10) (d := 28) (v := ?vt110) rfl rfl (by as_aux_lemma => kernel_rfl) (by as_aux_lemma => kernel_rfl) (by as_aux_lemma => kernel_rfl) (fun _ _ _ h => h) (by rfl) ?ht110 (by assumption) ?_
          case ht110 => intro w hSw; go_simp; try with_reducible rfl
          simp only [List.setIfInBounds_toArray, List.set_cons_zero, List.set_cons_succ]
          refine Ord.take (i := 11) (d := 29) (v := ?vt111) rfl rfl (by as_aux_lemma => kernel_rfl) (by as_aux_lemma => kernel_rfl) (by as_aux_lemma => kernel_rfl) (fun _ _ _ h => h) (by rfl) ?ht111 (by assumption) ?_
          case ht111 => intro w hSw; go_simp; try with_reducible rfl
          simp only [List.setIfInBounds_toArray, List.set_cons_zero, List.set_cons_succ]
          refine Ord.take (i := 12) (d := 30) (v := ?vt112) rfl rfl (by as_aux_lemma => kernel_rfl) (by as_aux_lemma => kernel_rfl) (by as_aux_lemma => kernel_rfl) (fun _ _ _ h => h) (by rfl) ?ht112 (by assumption) ?_
          case ht112 => intro w hSw; go_simp; try with_reducible rfl
          simp only [List.setIfInBounds_toArray, List.set_cons_zero, List.set_cons_succ]
          refine Ord.take (i := 13) (d := 31) (v := ?vt113) rfl rfl (by as_aux_lemma => kernel_rfl) (by as_aux_lemma => kernel_rfl) (by as_aux_lemma => kernel_rfl) (fun _ _ _ h => h) (by rfl) ?ht113 (by assumption) ?_
          case ht113 => intro w hSw; go_simp; try with_reducible rfl
          simp only [List.setIfInBounds_toArray, List.set_cons_zero, List.set_cons_succ]
          refine Ord.take (i := 14) (d := 32) (v := ?vt114) rfl rfl (by as_aux_lemma => kernel_rfl) (by as_aux_lemma => kernel_rfl) (by as_aux_lemma => kernel_rfl) (fun _ _ _ h => h) (by rfl) ?ht114 (by assumption) ?_
          case ht114 => intro w hSw; go_simp; try with_reducible rfl
          simp only [List.setIfInBounds_toArray, List.set_cons_zero, List.set_cons_succ]
          refine Ord.take (i := 15) (d := 33) (v := .int .i64 y) rfl rfl (by as_aux_lemma => kernel_rfl) (by as_aux_lemma => kernel_rfl) (by as_aux_lemma => kernel_rfl) (fun _ _ _ h => h) (by rfl) ?ht115 (by assumption) ?_
          case ht115 => intro w hSw; have e0 := hSw.1; have e1 := hSw.2.1; go_simp; try with_reducible rfl
          simp only [List.setIfInBounds_toArray, List.set_cons_zero, List.set_cons_succ]
          refine Ord.take (i := 16) (d := 34) (v := ?vt116) rfl rfl (by as_aux_lemma => kernel_rfl) (by as_aux_lemma => kernel_rfl) (by as_aux_lemma => kernel_rfl) (fun _ _ _ h => h) (by rfl) ?ht116 (by assumption) ?_
          case ht116 => intro w hSw; go_simp; try with_reducible rfl
          simp only [List.setIfInBounds_toArray, List.set_cons_zero, List.set_cons_succ]
          refine Ord.take (i := 17) (d := 35) (v := ?vt117) rfl rfl (by as_aux_lemma => kernel_rfl) (by as_aux_lemma => kernel_rfl) (by as_aux_lemma => kernel_rfl) (fun _ _ _ h => h) (by rfl) ?ht117 (by assumption) ?_
          case ht117 => intro w hSw; go_simp; try with_reducible rfl
          simp only [List.setIfInBounds_toArray, List.set_cons_zero, List.set_cons_succ]
          refine Ord.take (i := 18) (d := 36) (v := .int .i64 (m : Int)) rfl rfl (by as_aux_lemma => kernel_rfl) (by as_aux_lemma => kernel_rfl) (by as_aux_lemma => kernel_rfl) (fun _ _ _ h => h) (by rfl) ?ht118 (by assumption) ?_
          case ht118 => intro w hSw; go_simp; exact HKM.out
          simp only [List.setIfInBounds_toArray, List.set_cons_zero, List.set_cons_succ]
          refine Ord.take (i := 19) (d := 37) (v := ?vt119) rfl rfl (by as_aux_lemma => kernel_rfl) (by as_aux_lemma => kernel_rfl) (by as_aux_lemma => kernel_rfl) (fun _ _ _ h => h) (by rfl) ?ht119 (by assumption) ?_
          case ht119 => intro w hSw; go_simp; try with_reducible rfl
          simp only [List.setIfInBounds_toArray, List.set_cons_zero, List.set_cons_succ]
          refine Ord.take (i := 20) (d := 38) (v := ?vt120) rfl rfl (by as_aux_lemma => kernel_rfl) (by as_aux_lemma => kernel_rfl) (by as_aux_lemma => kernel_rfl) (fun _ _ _ h => h) (by rfl) ?ht120 (by assumption) ?_
          case ht120 => intro w hSw; go_simp; try with_reducible rfl
          simp only [List.setIfInBounds_toArray, List.set_cons_zero, List.set_cons_succ]
          refine Ord.take (i := 21) (d := 39) (v := .int .i64 q0) rfl rfl (by as_aux_lemma => kernel_rfl) (by as_aux_lemma => kernel_rfl) (by as_aux_lemma => kernel_rfl) (fun _ _ _ h => h) (by rfl) ?ht121 (by assumption) ?_
          case ht121 => intro w hSw; have p0 := hSw.2.2.1; have p1 := hSw.2.2.2; go_simp; try with_reducible rfl
          simp only [List.setIfInBounds_toArray, List.set_cons_zero, List.set_cons_succ]
          refine Ord.take (i := 22) (d := 40) (v := ?vt122) rfl rfl (by as_aux_lemma => kernel_rfl) (by as_aux_lemma => kernel_rfl) (by as_aux_lemma => kernel_rfl) (fun _ _ _ h => h) (by rfl) ?ht122 (by assumption) ?_
          case ht122 => intro w hSw; go_simp; try with_reducible rfl
          simp only [List.setIfInBounds_toArray, List.set_cons_zero, List.set_cons_succ]
          refine Ord.take (i := 23) (d := 41) (v := ?vt123) rfl rfl (by as_aux_lemma => kernel_rfl) (by as_aux_lemma => kernel_rfl) (by as_aux_lemma => kernel_rfl) (fun _ _ _ h => h) (by rfl) ?ht123 (by assumption) ?_
          case ht123 => intro w hSw; go_simp; try with_reducible rfl
          simp only [List.setIfInBounds_toArray, List.set_cons_zero, List.set_cons_succ]
          refine Ord.take (i := 24) (d := 42) (v := .int .i64 (m : Int)) rfl rfl (by as_aux_lemma => kernel_rfl) (by as_aux_lemma => kernel_rfl) (by as_aux_lemma => kernel_rfl) (fun _ _ _ h => h) (by rfl) ?ht124 (by assumption) ?_
          case ht124 => intro w hSw; go_simp; exact HKM.out
          simp only [List.setIfInBounds_toArray, List.set_cons_zero, List.set_cons_succ]
          refine Ord.take (i := 25) (d := 43) (v := ?vt125) rfl rfl (by as_aux_lemma => kernel_rfl) (by as_aux_lemma => kernel_rfl) (by as_aux_lemma => kernel_rfl) (fun _ _ _ h => h) (by rfl) ?ht125 (by assumption) ?_
          case ht125 => intro w hSw; go_simp; try with_reducible rfl
          simp only [List.setIfInBounds_toArray, List.set_cons_zero, List.set_cons_succ]
          refine Ord.take (i := 26) (d := 44) (v := ?vt126) rfl rfl (by as_aux_lemma => kernel_rfl) (by as_aux_lemma => kernel_rfl) (by as_aux_lemma => kernel_rfl) (fun _ _ _ h => h) (by rfl) ?ht126 (by assumption) ?_
          case ht126 => intro w hSw; go_simp; try with_reducible rfl
          simp only [List.setIfInBounds_toArray, List.set_cons_zero, List.set_cons_succ]
          refine Ord.take (i := 27) (d := 45) (v := .int .i64 q1) rfl rfl (by as_aux_lemma => kernel_rfl) (by as_aux_lemma => kernel_rfl) (by as_aux_lemma => kernel_rfl) (fun _ _ _ h => h) (by rfl) ?ht127 (by assumption) ?_
          case ht127 => intro w hSw; have p0 := hSw.2.2.1; have p1 := hSw.2.2.2; go_simp; try with_reducible rfl
          simp only [List.setIfInBounds_toArray, List.set_cons_zero, List.set_cons_succ]
          refine Ord.take (i := 28) (d := 46) (v := .int .i64 (q0 + q1)) rfl rfl (by as_aux_lemma => kernel_rfl) (by as_aux_lemma => kernel_rfl) (by as_aux_lemma => kernel_rfl) (fun _ _ _ h => h) (by rfl) ?ht128 (by assumption) ?_
          case ht128 => intro w hSw; go_simp; exact HWR.out
          simp only [List.setIfInBounds_toArray, List.set_cons_zero, List.set_cons_succ]
          refine Ord.take (i := 29) (d := 47) (v := .bool (decide (y ≤ q0 + q1))) rfl rfl (by as_aux_lemma => kernel_rfl) (by as_aux_lemma => kernel_rfl) (by as_aux_lemma => kernel_rfl) (fun _ _ _ h => h) (by rfl) ?ht129 (by assumption) ?_
          case ht129 => intro w hSw; go_simp; try with_reducible rfl
          simp only [List.setIfInBounds_toArray, List.set_cons_zero, List.set_cons_succ]
          refine Ord.take (i := 30) (d := 48) (v := .bool (decide (y ≤ q0 + q1))) rfl rfl (by as_aux_lemma => kernel_rfl) (by as_aux_lemma => kernel_rfl) (by as_aux_lemma => kernel_rfl) (fun _ _ _ h => h) (by rfl) ?ht130 (by assumption) ?_
          case ht130 => intro w hSw; go_simp; try with_reducible rfl
          simp only [List.setIfInBounds_toArray, List.set_cons_zero, List.set_cons_succ]
          refine Ord.take (i := 31) (d := 49) (v := .bool (decide (y ≤ q0 + q1))) rfl rfl (by as_aux_lemma => kernel_rfl) (by as_aux_lemma => kernel_rfl) (by as_aux_lemma => kernel_rfl) (fun _ _ _ h => h) (by rfl) ?ht131 (by assumption) ?_
          case ht131 => intro w hSw; go_simp; try with_reducible rfl
          simp only [List.setIfInBounds_toArray, List.set_cons_zero, List.set_cons_succ]
          refine wpAnyH_done (by as_aux_lemma => kernel_rfl) ?_ _
          by_cases hle : y ≤ q0 + q1
          · have hdl : decide (y ≤ q0 + q1) = true := decide_eq_true hle
            rw [hdl]
            have ho := HO.out
            rw [if_neg (by rw [rowB_take (k := k + 1) (by rw [HSN.out, decide_eq_false (by omega)])]; simp)] at ho
            subst ho
            go_wp2
            go_ret
            exact ⟨rfl, HV1.out⟩
          · have hdl : decide (y ≤ q0 + q1) = false := decide_eq_false hle
            rw [hdl]
            rw [decide_eq_true (show q0 + q1 + 1 ≤ y from by omega)] at HSN
            go_wp2
            exact ⟨⟨k + 1, by omega, by go_num, HSN, HV1⟩, by simp [intOf]; omega⟩
        · have hlf : lieB b (y, z) = false := by simpa using hli
          rw [hlf, Bool.and_false] at HSN
          rw [hlf] at HLI
          have ho := HO.out
          rw [if_neg (by rw [rowB_take HSN.out]; simp)] at ho
          subst ho
          go_wp2
          refine wp_region_held_drew (S := fun V => V.cell? ⟨g, off + k * 2, none⟩ = some (.int .i64 y) ∧ V.cell? ⟨g, off + k * 2 + 1, none⟩ = some (.int .i64 z) ∧ V.cell? ⟨g, off + m * 2, none⟩ = some (.int .i64 q0) ∧ V.cell? ⟨g, off + m * 2 + 1, none⟩ = some (.int .i64 q1)) (by kernel_rfl) (HST.out _ (Below.refl _ wr).drew) (fun hS0 => ?_)
          have HZ0 : Hid (Below wr.heap.size wr wr.drew) := (Below.refl _ wr).drew
          refine Ord.take (i := 0) (d := 18) (v := ?vf10) rfl rfl (by as_aux_lemma => kernel_rfl) (by as_aux_lemma => kernel_rfl) (by as_aux_lemma => kernel_rfl) (fun _ _ _ h => h) (by rfl) ?hf10 (by assumption) ?_
          case hf10 => intro w hSw; go_simp; try with_reducible rfl
          simp only [List.setIfInBounds_toArray, List.set_cons_zero, List.set_cons_succ]
          refine Ord.take (i := 1) (d := 19) (v := ?vf11) rfl rfl (by as_aux_lemma => kernel_rfl) (by as_aux_lemma => kernel_rfl) (by as_aux_lemma => kernel_rfl) (fun _ _ _ h => h) (by rfl) ?hf11 (by assumption) ?_
          case hf11 => intro w hSw; go_simp; try with_reducible rfl
          simp only [List.setIfInBounds_toArray, List.set_cons_zero, List.set_cons_succ]
          refine Ord.take (i := 2) (d := 20) (v := ?vf12) rfl rfl (by as_aux_lemma => kernel_rfl) (by as_aux_lemma => kernel_rfl) (by as_aux_lemma => kernel_rfl) (fun _ _ _ h => h) (by rfl) ?hf12 (by assumption) ?_
          case hf12 => intro w hSw; go_simp; try with_reducible rfl
          simp only [List.setIfInBounds_toArray, List.set_cons_zero, List.set_cons_succ]
          refine Ord.take (i := 3) (d := 21) (v := ?vf13) rfl rfl (by as_aux_lemma => kernel_rfl) (by as_aux_lemma => kernel_rfl) (by as_aux_lemma => kernel_rfl) (fun _ _ _ h => h) (by rfl) ?hf13 (by assumption) ?_
          case hf13 => intro w hSw; go_simp; try with_reducible rfl
          simp only [List.setIfInBounds_toArray, List.set_cons_zero, List.set_cons_succ]
          refine Ord.take (i := 4) (d := 22) (v := .agg #[.int .i64 y, .int .i64 z]) rfl rfl (by as_aux_lemma => kernel_rfl) (by as_aux_lemma => kernel_rfl) (by as_aux_lemma => kernel_rfl) (fun _ _ _ h => h) (by rfl) ?hf14 (by assumption) ?_
          case hf14 => intro w hSw; have e0 := hSw.1; have e1 := hSw.2.1; go_simp; try with_reducible rfl
          simp only [List.setIfInBounds_toArray, List.set_cons_zero, List.set_cons_succ]
          refine wpAnyH_ready (rs := [5]) (by as_aux_lemma => kernel_rfl) (by simp) (AllReadyH.cons rfl (fun K hK => ?_) AllReadyH.nil)
          go_simp
          refine (HLI.out _).mono ?_
          rintro _ v1 ⟨rfl, hbv⟩
          have hS1 := HST.out v1 (HZ0.out.trans (hbv.mono HZ0.out.size))
          have HV1 := hid (Bn HB.out (HZ0.out.trans (hbv.mono HZ0.out.size)))
          refine hK.out _ _ hS1 (fun _ => ?_)
          clear hK K hbv
          try simp only [List.setIfInBounds_toArray, List.set_cons_zero, List.set_cons_succ]
          refine Ord.take (i := 6) (d := 24) (v := ?vf16) rfl rfl (by as_aux_lemma => kernel_rfl) (by as_aux_lemma => kernel_rfl) (by as_aux_lemma => kernel_rfl) (fun _ _ _ h => h) (by rfl) ?hf16 (by assumption) ?_
          case hf16 => intro w hSw; go_simp; try with_reducible rfl
          simp only [List.setIfInBounds_toArray, List.set_cons_zero, List.set_cons_succ]
          refine Ord.take (i := 7) (d := 25) (v := ?vf17) rfl rfl (by as_aux_lemma => kernel_rfl) (by as_aux_lemma => kernel_rfl) (by as_aux_lemma => kernel_rfl) (fun _ _ _ h => h) (by rfl) ?hf17 (by assumption) ?_
          case hf17 => intro w hSw; go_simp; try with_reducible rfl
          simp only [List.setIfInBounds_toArray, List.set_cons_zero, List.set_cons_succ]
          refine Ord.skip (i := 8) (d := 26) rfl rfl (by as_aux_lemma => kernel_rfl) (by as_aux_lemma => kernel_rfl) (by as_aux_lemma => kernel_rfl) (fun _ _ _ h => h) (by rfl) (by assumption) ?_
          simp only [List.setIfInBounds_toArray, List.set_cons_zero, List.set_cons_succ]
          refine Ord.skip (i := 9) (d := 27) rfl rfl (by as_aux_lemma => kernel_rfl) (by as_aux_lemma => kernel_rfl) (by as_aux_lemma => kernel_rfl) (fun _ _ _ h => h) (by rfl) (by assumption) ?_
          simp only [List.setIfInBounds_toArray, List.set_cons_zero, List.set_cons_succ]
          refine Ord.skip (i := 10) (d := 28) rfl rfl (by as_aux_lemma => kernel_rfl) (by as_aux_lemma => kernel_rfl) (by as_aux_lemma => kernel_rfl) (fun _ _ _ h => h) (by rfl) (by assumption) ?_
          simp only [List.setIfInBounds_toArray, List.set_cons_zero, List.set_cons_succ]
          refine Ord.skip (i := 11) (d := 29) rfl rfl (by as_aux_lemma => kernel_rfl) (by as_aux_lemma => kernel_rfl) (by as_aux_lemma => kernel_rfl) (fun _ _ _ h => h) (by rfl) (by assumption) ?_
          simp only [List.setIfInBounds_toArray, List.set_cons_zero, List.set_cons_succ]
          refine Ord.skip (i := 12) (d := 30) rfl rfl (by as_aux_lemma => kernel_rfl) (by as_aux_lemma => kernel_rfl) (by as_aux_lemma => kernel_rfl) (fun _ _ _ h => h) (by rfl) (by assumption) ?_
          simp only [List.setIfInBounds_toArray, List.set_cons_zero, List.set_cons_succ]
          refine Ord.skip (i := 13) (d := 31) rfl rfl (by as_aux_lemma => kernel_rfl) (by as_aux_lemma => kernel_rfl) (by as_aux_lemma => kernel_rfl) (fun _ _ _ h => h) (by rfl) (by assumption) ?_
          simp only [List.setIfInBounds_toArray, List.set_cons_zero, List.set_cons_succ]
          refine Ord.skip (i := 14) (d := 32) rfl rfl (by as_aux_lemma => kernel_rfl) (by as_aux_lemma => kernel_rfl) (by as_aux_lemma => kernel_rfl) (fun _ _ _ h => h) (by rfl) (by assumption) ?_
          simp only [List.setIfInBounds_toArray, List.set_cons_zero, List.set_cons_succ]
          refine Ord.skip (i := 15) (d := 33) rfl rfl (by as_aux_lemma => kernel_rfl) (by as_aux_lemma => kernel_rfl) (by as_aux_lemma => kernel_rfl) (fun _ _ _ h => h) (by rfl) (by assumption) ?_
          simp only [List.setIfInBounds_toArray, List.set_cons_zero, List.set_cons_succ]
          refine Ord.skip (i := 16) (d := 34) rfl rfl (by as_aux_lemma => kernel_rfl) (by as_aux_lemma => kernel_rfl) (by as_aux_lemma => kernel_rfl) (fun _ _ _ h => h) (by rfl) (by assumption) ?_
          simp only [List.setIfInBounds_toArray, List.set_cons_zero, List.set_cons_succ]
          refine Ord.skip (i := 17) (d := 35) rfl rfl (by as_aux_lemma => kernel_rfl) (by as_aux_lemma => kernel_rfl) (by as_aux_lemma => kernel_rfl) (fun _ _ _ h => h) (by rfl) (by assumption) ?_
          simp only [List.setIfInBounds_toArray, List.set_cons_zero, List.set_cons_succ]
          refine Ord.skip (i := 18) (d := 36) rfl rfl (by as_aux_lemma => kernel_rfl) (by as_aux_lemma => kernel_rfl) (by as_aux_lemma => kernel_rfl) (fun _ _ _ h => h) (by rfl) (by assumption) ?_
          simp only [List.setIfInBounds_toArray, List.set_cons_zero, List.set_cons_succ]
          refine Ord.skip (i := 19) (d := 37) rfl rfl (by as_aux_lemma => kernel_rfl) (by as_aux_lemma => kernel_rfl) (by as_aux_lemma => kernel_rfl) (fun _ _ _ h => h) (by rfl) (by assumption) ?_
          simp only [List.setIfInBounds_toArray, List.set_cons_zero, List.set_cons_succ]
          refine Ord.skip (i := 20) (d := 38) rfl rfl (by as_aux_lemma => kernel_rfl) (by as_aux_lemma => kernel_rfl) (by as_aux_lemma => kernel_rfl) (fun _ _ _ h => h) (by rfl) (by assumption) ?_
          simp only [List.setIfInBounds_toArray, List.set_cons_zero, List.set_cons_succ]
          refine Ord.skip (i := 21) (d := 39) rfl rfl (by as_aux_lemma => kernel_rfl) (by as_aux_lemma => kernel_rfl) (by as_aux_lemma => kernel_rfl) (fun _ _ _ h => h) (by rfl) (by assumption) ?_
          simp only [List.setIfInBounds_toArray, List.set_cons_zero, List.set_cons_succ]
          refine Ord.skip (i := 22) (d := 40) rfl rfl (by as_aux_lemma => kernel_rfl) (by as_aux_lemma => kernel_rfl) (by as_aux_lemma => kernel_rfl) (fun _ _ _ h => h) (by rfl) (by assumption) ?_
          simp only [List.setIfInBounds_toArray, List.set_cons_zero, List.set_cons_succ]
          refine Ord.skip (i := 23) (d := 41) rfl rfl (by as_aux_lemma => kernel_rfl) (by as_aux_lemma => kernel_rfl) (by as_aux_lemma => kernel_rfl) (fun _ _ _ h => h) (by rfl) (by assumption) ?_
          simp only [List.setIfInBounds_toArray, List.set_cons_zero, List.set_cons_succ]
          refine Ord.skip (i := 24) (d := 42) rfl rfl (by as_aux_lemma => kernel_rfl) (by as_aux_lemma => kernel_rfl) (by as_aux_lemma => kernel_rfl) (fun _ _ _ h => h) (by rfl) (by assumption) ?_
          simp only [List.setIfInBounds_toArray, List.set_cons_zero, List.set_cons_succ]
          refine Ord.skip (i := 25) (d := 43) rfl rfl (by as_aux_lemma => kernel_rfl) (by as_aux_lemma => kernel_rfl) (by as_aux_lemma => kernel_rfl) (fun _ _ _ h => h) (by rfl) (by assumption) ?_
          simp only [List.setIfInBounds_toArray, List.set_cons_zero, List.set_cons_succ]
          refine Ord.skip (i := 26) (d := 44) rfl rfl (by as_aux_lemma => kernel_rfl) (by as_aux_lemma => kernel_rfl) (by as_aux_lemma => kernel_rfl) (fun _ _ _ h => h) (by rfl) (by assumption) ?_
          simp only [List.setIfInBounds_toArray, List.set_cons_zero, List.set_cons_succ]
          refine Ord.skip (i := 27) (d := 45) rfl rfl (by as_aux_lemma => kernel_rfl) (by as_aux_lemma => kernel_rfl) (by as_aux_lemma => kernel_rfl) (fun _ _ _ h => h) (by rfl) (by assumption) ?_
          simp only [List.setIfInBounds_toArray, List.set_cons_zero, List.set_cons_succ]
          refine Ord.skip (i := 28) (d := 46) rfl rfl (by as_aux_lemma => kernel_rfl) (by as_aux_lemma => kernel_rfl) (by as_aux_lemma => kernel_rfl) (fun _ _ _ h => h) (by rfl) (by assumption) ?_
          simp only [List.setIfInBounds_toArray, List.set_cons_zero, List.set_cons_succ]
          refine Ord.skip (i := 29) (d := 47) rfl rfl (by as_aux_lemma => kernel_rfl) (by as_aux_lemma => kernel_rfl) (by as_aux_lemma => kernel_rfl) (fun _ _ _ h => h) (by rfl) (by assumption) ?_
          simp only [List.setIfInBounds_toArray, List.set_cons_zero, List.set_cons_succ]
          refine Ord.skip (i := 30) (d := 48) rfl rfl (by as_aux_lemma => kernel_rfl) (by as_aux_lemma => kernel_rfl) (by as_aux_lemma => kernel_rfl) (fun _ _ _ h => h) (by rfl) (by assumption) ?_
          simp only [List.setIfInBounds_toArray, List.set_cons_zero, List.set_cons_succ]
          refine Ord.take (i := 31) (d := 49) (v := ?vf131) rfl rfl (by as_aux_lemma => kernel_rfl) (by as_aux_lemma => kernel_rfl) (by as_aux_lemma => kernel_rfl) (fun _ _ _ h => h) (by rfl) ?hf131 (by assumption) ?_
          case hf131 => intro w hSw; go_simp; try with_reducible rfl
          simp only [List.setIfInBounds_toArray, List.set_cons_zero, List.set_cons_succ]
          refine wpAnyH_done (by as_aux_lemma => kernel_rfl) ?_ _
          go_wp2
          go_ret
          exact ⟨rfl, HV1.out⟩
    · obtain rfl : k = len := by omega
      have hkz : ¬ (k : Int) < (k : Int) := by omega
      have HTT : Hid (l.take k = l) := List.take_of_length_le (by rw [← HL.out]; omega)
      rw [HTT.out] at HT
      have ho := HO.out
      rw [if_pos HT.out] at ho
      subst ho
      go_wp2
      go_ret
      exact ⟨rfl, HB.out⟩
end Go.Proofs.Ytkfoeijhhfaceab
