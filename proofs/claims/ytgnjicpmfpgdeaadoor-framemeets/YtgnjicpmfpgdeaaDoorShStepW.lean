/-
  The contract of sha.Step, where the program's two tables are as they were laid.
-/
import Derived.Test.YtgnjicpmfpgdeaaDoorShSpread
namespace Go.Proofs.YtgnjicpmfpgdeaaDoor.Sh
open Go.RowKit Sha

/-- The program's two tables lie in memory as its text lays them. -/
structure Laid (w : World) : Prop where
  k : ∀ i, i < 64 → w.cell? ⟨1, i, none⟩ = some (.int .u32 ((kL.getD i 0 : Nat) : Int))
  s : ∀ i, i < 8 → w.cell? ⟨0, i, none⟩ = some (.int .u32 ((Sha.start.list.getD i 0 : Nat) : Int))
  two : 2 ≤ w.heap.size

theorem Laid.later {w w' : World} (h : Laid w) (hb : Below w.heap.size w w') : Laid w' := by
  have h2 := h.two
  refine ⟨fun i hi => ?_, fun i hi => ?_, Nat.le_trans h.two hb.size⟩
  · rw [hb.cell (p := ⟨1, i, none⟩) (by show 1 < _; omega)]; exact h.k i hi
  · rw [hb.cell (p := ⟨0, i, none⟩) (by show 0 < _; omega)]; exact h.s i hi

/-- What the walk of Step keeps from the rounds on. -/
structure MemT (w wr : World) (gw : Nat) (s ws : List Nat) : Prop where
  st : wr.heap[w.heap.size]? = some (.cells (arr .u32 s) 118 (0, 0))
  res : wr.heap[w.heap.size + 1 + 1]? = some (.cells (arr .u32 z8) 118 (0, 0))
  wv : wr.heap[gw]? = some (.cells (arr .u32 ws) 126 (0, 0))
  laid : Laid wr
  bel : Below w.heap.size w wr

theorem Laid.drewN {w : World} (h : Laid w) (n : Nat) : Laid (w.drewN n) := ⟨h.k, h.s, h.two⟩
theorem MemT.drewN {w wr : World} {gw : Nat} {s ws : List Nat} (h : MemT w wr gw s ws) (n : Nat) : MemT w (wr.drewN n) gw s ws := ⟨h.st, h.res, h.wv, h.laid.drewN n, Wd.bel_drewN h.bel n⟩
theorem MemT.put {w wr : World} {gw : Nat} {s ws : List Nat} (h : MemT w wr gw s ws) (h2 : 2 ≤ w.heap.size) (hg : gw ≠ w.heap.size) (i v : Nat) : MemT w (wr.setCell ⟨w.heap.size, i, none⟩ (.int .u32 (v : Int))) gw (s.set i v) ws := by
  have hs : (wr.setCell ⟨w.heap.size, i, none⟩ (.int .u32 (v : Int))).heap.size = wr.heap.size := by simp
  refine ⟨?_, ?_, ?_, ⟨fun k hk => ?_, fun k hk => ?_, by rw [hs]; exact h.laid.two⟩, h.bel.setCell (by simp) _⟩
  · rw [Joins.block_setCell h.st, arr_set]
  · rw [heap_put_other h.st (by omega)]; exact h.res
  · rw [heap_put_other h.st (by omega)]; exact h.wv
  · rw [World.cell?_of_block (w := wr) (heap_put_other h.st (show (1 : Nat) ≠ _ by omega) _)]; exact h.laid.k k hk
  · rw [World.cell?_of_block (w := wr) (heap_put_other h.st (show (0 : Nat) ≠ _ by omega) _)]; exact h.laid.s k hk

theorem MemT.cells {w wr : World} {gw : Nat} {ws : List Nat} {s : St} (hM : MemT w wr gw s.list ws) :
    wr.cell? ⟨w.heap.size, 0, none⟩ = some (.int .u32 (s.a : Int)) ∧ wr.cell? ⟨w.heap.size, 1, none⟩ = some (.int .u32 (s.b : Int)) ∧ wr.cell? ⟨w.heap.size, 2, none⟩ = some (.int .u32 (s.c : Int)) ∧ wr.cell? ⟨w.heap.size, 3, none⟩ = some (.int .u32 (s.d : Int)) ∧
    wr.cell? ⟨w.heap.size, 4, none⟩ = some (.int .u32 (s.e : Int)) ∧ wr.cell? ⟨w.heap.size, 5, none⟩ = some (.int .u32 (s.f : Int)) ∧ wr.cell? ⟨w.heap.size, 6, none⟩ = some (.int .u32 (s.g : Int)) ∧ wr.cell? ⟨w.heap.size, 7, none⟩ = some (.int .u32 (s.h : Int)) :=
  ⟨Joins.cell_of_block hM.st 0, Joins.cell_of_block hM.st 1, Joins.cell_of_block hM.st 2, Joins.cell_of_block hM.st 3, Joins.cell_of_block hM.st 4, Joins.cell_of_block hM.st 5, Joins.cell_of_block hM.st 6, Joins.cell_of_block hM.st 7⟩

theorem add32_comm (a b : Nat) : add32 a b = add32 b a := by unfold add32; rw [Nat.add_comm]
theorem both_comm (s t : St) : both s t = both t s := by unfold both; simp only [add32_comm]
theorem t1_code (h u x k w : Nat) : ((h : Int) + (u : Int) + (x : Int) + (k : Int) + (w : Int)) % 4294967296 = ((add32 (add32 (add32 (add32 h u) x) k) w : Nat) : Int) := by
  unfold add32; omega

theorem Tryd.size117 : (Tryd.prog.info? 117).map (·.size) = some 1 := by kernel_rfl
theorem Tryd.size82 : (Tryd.prog.info? 82).map (·.size) = some 64 := by kernel_rfl

/-- An element of an array of numbers. -/
theorem run_index_arr {P : Program} {t e : TypeId} {n : Nat} {k : IntKind} (ht : P.underlying t = some (.array n e)) (he : P.underlying e = some (.int k)) (hsz : (P.info? e).map (·.size) = some 1) (l : List Nat) (hl : l.length = n) (j : Nat) (hj : j < n) (w : World) :
    (Instr.index t (.agg (arr k l)) (.int .i64 (j : Int))).run P w = .ok (.int k ((l.getD j 0 : Nat) : Int)) w := by
  have hg := arr_get k l j (by omega)
  have hz : (sizeOf e).run P w = .ok 1 w := by
    cases hq : P.info? e with
    | none => simp [hq] at hsz
    | some i =>
      have : i.size = 1 := by simpa [hq] using hsz
      simp [sizeOf, typeInfo, hq, this]
  have ha : (isAgg e).run P w = .ok false w := by
    unfold isAgg
    rw [Sem.run_bind, run_underlying he w]
    rfl
  unfold Instr.index
  simp [Sem.run_bind, asIntOf, run_underlying ht w, hj, hz, part, ha, hg]

theorem t2_code (t u m : Nat) : ((t : Int) + ((u : Int) + (m : Int)) % 4294967296) % 4294967296 = ((add32 t (add32 u m) : Nat) : Int) := by
  unfold add32; omega

set_option maxHeartbeats 8000000 in
set_option maxRecDepth 100000 in
theorem step_word (s : St) (bl : List Nat) (w : World) (hs : s.Ok) (hl : bl.length = 64) (hb : ∀ j, bl.getD j 0 < 256) (hlaid : Laid w) :
    Calls Tryd.prog 88 #[.agg (arr .u32 s.list), .agg (arr .u8 bl)] w fun e w' => e = .returned (.agg (arr .u32 (Sha.step s bl).list)) ∧ Below w.heap.size w w' := by
  have h2 := hlaid.two
  have HSP := hid (fun W : World => spread_word bl W hl hb)
  have HLD := hid hlaid
  have b1 := bel_alloc w (.cells (arr .u32 s.list) 118)
  have s1 : (w.alloc (.cells (arr .u32 s.list) 118)).heap.size = w.heap.size + 1 := by simp
  have e1 := heap_new w (.cells (arr .u32 s.list) 118)
  have b2 := bel_alloc (w.alloc (.cells (arr .u32 s.list) 118)) (.cells (arr .u8 bl) 82)
  have s2 : ((w.alloc (.cells (arr .u32 s.list) 118)).alloc (.cells (arr .u8 bl) 82)).heap.size = w.heap.size + 1 + 1 := by simp
  have e2 := heap_new (w.alloc (.cells (arr .u32 s.list) 118)) (.cells (arr .u8 bl) 82)
  have b3 := bel_alloc ((w.alloc (.cells (arr .u32 s.list) 118)).alloc (.cells (arr .u8 bl) 82)) (.cells (arr .u32 z8) 118)
  have e3 := heap_new ((w.alloc (.cells (arr .u32 s.list) 118)).alloc (.cells (arr .u8 bl) 82)) (.cells (arr .u32 z8) 118)
  have s3 : (((w.alloc (.cells (arr .u32 s.list) 118)).alloc (.cells (arr .u8 bl) 82)).alloc (.cells (arr .u32 z8) 118)).heap.size = w.heap.size + 1 + 1 + 1 := by simp
  rw [s1] at e2
  rw [s2] at e3
  have hbsz : (arr .u8 bl).size = 64 := by rw [arr_size]; exact hl
  clear hlaid hl hb
  have e1' : (((w.alloc (.cells (arr .u32 s.list) 118)).alloc (.cells (arr .u8 bl) 82)).alloc (.cells (arr .u32 z8) 118)).heap[w.heap.size]? = some (.cells (arr .u32 s.list) 118 (0, 0)) := by rw [b3.block _ (by omega), b2.block _ (by omega)]; exact e1
  have e2' : (((w.alloc (.cells (arr .u32 s.list) 118)).alloc (.cells (arr .u8 bl) 82)).alloc (.cells (arr .u32 z8) 118)).heap[w.heap.size + 1]? = some (.cells (arr .u8 bl) 82 (0, 0)) := by rw [b3.block _ (by omega)]; exact e2
  have hB3 := Bn (Bn b1 b2) b3
  clear b1 s1 e1 b2 s2 e2 b3
  have hbs : (Tryd.prog.info? 82).map (·.size) = some (arr .u8 bl).size := by rw [hbsz]; exact Tryd.size82
  go_enter Tryd.func88, Tryd.ntmps88
  go_wp2_with (first
    | (refine wpList_alloc_at rfl 118 rfl (some 4) rfl (arr .u32 z8) Tryd.zero118 (w.heap.size + 1 + 1) (by simp) ?_)
    | (refine wpList_load_row rfl 82 _ rfl (w.heap.size + 1) rfl 82 (arr .u8 bl) (0, 0) _ e2' Tryd.underlying82 rfl hbs ?_))
  generalize ((w.alloc (.cells (arr .u32 s.list) 118)).alloc (.cells (arr .u8 bl) 82)).alloc (.cells (arr .u32 z8) 118) = w3 at *
  go_at_call 95
  refine (HSP.out w3).mono ?_
  rintro _ w4 ⟨rfl, hb4⟩
  have hz4 := hb4.size
  have e5 := heap_new w4 (.cells (arr .u32 z64) 126)
  have hwsz : (arr .u32 (sched bl 64)).size = 64 := by rw [arr_size, sched_length]
  have hws : (Tryd.prog.info? 126).map (·.size) = some (arr .u32 (sched bl 64)).size := by rw [hwsz]; exact Tryd.size126
  have hM : MemT w ((w4.alloc (.cells (arr .u32 z64) 126)).setRow w4.heap.size (arr .u32 (sched bl 64))) w4.heap.size s.list (sched bl 64) := by
    have hB5 : Below w4.heap.size w4 ((w4.alloc (.cells (arr .u32 z64) 126)).setRow w4.heap.size (arr .u32 (sched bl 64))) := below_setRow (bel_alloc _ _) (Nat.le_refl _) _
    have hB' : Below w3.heap.size w3 ((w4.alloc (.cells (arr .u32 z64) 126)).setRow w4.heap.size (arr .u32 (sched bl 64))) := hb4.trans (hB5.mono hz4)
    have hB := Bn hB3 hB'
    refine ⟨?_, ?_, setRow_heap _ _ _ _ _ _ e5, HLD.out.later hB, hB⟩
    · rw [hB'.block _ (by omega)]; exact e1'
    · rw [hB'.block _ (by omega)]; exact e3
  have HM := hid hM
  clear hb4 e1' e2' e3 hM hB3 hbs hbsz HSP HLD
  go_wp2_with (first
    | (refine wpList_alloc_row rfl 126 rfl (some 5) rfl (arr .u32 z64) Tryd.zero126 ?_)
    | (refine wpList_store_rowTo rfl 126 _ _ rfl rfl w4.heap.size (arr .u32 (sched bl 64)) rfl rfl 126 _ e5 hws (by rw [hwsz]; rfl) (arr_one _ _) ?_))
  clear hws hwsz e5
  generalize (w4.alloc (.cells (arr .u32 z64) 126)).setRow w4.heap.size (arr .u32 (sched bl 64)) = w5 at *
  generalize hgw : w4.heap.size = gw at *
  have hgne : gw ≠ w.heap.size := by omega
  clear hgw hz4
  obtain ⟨s0, s1, s2, s3', s4, s5, s6, s7⟩ := HM.out.cells
  go_quiet (fail)
  have hM5 := HM.out.drewN nq
  clear HM s0 s1 s2 s3' s4 s5 s6 s7
  generalize w5.drewN nq = w6 at *
  have HM5 := hid hM5
  clear hM5
  go_wp2_with fail
  go_loopw [6, 7, 8, 9, 10, 11, 12, 13, 37] (fun a b c d e f g h i wr => ∃ (k : Nat) (R : St), k ≤ 64 ∧ R = rounds (sched bl 64) s k ∧ i = .int .i64 k ∧ a = .int .u32 (R.a : Int) ∧ b = .int .u32 (R.b : Int) ∧ c = .int .u32 (R.c : Int) ∧ d = .int .u32 (R.d : Int) ∧ e = .int .u32 (R.e : Int) ∧ f = .int .u32 (R.f : Int) ∧ g = .int .u32 (R.g : Int) ∧ h = .int .u32 (R.h : Int) ∧ MemT w wr gw s.list (sched bl 64)) (fun _ _ _ _ _ _ _ _ i _ => 64 - (intOf i).toNat)
  case atStart =>
    refine ⟨0, s, by omega, rfl, rfl, ?_, ?_, ?_, ?_, ?_, ?_, ?_, ?_, HM5.out⟩ <;> rfl
  case round =>
    obtain ⟨k, R, hk, hR, rfl, rfl, rfl, rfl, rfl, rfl, rfl, rfl, rfl, hM⟩ := hrel
    have HR := hid hR
    have hok : R.Ok := by rw [hR]; exact rounds_ok _ _ hs k
    clear hR
    by_cases hlt : k < 64
    · have hk64 : (k : Int) < 64 := by omega
      have ck := hM.laid.k k hlt
      have cw := (Joins.cell_of_block hM.wv k).trans (arr_get .u32 _ k (by rw [sched_length]; exact hlt))
      have hkl : kL.getD k 0 < 2 ^ 32 := kL_lt k
      have hwl : (sched bl 64).getD k 0 < 2 ^ 32 := by rw [sched_get _ _ _ hlt]; exact wS_lt _ _
      have HN : Hid (rounds (sched bl 64) s (k + 1) = rnd R (kL.getD k 0) ((sched bl 64).getD k 0)) := by
        show _ = _
        rw [HR.out]; rfl
      generalize kL.getD k 0 = kk at *
      generalize (sched bl 64).getD k 0 = ww at *
      obtain ⟨a, b, c, d, e, f, g, h8⟩ := R
      have HM := hid hM
      have oa := hok.a
      have ob := hok.b
      have oc := hok.c
      have od := hok.d
      have oe := hok.e
      have of := hok.f
      have og := hok.g
      have oh := hok.h
      simp only at oa ob oc od oe of og oh
      have HU1 := hid (up1_int e oe)
      have HU0 := hid (up0_int a oa)
      have HC := hid (ch_int e f g oe of og)
      have HMJ := hid (maj_int a b c oa ob oc)
      clear hM hok HR
      go_wp2_with fail
      go_quiet ((go_at_call 96; first | exact Calls.quiet_of_same (right_word e 6 _ _ oe (by decide) (by decide) rfl) | exact Calls.quiet_of_same (right_word e 11 _ _ oe (by decide) (by decide) rfl) | exact Calls.quiet_of_same (right_word e 25 _ _ oe (by decide) (by decide) rfl)))
      rw [HU1.out, HC.out, t1_sum]
      have HT : Hid (t1F ⟨a, b, c, d, e, f, g, h8⟩ kk ww = add32 (add32 (add32 (add32 h8 (up1 e)) ((e &&& f) ^^^ ((e ^^^ 4294967295) &&& g))) kk) ww) := rfl
      have hM1 := HM.out.drewN nq
      have ot1 := add32_lt (add32 (add32 (add32 h8 (up1 e)) ((e &&& f) ^^^ ((e ^^^ 4294967295) &&& g))) kk) ww
      generalize hW1 : wr.drewN nq = W1 at *
      have HM1 := hid hM1
      clear hM1 ck cw HM hW1
      generalize ht1 : add32 (add32 (add32 (add32 h8 (up1 e)) ((e &&& f) ^^^ ((e ^^^ 4294967295) &&& g))) kk) ww = t1 at *
      have HT1 := hid ht1
      clear ht1
      go_wp2_with fail
      go_at_call 96
      refine (right_word a 2 _ _ oa (by decide) (by decide) rfl).mono ?_
      rintro _ w' ⟨rfl, hw⟩
      obtain rfl := hw.symm
      clear hw
      go_wp2_with fail
      go_at_call 96
      refine (right_word a 13 _ _ oa (by decide) (by decide) rfl).mono ?_
      rintro _ w' ⟨rfl, hw⟩
      obtain rfl := hw.symm
      clear hw
      go_wp2_with fail
      go_at_call 96
      refine (right_word a 22 _ _ oa (by decide) (by decide) rfl).mono ?_
      rintro _ w' ⟨rfl, hw⟩
      obtain rfl := hw.symm
      clear hw
      have HT2 : Hid (t2F ⟨a, b, c, d, e, f, g, h8⟩ = add32 (up0 a) ((a &&& b) ^^^ (a &&& c) ^^^ (b &&& c))) := rfl
      go_wp2
      rw [HU0.out, HMJ.out, t2_code, e_sum]
      exact ⟨⟨k + 1, ⟨add32 t1 (add32 (up0 a) ((a &&& b) ^^^ (a &&& c) ^^^ (b &&& c))), a, b, c, add32 d t1, e, f, g⟩, by omega, by rw [HN.out, rnd, HT.out, HT2.out], by go_num, rfl, rfl, rfl, rfl, rfl, rfl, rfl, rfl, HM1.out⟩, by simp [intOf]; omega⟩
    · obtain rfl : k = 64 := by omega
      have HM := hid hM
      have HSTEP : Hid (Sha.step s bl = both s R) := by
        show _ = _
        rw [HR.out, both_comm]; rfl
      clear hM HR
      go_wp2_with fail
      rw [show (Value.agg #[.int .u32 (R.a : Int), .int .u32 (R.b : Int), .int .u32 (R.c : Int), .int .u32 (R.d : Int), .int .u32 (R.e : Int), .int .u32 (R.f : Int), .int .u32 (R.g : Int), .int .u32 (R.h : Int)]) = .agg (arr .u32 R.list) from rfl]
      go_loopw [109] (fun i wr => ∃ j : Nat, j ≤ 8 ∧ i = .int .i64 j ∧ MemT w wr gw (sumsL s.list R.list j) (sched bl 64)) (fun i _ => 8 - (intOf i).toNat)
      case atStart => exact ⟨0, by omega, rfl, HM.out⟩
      case round =>
        obtain ⟨j, hj, rfl, hM⟩ := hrel
        by_cases hlt : j < 8
        · have hj8 : (j : Int) < 8 := by omega
          have hlen := sumsL_length s.list R.list j
          have d0 := (Joins.cell_of_block hM.st j).trans (arr_get .u32 _ j (by rw [hlen]; exact hlt))
          have d1 := fun W : World => run_index_arr (P := Tryd.prog) Tryd.underlying118 Tryd.underlying117 Tryd.size117 R.list rfl j hlt W
          have fz := Joins.unfrozen_of_block hM.st j
          have hput := hM.put h2 hgne j (add32 ((sumsL s.list R.list j).getD j 0) (R.list.getD j 0))
          have HP : Hid (MemT w _ gw (sumsL s.list R.list (j + 1)) (sched bl 64)) := hput
          have HV := hid (e_sum ((sumsL s.list R.list j).getD j 0) (R.list.getD j 0))
          clear hput hM hlen
          generalize (sumsL s.list R.list j).getD j 0 = p at *
          generalize R.list.getD j 0 = q at *
          go_wp2
          rw [HV.out]
          exact ⟨⟨j + 1, by omega, by go_num, HP.out⟩, by simp [intOf]; omega⟩
        · obtain rfl : j = 8 := by omega
          rw [sumsL_all, ← HSTEP.out] at hM
          have hsv := hM.st
          have hres := hM.res
          have hbel := hM.bel
          have hlS : (arr .u32 (Sha.step s bl).list).size = 8 := arr_size _ _
          clear hM HM
          go_wp2_with (first
            | (refine wpList_load_row rfl 118 _ rfl w.heap.size rfl 118 (arr .u32 (Sha.step s bl).list) (0, 0) _ hsv Tryd.underlying118 rfl (by rw [hlS]; exact Tryd.size118) ?_)
            | (refine wpList_store_rowTo rfl 118 _ _ rfl rfl (w.heap.size + 1 + 1) (arr .u32 (Sha.step s bl).list) rfl rfl 118 _ hres (by rw [hlS]; exact Tryd.size118) (by rw [hlS]; rfl) (arr_one _ _) ?_))
          refine bodyPost_ret (results_cell_row (ty := 118) rfl _ _ _ _ _ _ _ rfl (setRow_heap _ _ _ _ _ _ hres) Tryd.underlying118 rfl (by rw [hlS]; exact Tryd.size118)) rfl ?_
          exact ⟨rfl, below_setRow hbel (by omega) _⟩
end Go.Proofs.YtgnjicpmfpgdeaaDoor.Sh
