/-
 The contract of sha.Step, where the program's two tables are as they were laid.
-/
import Derived.Test.YtibjlbcnapoblaaGreatDoorPart29
import Derived.Deep.OwnRows
import Derived.Deep.MidRow
import Derived.StillTailTactics
import Derived.OrdersHeld
import Derived.RegionTactic
import Derived.WalkKit
namespace Go.Proofs.YtibjlbcnapoblaaGreatDoor.Sh
open Go.RowKit Sha

structure Laid (w : World) : Prop where
 k : ∀ i, i < 64 → w.cell? ⟨1, i, none⟩ = some (.int .u32 ((kL.getD i 0 : Nat) : Int))
 s : ∀ i, i < 8 → w.cell? ⟨0, i, none⟩ = some (.int .u32 ((Sha.start.list.getD i 0 : Nat) : Int))
 two : 2 ≤ w.heap.size

theorem Laid.later {w w' : World} (h : Laid w) (hb : Below w.heap.size w w') : Laid w' := by
 have h2 := h.two
 refine ⟨fun i hi => ?_, fun i hi => ?_, Nat.le_trans h.two hb.size⟩
 · rw [hb.cell (p := ⟨1, i, none⟩) (by show 1 < _; omega)]; exact h.k i hi
 · rw [hb.cell (p := ⟨0, i, none⟩) (by show 0 < _; omega)]; exact h.s i hi

structure MemT (w wr : World) (gw : Nat) (s ws : List Nat) : Prop where
 st : wr.heap[w.heap.size]? = some (.cells (arr .u32 s) 95 (0, 0))
 res : wr.heap[w.heap.size + 1 + 1]? = some (.cells (arr .u32 z8) 95 (0, 0))
 wv : wr.heap[gw]? = some (.cells (arr .u32 ws) 138 (0, 0))
 laid : Laid wr
 bel : Below w.heap.size w wr

theorem Laid.drewN {w : World} (h : Laid w) (n : Nat) : Laid (w.drewN n) := ⟨h.k, h.s, h.two⟩
theorem MemT.drewN {w wr : World} {gw : Nat} {s ws : List Nat} (h : MemT w wr gw s ws) (n : Nat) : MemT w (wr.drewN n) gw s ws := ⟨h.st, h.res, h.wv, h.laid.drewN n, Wd.bel_drewN h.bel n⟩
theorem MemT.put {w wr : World} {gw : Nat} {s ws : List Nat} (h : MemT w wr gw s ws) (h2 : 2 ≤ w.heap.size) (hg : gw ≠ w.heap.size) (i v : Nat) : MemT w (wr.setCell ⟨w.heap.size, i, none⟩ (.int .u32 (v : Int))) gw (s.set i v) ws := by
 have hs : (wr.setCell ⟨w.heap.size, i, none⟩ (.int .u32 (v : Int))).heap.size = wr.heap.size := by simp
 refine ⟨?_, ?_, ?_, ⟨fun k hk => ?_, fun k hk => ?_, by rw [hs]; exact h.laid.two⟩, h.bel.setCell (by simp) _⟩
 · rw [Joins.block_setCell h.st, arr_set]
 · rw [heap_put_other h.st (by omega)]; exact h.res
 · rw [heap_put_other h.st (by omega)]; exact h.wv
 · rw [World.cell?_of_block (w := wr) (heap_put_other h.st (show (1 : Nat) ≠ _ by omega) _)]; exact h.laid.k k hk
 · rw [World.cell?_of_block (w := wr) (heap_put_other h.st (show (0 : Nat) ≠ _ by omega) _)]; exact h.laid.s k hk

theorem MemT.cells {w wr : World} {gw : Nat} {ws : List Nat} {s : St} (hM : MemT w wr gw s.list ws) :
   wr.cell? ⟨w.heap.size, 0, none⟩ = some (.int .u32 (s.a : Int)) ∧ wr.cell? ⟨w.heap.size, 1, none⟩ = some (.int .u32 (s.b : Int)) ∧ wr.cell? ⟨w.heap.size, 2, none⟩ = some (.int .u32 (s.c : Int)) ∧ wr.cell? ⟨w.heap.size, 3, none⟩ = some (.int .u32 (s.d : Int)) ∧
   wr.cell? ⟨w.heap.size, 4, none⟩ = some (.int .u32 (s.e : Int)) ∧ wr.cell? ⟨w.heap.size, 5, none⟩ = some (.int .u32 (s.f : Int)) ∧ wr.cell? ⟨w.heap.size, 6, none⟩ = some (.int .u32 (s.g : Int)) ∧ wr.cell? ⟨w.heap.size, 7, none⟩ = some (.int .u32 (s.h : Int)) :=
 ⟨Joins.cell_of_block hM.st 0, Joins.cell_of_block hM.st 1, Joins.cell_of_block hM.st 2, Joins.cell_of_block hM.st 3, Joins.cell_of_block hM.st 4, Joins.cell_of_block hM.st 5, Joins.cell_of_block hM.st 6, Joins.cell_of_block hM.st 7⟩

theorem add32_comm (a b : Nat) : add32 a b = add32 b a := by unfold add32; rw [Nat.add_comm]
theorem both_comm (s t : St) : both s t = both t s := by unfold both; simp only [add32_comm]
theorem Tryz.size56 : (Tryz.prog.info? 56).map (·.size) = some 1 := by kernel_rfl
theorem Tryz.size96 : (Tryz.prog.info? 96).map (·.size) = some 64 := by kernel_rfl

theorem run_index_arr {P : Program} {t e : TypeId} {n : Nat} {k : IntKind} (ht : P.underlying t = some (.array n e)) (he : P.underlying e = some (.int k)) (hsz : (P.info? e).map (·.size) = some 1) (l : List Nat) (hl : l.length = n) (j : Nat) (hj : j < n) (w : World) :
   (Instr.index t (.agg (arr k l)) (.int .i64 (j : Int))).run P w = .ok (.int k ((l.getD j 0 : Nat) : Int)) w := by
 have hg := arr_get k l j (by omega)
 have hz : (sizeOf e).run P w = .ok 1 w := by
   cases hq : P.info? e with
   | none => simp [hq] at hsz
   | some i =>
     have : i.size = 1 := by simpa [hq] using hsz
     simp [sizeOf, typeInfo, hq, this]
 have ha : (isAgg e).run P w = .ok false w := by
   unfold isAgg
   rw [Sem.run_bind, run_underlying he w]
   rfl
 unfold Instr.index
 simp [Sem.run_bind, asIntOf, run_underlying ht w, hj, hz, part, ha, hg]

theorem t2_code (t u m : Nat) : ((t : Int) + ((u : Int) + (m : Int)) % 4294967296) % 4294967296 = ((add32 t (add32 u m) : Nat) : Int) := by
 unfold add32; omega

set_option maxHeartbeats 8000000 in
set_option maxRecDepth 100000 in
theorem step_word (s : St) (bl : List Nat) (w : World) (hs : s.Ok) (hl : bl.length = 64) (hb : ∀ j, bl.getD j 0 < 256) (hlaid : Laid w) :
   Calls Tryz.prog 58 #[.agg (arr .u32 s.list), .agg (arr .u8 bl)] w fun e w' => e = .returned (.agg (arr .u32 (Sha.step s bl).list)) ∧ Below w.heap.size w w' := by
 have h2 := hlaid.two
 have HSP := hid (fun W : World => spread_word bl W hl hb)
 have HLD := hid hlaid
 have b1 := bel_alloc w (.cells (arr .u32 s.list) 95)
 have s1 : (w.alloc (.cells (arr .u32 s.list) 95)).heap.size = w.heap.size + 1 := by simp
 have e1 := heap_new w (.cells (arr .u32 s.list) 95)
 have b2 := bel_alloc (w.alloc (.cells (arr .u32 s.list) 95)) (.cells (arr .u8 bl) 96)
 have s2 : ((w.alloc (.cells (arr .u32 s.list) 95)).alloc (.cells (arr .u8 bl) 96)).heap.size = w.heap.size + 1 + 1 := by simp
 have e2 := heap_new (w.alloc (.cells (arr .u32 s.list) 95)) (.cells (arr .u8 bl) 96)
 have b3 := bel_alloc ((w.alloc (.cells (arr .u32 s.list) 95)).alloc (.cells (arr .u8 bl) 96)) (.cells (arr .u32 z8) 95)
 have e3 := heap_new ((w.alloc (.cells (arr .u32 s.list) 95)).alloc (.cells (arr .u8 bl) 96)) (.cells (arr .u32 z8) 95)
 have s3 : (((w.alloc (.cells (arr .u32 s.list) 95)).alloc (.cells (arr .u8 bl) 96)).alloc (.cells (arr .u32 z8) 95)).heap.size = w.heap.size + 1 + 1 + 1 := by simp
 rw [s1] at e2
 rw [s2] at e3
 have hbsz : (arr .u8 bl).size = 64 := by rw [arr_size]; exact hl
 clear hlaid hl hb
 have e1' : (((w.alloc (.cells (arr .u32 s.list) 95)).alloc (.cells (arr .u8 bl) 96)).alloc (.cells (arr .u32 z8) 95)).heap[w.heap.size]? = some (.cells (arr .u32 s.list) 95 (0, 0)) := by rw [b3.block _ (by omega), b2.block _ (by omega)]; exact e1
 have e2' : (((w.alloc (.cells (arr .u32 s.list) 95)).alloc (.cells (arr .u8 bl) 96)).alloc (.cells (arr .u32 z8) 95)).heap[w.heap.size + 1]? = some (.cells (arr .u8 bl) 96 (0, 0)) := by rw [b3.block _ (by omega)]; exact e2
 have hB3 := Bn (Bn b1 b2) b3
 clear b1 s1 e1 b2 s2 e2 b3
 have hbs : (Tryz.prog.info? 96).map (·.size) = some (arr .u8 bl).size := by rw [hbsz]; exact Tryz.size96
 go_enter Tryz.func58, Tryz.ntmps58
 go_wp2_with (first
   | (refine wpList_alloc_at rfl 95 rfl (some 4) rfl (arr .u32 z8) Tryz.zero95 (w.heap.size + 1 + 1) (by simp) ?_)
   | (refine wpList_load_row rfl 96 _ rfl (w.heap.size + 1) rfl 96 (arr .u8 bl) (0, 0) _ e2' Tryz.underlying96 rfl hbs ?_))
 generalize ((w.alloc (.cells (arr .u32 s.list) 95)).alloc (.cells (arr .u8 bl) 96)).alloc (.cells (arr .u32 z8) 95) = w3 at *
 go_at_call 88
 refine (HSP.out w3).mono ?_
 rintro _ w4 ⟨rfl, hb4⟩
 have hz4 := hb4.size
 have e5 := heap_new w4 (.cells (arr .u32 z64) 138)
 have hwsz : (arr .u32 (sched bl 64)).size = 64 := by rw [arr_size, sched_length]
 have hws : (Tryz.prog.info? 138).map (·.size) = some (arr .u32 (sched bl 64)).size := by rw [hwsz]; exact Tryz.size138
 have hM : MemT w ((w4.alloc (.cells (arr .u32 z64) 138)).setRow w4.heap.size (arr .u32 (sched bl 64))) w4.heap.size s.list (sched bl 64) := by
   have hB5 : Below w4.heap.size w4 ((w4.alloc (.cells (arr .u32 z64) 138)).setRow w4.heap.size (arr .u32 (sched bl 64))) := below_setRow (bel_alloc _ _) (Nat.le_refl _) _
   have hB' : Below w3.heap.size w3 ((w4.alloc (.cells (arr .u32 z64) 138)).setRow w4.heap.size (arr .u32 (sched bl 64))) := hb4.trans (hB5.mono hz4)
   have hB := Bn hB3 hB'
   refine ⟨?_, ?_, setRow_heap _ _ _ _ _ _ e5, HLD.out.later hB, hB⟩
   · rw [hB'.block _ (by omega)]; exact e1'
   · rw [hB'.block _ (by omega)]; exact e3
 have HM := hid hM
 clear hb4 e1' e2' e3 hM hB3 hbs hbsz HSP HLD
 go_wp2_with (first
   | (refine wpList_alloc_row rfl 138 rfl (some 5) rfl (arr .u32 z64) Tryz.zero138 ?_)
   | (refine wpList_store_rowTo rfl 138 _ _ rfl rfl w4.heap.size (arr .u32 (sched bl 64)) rfl rfl 138 _ e5 hws (by rw [hwsz]; rfl) (arr_one _ _) ?_))
 clear hws hwsz e5
 generalize (w4.alloc (.cells (arr .u32 z64) 138)).setRow w4.heap.size (arr .u32 (sched bl 64)) = w5 at *
 generalize hgw : w4.heap.size = gw at *
 have hgne : gw ≠ w.heap.size := by omega
 clear hgw hz4
 obtain ⟨s0, s1, s2, s3', s4, s5, s6, s7⟩ := HM.out.cells
 go_quiet (fail)
 have hM5 := HM.out.drewN nq
 clear HM s0 s1 s2 s3' s4 s5 s6 s7
 generalize w5.drewN nq = w6 at *
 have HM5 := hid hM5
 clear hM5
 go_wp2_with fail
 go_loopw [6, 7, 8, 9, 10, 11, 12, 13, 37] (fun a b c d e f g h i wr => ∃ (k : Nat) (R : St), k ≤ 64 ∧ R = rounds (sched bl 64) s k ∧ i = .int .i64 k ∧ a = .int .u32 (R.a : Int) ∧ b = .int .u32 (R.b : Int) ∧ c = .int .u32 (R.c : Int) ∧ d = .int .u32 (R.d : Int) ∧ e = .int .u32 (R.e : Int) ∧ f = .int .u32 (R.f : Int) ∧ g = .int .u32 (R.g : Int) ∧ h = .int .u32 (R.h : Int) ∧ MemT w wr gw s.list (sched bl 64)) (fun _ _ _ _ _ _ _ _ i _ => 64 - (intOf i).toNat)
 case atStart =>
   refine ⟨0, s, by omega, rfl, rfl, ?_, ?_, ?_, ?_, ?_, ?_, ?_, ?_, HM5.out⟩ <;> rfl
 case round =>
   obtain ⟨k, R, hk, hR, rfl, rfl, rfl, rfl, rfl, rfl, rfl, rfl, rfl, hM⟩ := hrel
   have HR := hid hR
   have hok : R.Ok := by rw [hR]; exact rounds_ok _ _ hs k
   clear hR
   by_cases hlt : k < 64
   · have hk64 : (k : Int) < 64 := by omega
     have ck := hM.laid.k k hlt
     have cw := (Joins.cell_of_block hM.wv k).trans (arr_get .u32 _ k (by rw [sched_length]; exact hlt))
     have hkl : kL.getD k 0 < 2 ^ 32 := kL_lt k
     have hwl : (sched bl 64).getD k 0 < 2 ^ 32 := by rw [sched_get _ _ _ hlt]; exact wS_lt _ _
     have HN : Hid (rounds (sched bl 64) s (k + 1) = rnd R (kL.getD k 0) ((sched bl 64).getD k 0)) := by
       show _ = _
       rw [HR.out]; rfl
     generalize kL.getD k 0 = kk at *
     generalize (sched bl 64).getD k 0 = ww at *
     obtain ⟨a, b, c, d, e, f, g, h8⟩ := R
     have HM := hid hM
     have oa := hok.a
     have ob := hok.b
     have oc := hok.c
     have od := hok.d
     have oe := hok.e
     have of := hok.f
     have og := hok.g
     have oh := hok.h
     simp only at oa ob oc od oe of og oh
     have HU1 := hid (up1_int e oe)
     have HU0 := hid (up0_int a oa)
     have HC := hid (ch_int e f g oe of og)
     have HMJ := hid (maj_int a b c oa ob oc)
     clear hM hok HR
     go_wp2_with fail
     go_quiet ((go_at_call 89; first | exact Calls.quiet_of_same (right_word e 6 _ _ oe (by decide) (by decide) rfl) | exact Calls.quiet_of_same (right_word e 11 _ _ oe (by decide) (by decide) rfl) | exact Calls.quiet_of_same (right_word e 25 _ _ oe (by decide) (by decide) rfl)))
     rw [HU1.out, HC.out, t1_sum]
     have HT : Hid (t1F ⟨a, b, c, d, e, f, g, h8⟩ kk ww = add32 (add32 (add32 (add32 h8 (up1 e)) ((e &&& f) ^^^ ((e ^^^ 4294967295) &&& g))) kk) ww) := rfl
     have hM1 := HM.out.drewN nq
     have ot1 := add32_lt (add32 (add32 (add32 h8 (up1 e)) ((e &&& f) ^^^ ((e ^^^ 4294967295) &&& g))) kk) ww
     generalize hW1 : wr.drewN nq = W1 at *
     have HM1 := hid hM1
     clear hM1 ck cw HM hW1
     generalize ht1 : add32 (add32 (add32 (add32 h8 (up1 e)) ((e &&& f) ^^^ ((e ^^^ 4294967295) &&& g))) kk) ww = t1 at *
     have HT1 := hid ht1
     clear ht1
     go_wp2_with fail
     go_at_call 89
     refine (right_word a 2 _ _ oa (by decide) (by decide) rfl).mono ?_
     rintro _ w' ⟨rfl, hw⟩
     obtain rfl := hw.symm
     clear hw
     go_wp2_with fail
     go_at_call 89
     refine (right_word a 13 _ _ oa (by decide) (by decide) rfl).mono ?_
     rintro _ w' ⟨rfl, hw⟩
     obtain rfl := hw.symm
     clear hw
     go_wp2_with fail
     go_at_call 89
     refine (right_word a 22 _ _ oa (by decide) (by decide) rfl).mono ?_
     rintro _ w' ⟨rfl, hw⟩
     obtain rfl := hw.symm
     clear hw
     have HT2 : Hid (t2F ⟨a, b, c, d, e, f, g, h8⟩ = add32 (up0 a) ((a &&& b) ^^^ (a &&& c) ^^^ (b &&& c))) := rfl
     go_wp2
     rw [HU0.out, HMJ.out, t2_code, e_sum]
     exact ⟨⟨k + 1, ⟨add32 t1 (add32 (up0 a) ((a &&& b) ^^^ (a &&& c) ^^^ (b &&& c))), a, b, c, add32 d t1, e, f, g⟩, by omega, by rw [HN.out, rnd, HT.out, HT2.out], by go_num, rfl, rfl, rfl, rfl, rfl, rfl, rfl, rfl, HM1.out⟩, by simp [intOf]; omega⟩
   · obtain rfl : k = 64 := by omega
     have HM := hid hM
     have HSTEP : Hid (Sha.step s bl = both s R) := by
       show _ = _
       rw [HR.out, both_comm]; rfl
     clear hM HR
     go_wp2_with fail
     rw [show (Value.agg #[.int .u32 (R.a : Int), .int .u32 (R.b : Int), .int .u32 (R.c : Int), .int .u32 (R.d : Int), .int .u32 (R.e : Int), .int .u32 (R.f : Int), .int .u32 (R.g : Int), .int .u32 (R.h : Int)]) = .agg (arr .u32 R.list) from rfl]
     go_loopw [109] (fun i wr => ∃ j : Nat, j ≤ 8 ∧ i = .int .i64 j ∧ MemT w wr gw (sumsL s.list R.list j) (sched bl 64)) (fun i _ => 8 - (intOf i).toNat)
     case atStart => exact ⟨0, by omega, rfl, HM.out⟩
     case round =>
       obtain ⟨j, hj, rfl, hM⟩ := hrel
       by_cases hlt : j < 8
       · have hj8 : (j : Int) < 8 := by omega
         have hlen := sumsL_length s.list R.list j
         have d0 := (Joins.cell_of_block hM.st j).trans (arr_get .u32 _ j (by rw [hlen]; exact hlt))
         have d1 := fun W : World => run_index_arr (P := Tryz.prog) Tryz.underlying95 Tryz.underlying56 Tryz.size56 R.list rfl j hlt W
         have fz := Joins.unfrozen_of_block hM.st j
         have hput := hM.put h2 hgne j (add32 ((sumsL s.list R.list j).getD j 0) (R.list.getD j 0))
         have HP : Hid (MemT w _ gw (sumsL s.list R.list (j + 1)) (sched bl 64)) := hput
         have HV := hid (e_sum ((sumsL s.list R.list j).getD j 0) (R.list.getD j 0))
         clear hput hM hlen
         generalize (sumsL s.list R.list j).getD j 0 = p at *
         generalize R.list.getD j 0 = q at *
         go_wp2
         rw [HV.out]
         exact ⟨⟨j + 1, by omega, by go_num, HP.out⟩, by simp [intOf]; omega⟩
       · obtain rfl : j = 8 := by omega
         rw [sumsL_all, ← HSTEP.out] at hM
         have hsv := hM.st
         have hres := hM.res
         have hbel := hM.bel
         have hlS : (arr .u32 (Sha.step s bl).list).size = 8 := arr_size _ _
         clear hM HM
         go_wp2_with (first
           | (refine wpList_load_row rfl 95 _ rfl w.heap.size rfl 95 (arr .u32 (Sha.step s bl).list) (0, 0) _ hsv Tryz.underlying95 rfl (by rw [hlS]; exact Tryz.size95) ?_)
           | (refine wpList_store_rowTo rfl 95 _ _ rfl rfl (w.heap.size + 1 + 1) (arr .u32 (Sha.step s bl).list) rfl rfl 95 _ hres (by rw [hlS]; exact Tryz.size95) (by rw [hlS]; rfl) (arr_one _ _) ?_))
         refine bodyPost_ret (results_cell_row (ty := 95) rfl _ _ _ _ _ _ _ rfl (setRow_heap _ _ _ _ _ _ hres) Tryz.underlying95 rfl (by rw [hlS]; exact Tryz.size95)) rfl ?_
         exact ⟨rfl, below_setRow hbel (by omega) _⟩
end Go.Proofs.YtibjlbcnapoblaaGreatDoor.Sh
/-
 The contract of sha.Pad: the padding, in new memory.
-/
namespace Go.Proofs.YtibjlbcnapoblaaGreatDoor.Sh
open Go.RowKit Sha

set_option maxRecDepth 100000 in
theorem wpList_make_part {P : Program} (w : World) {ops : Array Oper} {rest : List Oper} {o : Oper} {a : Act} {Q : Exit → Act → World → Prop}
   (hg : o.guard = none) (l c : Operand) (t : TypeId) (hop : o.op = Op.makeSlice t l c)
   (e : TypeId) (i : TypeInfo) (z : Value) (ht : P.underlying t = some (.slice e)) (hi : P.info? e = some i) (hz : i.zero = some z) (hsize : i.size = 1) (hz1 : z.cells = #[z])
   (kl kc : IntKind) (L C : Int) (m n : Nat) (hl : a.eval l = .int kl L) (hc : a.eval c = .int kc C) (hL : L = (m : Int)) (hC : C = (n : Int)) (hmn : m ≤ n) (hbytes : i.bytes * n ≤ 281474976710656) (h63 : n ≤ 9223372036854775807)
   (hK : wpList P ops Q rest (a.put o.dst (.slice (some ⟨w.heap.size, 0, none⟩) m n)) (w.alloc (.cells (madeCells #[z] n) e))) :
   wpList P ops Q (o :: rest) a w := by
 subst hL hC
 refine wpList_plain hg fun K hK' => ?_
 have hb' : (i.bytes : Int) * (n : Int) ≤ 281474976710656 := by
   have h : ((i.bytes * n : Nat) : Int) ≤ 281474976710656 := by omega
   rwa [Int.natCast_mul] at h
 have hrun := run_make (P := P) w t e i z ht hi hz kl kc m n (by omega) (by omega) hb' (by omega)
 simp only [Int.toNat_natCast, hsize, Nat.mul_one, hz1] at hrun
 unfold Oper.wp
 simp [execOp, hop, hl, hc, hrun, Result.andThen]
 exact hK' _ _ hK

set_option maxRecDepth 100000 in
theorem tail_bytes (n : Nat) : Wd.bytesF 8 1 (IntKind.u64.wrap (8 * (n : Int))) = ints (tailL n 8) := by
 apply List.ext_getElem?
 intro j
 have h1 : (Wd.bytesF 8 1 (IntKind.u64.wrap (8 * (n : Int)))).length = 8 := Wd.bytesF_length _ _ _
 have h2 : (ints (tailL n 8)).length = 8 := by rw [ints_length, tailL_length]
 by_cases hj : j < 8
 · have e1 := Wd.bytesF_getD 8 1 (IntKind.u64.wrap (8 * (n : Int))) j hj
   have e2 := ints_getD (tailL n 8) j
   rw [List.getD, List.getElem?_eq_getElem (by omega), Option.getD_some] at e1 e2
   rw [List.getElem?_eq_getElem (by omega), List.getElem?_eq_getElem (by omega), e1, e2]
   have e3 : (tailL n 8).getD j 0 = (8 * n) % 2 ^ 64 / 256 ^ (7 - j) % 256 := by
     simp [tailL, List.getD, hj]
   rw [e3, IntKind.wrap_u64, Wd.shF, if_pos rfl, ← Wd.pow256]
   have e4 : (8 * (n : Int)) % 18446744073709551616 = ((8 * n % 2 ^ 64 : Nat) : Int) := by omega
   rw [e4, show (256 : Int) ^ (8 - 1 - j) = ((256 ^ (7 - j) : Nat) : Int) from by simp, ← Int.natCast_ediv]
   congr 1
 · rw [List.getElem?_eq_none (by omega), List.getElem?_eq_none (by omega)]

set_option maxRecDepth 100000 in
theorem pad_zeros (n : Nat) : (IntKind.u64.wrap (-(IntKind.u64.wrap (IntKind.u64.wrap ((n : Int) + 1) + 8)))).tmod 64 = ((zeroes n : Nat) : Int) := by
 rw [Int.tmod_eq_emod_of_nonneg (by rw [IntKind.wrap_u64]; omega)]
 simp only [IntKind.wrap_u64]
 unfold zeroes
 omega

set_option maxRecDepth 100000 in
theorem V_ints (l : List Nat) : (ints l).map (Value.int .u8) = V l := by simp [ints, V]

set_option maxRecDepth 100000 in
set_option maxHeartbeats 1600000 in
theorem pad_word (n : Nat) (w : World) (_hn : n < 2 ^ 64) :
   Calls Tryz.prog 59 #[.int .u64 (n : Int)] w fun e w' => ∃ v, e = .returned v ∧ w'.ownsRow w.heap.size 5 1 v (pad n).length (V (pad n)) ∧ Below w.heap.size w w' := by
 obtain ⟨i0, hi, hz0, hz1, hz2⟩ := info_parts Tryz.info5
 have HZ := pad_zeros n
 have hzl : zeroes n < 64 := Nat.mod_lt _ (by decide)
 have HPP := hid (pad_parts n)
 have HTB := hid (tail_bytes n)
 have HTL : Hid ((tailL n 8).length = 8) := tailL_length n 8
 have htlt : ∀ j, (tailL n 8).getD j 0 < 256 := by
   intro j
   by_cases hj : j < 8
   · simp [tailL, List.getD, hj]; exact Nat.mod_lt _ (by decide)
   · simp [List.getD, List.getElem?_eq_none (show (tailL n 8).length ≤ j from by rw [tailL_length]; omega)]
 have HTT := hid htlt
 have HBW := hid (fun W : World => Wd.bytes_word (IntKind.u64.wrap (8 * (n : Int))) 64 1 8 W (by rw [IntKind.wrap_u64]; omega) (by rw [IntKind.wrap_u64]; omega) (by decide) (by decide) (by decide))
 clear htlt
 generalize zeroes n = z at *
 generalize tailL n 8 = tl at *
 have e0 := heap_new w (.cells (madeCells #[.int .u8 0] (z + 9)) 5)
 have b0 := bel_alloc w (.cells (madeCells #[.int .u8 0] (z + 9)) 5)
 have hml : (madeCells #[Value.int .u8 0] (z + 9)) = (V (List.replicate (z + 9) 0)).toArray := by
   apply Array.ext'
   rw [toList_madeCells_one]
   simp [V]
 have c0 : (w.alloc (.cells (madeCells #[.int .u8 0] (z + 9)) 5)).cell? ⟨w.heap.size, 0, none⟩ = some (.int .u8 0) := by
   rw [Joins.cell_of_block e0 0, hml]; rfl
 have f0 := Joins.unfrozen_of_block e0 0
 have e1 := heap_new w (.cells ((madeCells #[.int .u8 0] (z + 9)).setIfInBounds 0 (.int .u8 128)) 5)
 have b1 := bel_alloc w (.cells ((madeCells #[.int .u8 0] (z + 9)).setIfInBounds 0 (.int .u8 128)) 5)
 have O1 : (w.alloc (.cells ((madeCells #[.int .u8 0] (z + 9)).setIfInBounds 0 (.int .u8 128)) 5)).ownsRow w.heap.size 5 1 (.slice (some ⟨w.heap.size, 0, none⟩) (z + 1) (z + 9)) (128 :: List.replicate z 0).length (V (128 :: List.replicate z 0)) := by
   refine ⟨by simp [V], Or.inr ⟨w.heap.size, z + 9, _, by simp, Nat.le_refl _, e1, by simp, by unfold maxLen; omega, by rw [hml]; simp [V], ?_⟩⟩
   rw [hml]
   simp [V]
   rw [show z + 9 = (z + 8) + 1 from rfl, List.replicate_succ]
   simp
 have HO1 := hid O1
 have HB1 := hid b1
 clear O1 e1 b1 b0 e0 hml
 go_enter Tryz.func59, Tryz.ntmps59
 go_wp2_with (at_make; refine wpList_make_part _ rfl _ _ 22 rfl 5 i0 (.int .u8 0) Tryz.underlying22 hi hz0 hz1 rfl .u64 .u64 _ _ (z + 1) (z + 9) rfl rfl (by omega) (by omega) (by omega) (by rw [hz2]; omega) (by omega) ?_)
 generalize hW1 : w.alloc (.cells ((madeCells #[.int .u8 0] (z + 9)).setIfInBounds 0 (.int .u8 128)) 5) = W1 at *
 clear hW1 c0 f0
 go_at_call 60
 refine (HBW.out _).mono ?_
 rintro _ w2 ⟨pv, rfl, hpo, hpb⟩
 rw [HTB.out, ints_length, V_ints] at hpo
 obtain ⟨pg, pc, rfl, hpg, hprd⟩ := rd_own hpo (by rw [HTL.out]; decide) HTT.out
 have hown2 := own_later HO1.out hpb
 have hb2 := Bn HB1.out hpb
 have hz2' := hb2.size
 have htl8 : tl.length ≤ 8 := by rw [HTL.out]; exact Nat.le_refl _
 have hrl : (128 :: List.replicate z 0).length ≤ z + 1 := by simp
 clear hpo HBW
 go_wp2_with (at_builtin; refine app_any _ rfl _ _ rfl w.heap.size _ (128 :: List.replicate z 0) rfl hown2 _ pc tl rfl hprd (by omega) (by omega) ?_)
 intro v' w3 hown3 hgrow
 have hb3 : Below w.heap.size w w3 := hb2.grown hgrow hz2' (fun j hj => (hown2.lt j hj).1)
 have R : w3.ownsRow w.heap.size 5 1 v' (pad n).length (V (pad n)) := by
   rw [HPP.out, List.cons_append, show (128 :: (List.replicate z 0 ++ tl)).length = z + tl.length + 1 from by simp]
   exact hown3
 clear hown3 hgrow hown2 hprd
 go_wp2
 go_ret
 exact ⟨_, rfl, R, hb3⟩
end Go.Proofs.YtibjlbcnapoblaaGreatDoor.Sh
/-
 A Hash in memory: its cells, what it has taken, and sha.New.
-/
namespace Go.Proofs.YtibjlbcnapoblaaGreatDoor.Sh
open Go.RowKit Sha

def lst (k : IntKind) (l : List Nat) : List Value := l.map fun z : Nat => Value.int k (z : Int)
set_option maxRecDepth 100000 in
theorem lst_length (k : IntKind) (l : List Nat) : (lst k l).length = l.length := by simp [lst]
set_option maxRecDepth 100000 in
theorem arr_lst (k : IntKind) (l : List Nat) : (lst k l).toArray = arr k l := rfl
set_option maxRecDepth 100000 in
theorem lst_one (k : IntKind) (l : List Nat) : ∀ v ∈ lst k l, v.oneCell' = true := by
 intro v hv
 simp only [lst, List.mem_map] at hv
 obtain ⟨z, _, rfl⟩ := hv
 rfl

def hL (s : St) (op : List Nat) (n : Nat) : List Value := .bool true :: (lst .u32 s.list ++ (lst .u8 op ++ [.int .u64 (n : Int)]))
set_option maxRecDepth 100000 in
theorem list8 (s : St) : s.list.length = 8 := rfl
set_option maxRecDepth 100000 in
theorem hL_length (s : St) (op : List Nat) (n : Nat) (h : op.length = 64) : (hL s op n).length = 74 := by
 simp [hL, lst_length, list8, h]

set_option maxRecDepth 100000 in
theorem hL_st (s : St) (op : List Nat) (n j : Nat) (v : Value) (h : (lst .u32 s.list)[j]? = some v) : (hL s op n)[1 + j]? = some v := by
 have hj : j < (lst .u32 s.list).length := (List.getElem?_eq_some_iff.1 h).1
 rw [hL, Nat.add_comm, List.getElem?_cons_succ, List.getElem?_append_left hj]; exact h
set_option maxRecDepth 100000 in
theorem hL_op (s : St) (op : List Nat) (n j : Nat) (v : Value) (h : (lst .u8 op)[j]? = some v) : (hL s op n)[9 + j]? = some v := by
 have hj : j < (lst .u8 op).length := (List.getElem?_eq_some_iff.1 h).1
 rw [hL, show 9 + j = (8 + j) + 1 from by omega, List.getElem?_cons_succ, List.getElem?_append_right (by rw [lst_length, list8]; omega), lst_length, list8, show 8 + j - 8 = j from by omega, List.getElem?_append_left hj]; exact h
set_option maxRecDepth 100000 in
theorem hL_n (s : St) (op : List Nat) (n : Nat) (ho : op.length = 64) : (hL s op n)[73]? = some (.int .u64 (n : Int)) := by
 rw [hL, List.getElem?_cons_succ, List.getElem?_append_right (by rw [lst_length, list8]; omega), lst_length, list8, List.getElem?_append_right (by rw [lst_length, ho]; omega), lst_length, ho]; rfl
set_option maxRecDepth 100000 in
theorem hL_set_n (s : St) (op : List Nat) (n m : Nat) (ho : op.length = 64) : (hL s op n).set 73 (.int .u64 (m : Int)) = hL s op m := by
 rw [hL, List.set_cons_succ, List.set_append_right _ _ (by rw [lst_length, list8]; omega), lst_length, list8, List.set_append_right _ _ (by rw [lst_length, ho]; omega), lst_length, ho]; rfl
set_option maxRecDepth 100000 in
theorem hL_splice_st (s t : St) (op : List Nat) (n : Nat) : splice (hL s op n) 1 (lst .u32 t.list) = hL t op n := by
 rw [splice, lst_length, list8, hL, hL]
 rfl

def putL (op : List Nat) (at_ : Nat) (l : List Nat) : List Nat := op.take at_ ++ (l ++ op.drop (at_ + l.length))
set_option maxRecDepth 100000 in
theorem putL_length (op : List Nat) (i : Nat) (l : List Nat) (h : i + l.length ≤ op.length) : (putL op i l).length = op.length := by simp [putL]; omega
set_option maxRecDepth 100000 in
theorem hL_splice_op (s : St) (op : List Nat) (n i : Nat) (l : List Nat) (h : i + l.length ≤ op.length) : splice (hL s op n) (9 + i) (lst .u8 l) = hL s (putL op i l) n := by
 have e8 : (lst .u32 s.list).length = 8 := rfl
 have e1 : (hL s op n).take (9 + i) = .bool true :: (lst .u32 s.list ++ lst .u8 (op.take i)) := by
   rw [hL, show 9 + i = (8 + i) + 1 from by omega, List.take_succ_cons, List.take_append, e8, List.take_of_length_le (by rw [e8]; omega), show 8 + i - 8 = i from by omega, List.take_append, lst_length, show i - op.length = 0 from by omega, List.take_zero, List.append_nil, lst, lst, lst, List.map_take]
 have e2 : (hL s op n).drop (9 + i + l.length) = lst .u8 (op.drop (i + l.length)) ++ [.int .u64 (n : Int)] := by
   rw [hL, show 9 + i + l.length = (8 + (i + l.length)) + 1 from by omega, List.drop_succ_cons, List.drop_append, e8, List.drop_eq_nil_of_le (by rw [e8]; omega), List.nil_append, show 8 + (i + l.length) - 8 = i + l.length from by omega, List.drop_append, lst_length, show i + l.length - op.length = 0 from by omega, List.drop_zero, lst, lst, List.map_drop]
 rw [splice, lst_length, e1, e2, hL, putL]
 simp [lst]

structure Hs (w : World) (g : Nat) (msg : List Nat) (op : List Nat) : Prop where
 blk : w.heap[g]? = some (.cells (hL (blocks (msg.length / 64) msg Sha.start) op msg.length).toArray 98 (0, 0))
 len : op.length = 64
 lo : ∀ j, op.getD j 0 < 256
 tk : op.take (msg.length % 64) = msg.drop (64 * (msg.length / 64))
 hi : ∀ j, msg.getD j 0 < 256

set_option maxRecDepth 100000 in
theorem blocksG_app (f : St → List Nat → St) (n : Nat) : ∀ (l m : List Nat) (s : St), 64 * n ≤ l.length → blocksG f n (l ++ m) s = blocksG f n l s := by
 induction n with
 | zero => intro l m s _; rfl
 | succ n ih =>
   intro l m s h
   rw [blocksG_succ, blocksG_succ, List.drop_append_of_le_length (by omega), List.take_append_of_le_length (by omega), ih _ _ _ (by rw [List.length_drop]; omega)]
set_option maxRecDepth 100000 in
theorem blocks_app (n : Nat) (l m : List Nat) (s : St) (h : 64 * n ≤ l.length) : blocks n (l ++ m) s = blocks n l s := blocksG_app _ n l m s h
set_option maxRecDepth 100000 in
theorem blocks_snoc (n : Nat) (l : List Nat) (s : St) : blocks (n + 1) l s = Sha.step (blocks n l s) ((l.drop (64 * n)).take 64) := blocksG_snoc _ n l s

set_option maxRecDepth 100000 in
theorem all_lt (l : List Nat) : (∀ j, l.getD j 0 < 256) ↔ ∀ z ∈ l, z < 256 := by
 constructor
 · intro h z hz
   obtain ⟨i, hi, rfl⟩ := List.getElem_of_mem hz
   have := h i
   simpa [List.getD, List.getElem?_eq_getElem hi] using this
 · intro h j
   by_cases hj : j < l.length
   · have : l.getD j 0 ∈ l := by
       simp only [List.getD, List.getElem?_eq_getElem hj, Option.getD_some]
       exact List.getElem_mem hj
     exact h _ this
   · simp [List.getD, List.getElem?_eq_none (show l.length ≤ j from by omega)]
set_option maxRecDepth 100000 in
theorem putL_lt (op : List Nat) (i : Nat) (l : List Nat) (ho : ∀ j, op.getD j 0 < 256) (hl : ∀ j, l.getD j 0 < 256) : ∀ j, (putL op i l).getD j 0 < 256 := by
 rw [all_lt] at *
 intro z hz
 rw [putL, List.mem_append, List.mem_append] at hz
 rcases hz with h | h | h
 · exact ho z (List.mem_of_mem_take h)
 · exact hl z h
 · exact ho z (List.mem_of_mem_drop h)
set_option maxRecDepth 100000 in
theorem putL_take (op : List Nat) (i : Nat) (l : List Nat) (h : i + l.length ≤ op.length) : (putL op i l).take (i + l.length) = op.take i ++ l := by
 have e : (op.take i ++ l).length = i + l.length := by simp; omega
 rw [putL, ← List.append_assoc, List.take_append_of_le_length (by omega), List.take_of_length_le (by omega)]

set_option maxRecDepth 100000 in
theorem hs_less {W : World} {g : Nat} {M op l : List Nat} (len : op.length = 64) (lo : ∀ j, op.getD j 0 < 256) (tk : op.take (M.length % 64) = M.drop (64 * (M.length / 64))) (hi : ∀ j, M.getD j 0 < 256) (hl : ∀ j, l.getD j 0 < 256) (hlt : M.length % 64 + l.length < 64)
   (hb : W.heap[g]? = some (.cells (hL (blocks (M.length / 64) M Sha.start) (putL op (M.length % 64) l) (M.length + l.length)).toArray 98 (0, 0))) : Hs W g (M ++ l) (putL op (M.length % 64) l) := by
 have e1 : (M ++ l).length = M.length + l.length := List.length_append
 have e2 : (M ++ l).length / 64 = M.length / 64 := by omega
 have e3 : (M ++ l).length % 64 = M.length % 64 + l.length := by omega
 refine ⟨?_, by rw [putL_length _ _ _ (by omega)]; exact len, putL_lt _ _ _ lo hl, ?_, getD_app _ _ hi hl⟩
 · rw [e2, blocks_app _ _ _ _ (by omega), e1]; exact hb
 · rw [e3, e2, putL_take _ _ _ (by omega), tk, List.drop_append_of_le_length (by omega)]

set_option maxRecDepth 100000 in
theorem hs_full {W : World} {g : Nat} {M op l : List Nat} (len : op.length = 64) (lo : ∀ j, op.getD j 0 < 256) (tk : op.take (M.length % 64) = M.drop (64 * (M.length / 64))) (hi : ∀ j, M.getD j 0 < 256) (hl : ∀ j, l.getD j 0 < 256) (heq : M.length % 64 + l.length = 64)
   (hb : W.heap[g]? = some (.cells (hL (Sha.step (blocks (M.length / 64) M Sha.start) (putL op (M.length % 64) l)) (putL op (M.length % 64) l) (M.length + l.length)).toArray 98 (0, 0))) : Hs W g (M ++ l) (putL op (M.length % 64) l) := by
 have e1 : (M ++ l).length = M.length + l.length := List.length_append
 have e2 : (M ++ l).length / 64 = M.length / 64 + 1 := by omega
 have e3 : (M ++ l).length % 64 = 0 := by omega
 have hpl : (putL op (M.length % 64) l).length = 64 := by rw [putL_length _ _ _ (by omega)]; exact len
 have e4 : putL op (M.length % 64) l = (M ++ l).drop (64 * (M.length / 64)) := by
   have h := putL_take op (M.length % 64) l (by omega)
   rw [heq, List.take_of_length_le (by omega)] at h
   rw [h, tk, List.drop_append_of_le_length (by omega)]
 refine ⟨?_, hpl, putL_lt _ _ _ lo hl, ?_, getD_app _ _ hi hl⟩
 · rw [e2, blocks_snoc, blocks_app _ _ _ _ (by omega), ← e4, List.take_of_length_le (by omega), e1]; exact hb
 · rw [e3, e2, List.take_zero, List.drop_eq_nil_of_le (by omega)]

end Go.Proofs.YtibjlbcnapoblaaGreatDoor.Sh
/-
 Steps through a region that draws its order, in the order of the text: what yields in every world that meets S is taken first, its slot named.
-/
namespace Go.Proofs.YtibjlbcnapoblaaGreatDoor.Sh.Ord
section
variable {P : Program} {md : Region.Mode} {ops : Array Oper} {Q : Exit → Act → World → Prop} {S : World → Prop}

theorem take {i d : Nat} {oi : Oper} {v : Value} {fuel : Nat} {listed : Array Bool} {ts : Array Value} {df : List Deferred} {w : World} (hi : ops[i]? = some oi) (hd : oi.dst = some d)
   (hs : Region.noSelect ops = true) (hf : Region.free md ops listed i = true) (hr : (Region.ready md ops listed).contains i = true)
   (hQ : ∀ c a w, Q (.panic c) (a.put oi.dst v) w → Q (.panic c) a w) (hw : Region.wanted oi (yielded ops ts) = true)
   (hy : ∀ w, S w → (execOp (Act.eval ⟨ts, df⟩) oi).run P w = .ok (.value v) w) (hS : S w)
   (h : wpAnyH P md ops Q S fuel (listed.setIfInBounds i true) ⟨ts.setIfInBounds d v, df⟩ w) : wpAnyH P md ops Q S (fuel + 1) listed ⟨ts, df⟩ w :=
 wpAnyH_take hi hs hf hr hQ (Or.inl ⟨hw, hy⟩) hS (by rw [hd]; exact h)

theorem more {S' : World → Prop} (hS : ∀ w, S' w → S w) : ∀ (fuel : Nat) (listed : Array Bool) (a : Act) (w : World), wpAnyH P md ops Q S' fuel listed a w → wpAnyH P md ops Q S fuel listed a w
 | 0, _, _, _, h => h
 | fuel + 1, _, _, _, h => ⟨h.1, fun i hi => wpOp_mono (fun a' w' h' => ⟨hS _ h'.1, more hS fuel _ a' w' h'.2⟩) (h.2 i hi)⟩
end
end Go.Proofs.YtibjlbcnapoblaaGreatDoor.Sh.Ord
