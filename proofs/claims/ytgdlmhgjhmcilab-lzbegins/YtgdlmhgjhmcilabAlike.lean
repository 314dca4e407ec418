/-
  The iterator over the places with the same four bytes.
-/
import Derived.Test.YtgdlmhgjhmcilabPlace
namespace Go.Proofs.Ytgdlmhgjhmcilab
open Go.RowKit Go.Shelf Lz Go.WideMaps
attribute [local go_sem] Oper.semAt_some

theorem alike_word (g q : Nat) (w : World) : Calls Try.prog 12 #[.pointer (some ⟨g, 0, none⟩), .int .i64 (q : Int)] w fun e w' => e = .returned (.func (.func 16) #[] #[.pointer (some ⟨w.heap.size, 0, none⟩), .pointer (some ⟨w.heap.size + 1, 0, none⟩)]) ∧ w' = (w.alloc (.cells #[.pointer (some ⟨g, 0, none⟩)] 37)).alloc (.cells #[.int .i64 (q : Int)] 3) := by
  go_enter Try.func12, Try.ntmps12
  go_wp2
  go_ret
  exact ⟨rfl, rfl⟩

theorem grown_of_below {w w' : World} (h : Below w.heap.size w w') : w.grownBy w' none := ⟨h.os, h.tape, h.output, h.size, fun k hk _ => h.block k hk⟩
theorem alike_lt {bs : List Int} {q p : Nat} (h : p ∈ alikeL bs q) : p < q := by
  unfold alikeL at h
  split at h
  · exact (mem_aheadL (List.mem_filter.1 h).1).1
  · cases h
theorem alike_len (bs : List Int) (q : Nat) : (alikeL bs q).length ≤ q := by
  unfold alikeL
  split
  · refine Nat.le_trans (List.length_filter_le _ _) ?_
    simp [aheadL]; omega
  · simp

set_option maxHeartbeats 1600000 in
set_option maxRecDepth 100000 in
theorem alike_stops (bs : List Int) (q n₁ g mb pb gb off cap sB aB : Nat) (ps : List Int) (w W0 : World) (h8 : Bytes8 bs) (hP : Pl w n₁ g mb pb (.slice (some ⟨gb, off, none⟩) bs.length cap) bs q ps) (hq : q < bs.length) (hcap : bs.length ≤ cap) (hmx : cap ≤ maxLen) (hL : bs.length ≤ 65536)
    (hgb : gb < w.heap.size) (hc : ∀ j, j < bs.length → w.cell? ⟨gb, off + j, none⟩ = some (.int .u8 (bs.getD j 0)))
    (hsB : w.cell? ⟨sB, 0, none⟩ = some (.pointer (some ⟨g, 0, none⟩))) (haB : w.cell? ⟨aB, 0, none⟩ = some (.int .i64 (q : Int))) (hs : sB < w.heap.size) (ha : aB < w.heap.size) (hW0 : Below w.heap.size w W0) :
    wide9 16 #[.pointer (some ⟨sB, 0, none⟩), .pointer (some ⟨aB, 0, none⟩)] q w.heap.size (fins q (alikeL bs q) (fun _ hp => alike_lt hp)) W0 := fun l J Jx W hW hJ _ hY h0 => by
  have hbW : Below w.heap.size w W := Bn hW0 hW
  obtain ⟨xs, hxs⟩ : ∃ xs, xs = fins q (alikeL bs q) (fun _ hp => alike_lt hp) := ⟨_, rfl⟩
  have hv : xs.map Fin.val = alikeL bs q := by rw [hxs]; exact fins_val _
  have hl : xs.length ≤ q := by rw [hxs, fins_len]; exact alike_len bs q
  rw [← hxs]
  have HV := hid hv
  have HY := hid hY
  have HL := hid hl
  have HJ := hid hJ
  have hs0 : W.cell? ⟨sB, 0, none⟩ = some (.pointer (some ⟨g, 0, none⟩)) := (hbW.cell (p := ⟨sB, 0, none⟩) hs).trans hsB
  have ha0 : W.cell? ⟨aB, 0, none⟩ = some (.int .i64 (q : Int)) := (hbW.cell (p := ⟨aB, 0, none⟩) ha).trans haB
  have HSB := hid hsB
  have HAB := hid haB
  have HBW := hid hbW
  have HP := hid hP
  have hPW := hP.below hbW
  have HK := hid (key_word bs q g gb off cap _ _ W (by omega) hcap hmx hL (Nat.lt_of_lt_of_le hgb hbW.size) hPW.blk (fun j hj => (hbW.cell (p := ⟨gb, off + j, none⟩) hgb).trans (hc j hj)))
  have HPW := hid hPW
  clear hY hxs hv hl hsB haB hW hW0 hJ hc hPW hP
  refine callsIn_of_wp Try.func16 rfl trivial ?_ rfl
  simp only [Try.ntmps16, List.size_toArray, List.length_cons, List.length_nil, Nat.reduceAdd, Nat.reduceSub, Array.replicate_succ, Array.replicate_zero, List.push_toArray, List.append_toArray, List.nil_append, List.cons_append]
  by_cases h4 : q + 4 ≤ bs.length
  · have HVV : Hid (xs.map Fin.val = chain bs q q) := by show _ = _; rw [chain_alike h4]; exact HV.out
    rw [if_pos h4, show decide (q + 4 ≤ bs.length) = true from by simpa using h4] at HK
    have hKV : keyV bs q = .agg #[.int .u8 (bs.getD q 0), .int .u8 (bs.getD (q + 1) 0), .int .u8 (bs.getD (q + 2) 0), .int .u8 (bs.getD (q + 3) 0)] := rfl
    rw [hKV] at HK
    have HLK : Hid (∀ W, Mp W mb bs q → (Instr.lookup 46 (.map (some mb)) (.agg #[.int .u8 (bs.getD q 0), .int .u8 (bs.getD (q + 1) 0), .int .u8 (bs.getD (q + 2) 0), .int .u8 (bs.getD (q + 3) 0)]) false).run Try.prog W = .ok (.int .i64 ((nxt bs q q : Nat) : Int)) W) := fun W hW => hW.look h8 q (Nat.le_refl _) h4
    generalize bs.getD q 0 = y0 at *
    generalize bs.getD (q + 1) 0 = y1 at *
    generalize bs.getD (q + 2) 0 = y2 at *
    generalize bs.getD (q + 3) 0 = y3 at *
    clear hKV
    gi_wp2_with fail
    refine ⟨trivial, ?_⟩
    refine (callsIn_wide.2 HK.out).mono ?_
    rintro _ w1 ⟨rfl, hb1⟩
    clear HK hs0 ha0
    gi_wp2_with fail
    have hbA := bel_alloc w1 (.cells #[.int .u8 y0, .int .u8 y1, .int .u8 y2, .int .u8 y3] 53)
    have e0 : (w1.alloc (.cells #[.int .u8 y0, .int .u8 y1, .int .u8 y2, .int .u8 y3] 53)).heap[w1.heap.size]? = some (.cells #[.int .u8 y0, .int .u8 y1, .int .u8 y2, .int .u8 y3] 53 (0, 0)) := heap_new w1 _
    have hb2 := Bn hb1 hbA
    have hP2 := HPW.out.below hb2
    have HB2 := hid (Bn HBW.out hb2)
    have HJ2 := hid (HJ.out [] W _ none h0 (grown_of_below hb2) (fun r e => by cases e))
    clear hb1 hbA hb2 HPW h0 HBW hbW
    generalize w1.alloc (.cells #[.int .u8 y0, .int .u8 y1, .int .u8 y2, .int .u8 y3] 53) = W2 at *
    generalize w1.heap.size = kb at *
    have hs0 : W2.cell? ⟨sB, 0, none⟩ = some (.pointer (some ⟨g, 0, none⟩)) := (HB2.out.cell (p := ⟨sB, 0, none⟩) hs).trans HSB.out
    have c1 := Joins.cell_of_block hP2.blk 1
    have k0 := Joins.cell_of_block e0 0
    have k1 := Joins.cell_of_block e0 1
    have k2 := Joins.cell_of_block e0 2
    have k3 := Joins.cell_of_block e0 3
    simp only [List.getElem?_toArray, List.getElem?_cons_zero, List.getElem?_cons_succ] at c1 k0 k1 k2 k3
    have hlk : ∀ n, (Instr.lookup 46 (.map (some mb)) (.agg #[.int .u8 y0, .int .u8 y1, .int .u8 y2, .int .u8 y3]) false).run Try.prog (W2.drewN n) = .ok (.int .i64 ((nxt bs q q : Nat) : Int)) (W2.drewN n) := fun n => HLK.out _ hP2.map
    clear hP2 e0
    refine wpIn_wide.2 ?_
    refine wp_region_quiet_lit (by kernel_rfl) (by kernel_rfl) ?_
    repeat (go_big_quiet_step (fail))
    refine wpQuiet_nil ?_
    intro _ hw'
    obtain ⟨nq, hw''⟩ := hw'
    subst hw''
    have HB3 := hid (bel_drewN HB2.out nq)
    have HJ3 := hid (HJ.out [] W2 (W2.drewN nq) none HJ2.out (grown_of_below (bel_drewN' W2 nq)) (fun r e => by cases e))
    clear hlk hs0 c1 k0 k1 k2 k3 HB2 HJ2 HLK
    generalize W2.drewN nq = W4 at *
    gi_wp2_with fail
    have HNQ : Hid (nxt bs q q ≤ q) := nxt_le bs q q
    gi_loopw [6] (fun p wr => ∃ (pre rest : List (Fin q)) (m : Nat), m ≤ q ∧ p = .int .i64 ((nxt bs q m : Nat) : Int) ∧ Hid (xs = pre ++ rest) ∧ Hid (rest.map Fin.val = chain bs q m) ∧ J pre wr ∧ Below w.heap.size w wr)
      (fun p _ => (intOf p).toNat)
    case atStart => exact ⟨[], xs, q, Nat.le_refl _, rfl, rfl, HVV.out, HJ3.out, HB3.out⟩
    case round =>
      clear HNQ HB3 HJ3
      obtain ⟨pre, rest, m, hm, rfl, HX, HR, hJs, hb⟩ := hrel
      have hca : wr.cell? ⟨aB, 0, none⟩ = some (.int .i64 (q : Int)) := (hb.cell (p := ⟨aB, 0, none⟩) ha).trans HAB.out
      have HC := HR.out
      rw [chain_nxt] at HC
      have hle := nxt_le bs q m
      have HSM := hid (fun h => nxt_same (bs := bs) (q := q) (m := m) h)
      have HPV := hid HP.out.vals
      generalize nxt bs q m = x at *
      by_cases hlt : 0 < x ∧ q - (x - 1) ≤ 4096
      · obtain ⟨hx1, hx2⟩ := hlt
        rw [if_pos ⟨hx1, hx2⟩] at HC
        obtain ⟨y, r, rfl, hy, hr⟩ := cons_of_map HC
        obtain ⟨fn, tmps, assign, body, hyd, hRd⟩ := HY.out pre y wr hJs (by have := HL.out; rw [HX.out] at this; simp at this; omega)
        rw [hy] at hyd
        obtain ⟨i, hi⟩ : ∃ i, i = x - 1 := ⟨_, rfl⟩
        rw [← hi] at hyd hr
        have hiz : (x : Int) - 1 = (i : Int) := by omega
        have hx0 : (0 : Int) < (x : Int) := by omega
        have hiz2 : (q : Int) - (i : Int) ≤ 4096 := by omega
        have hsm := HSM.out hx1
        rw [← hi] at hsm
        have HNX : Hid ((ps.getD i 0 : Int) = ((nxt bs q i : Nat) : Int)) := by
          show _ = _
          rw [HPV.out i (by omega) (by omega), nxt_eq hsm]
        have hiq : i < q := by omega
        have hxi : x = i + 1 := by omega
        have HXI := hid hxi
        clear hi HC hsm hxi HSM hy
        gi_wp2
        refine hRd.mono ?_
        rintro e W3 (⟨rfl, hJ3, hk3⟩ | ⟨rfl, hJx3⟩)
        · have hb3 := hb.trans hk3
          have hP3 := HP.out.below hb3
          have cs := (hb3.cell (p := ⟨sB, 0, none⟩) hs).trans HSB.out
          have c2 := Joins.cell_of_block hP3.blk 2
          simp only [List.getElem?_toArray, List.getElem?_cons_zero, List.getElem?_cons_succ] at c2
          have cp : W3.cell? ⟨pb, i, none⟩ = some (.int .i64 ((nxt bs q i : Nat) : Int)) := by
            rw [hP3.row.cellAt _ (by omega), List.getElem?_map, List.getElem?_eq_getElem (by rw [hP3.len]; omega)]
            rw [← HNX.out]
            simp [List.getD, List.getElem?_eq_getElem (show i < ps.length by rw [hP3.len]; omega)]
          have hiL : (i : Int) < (bs.length : Int) := by omega
          have HB5 := hid hb3
          clear hP3 hb3 hk3 hb hca hRd hyd
          have hnl := nxt_le bs q i
          gi_wp2
          exact ⟨⟨pre ++ [y], r, i, by omega, rfl, hid (by rw [HX.out]; simp), hid hr, hJ3, HB5.out⟩, by have := HXI.out; simp [intOf]; omega⟩
        · gi_wp2
          refine bodyPost_ret (results_none rfl _ _ _) rfl ?_
          exact ⟨⟨_, rfl⟩, .inr ⟨pre ++ [y], ⟨r, by rw [HX.out]; simp⟩, hJx3⟩⟩
      · rw [if_neg hlt] at HC
        obtain rfl := nil_of_map HC
        by_cases hx1 : 0 < x
        · have hz1 : (0 : Int) < (x : Int) := by omega
          have hz2 : ¬ (q : Int) - ((x : Int) - 1) ≤ 4096 := by omega
          gi_wp2
          go_end0
          exact ⟨⟨_, rfl⟩, .inl (by rw [HX.out, List.append_nil]; exact hJs)⟩
        · have hz1 : ¬ (0 : Int) < (x : Int) := by omega
          gi_wp2
          go_end0
          exact ⟨⟨_, rfl⟩, .inl (by rw [HX.out, List.append_nil]; exact hJs)⟩
  · rw [if_neg h4, show decide (q + 4 ≤ bs.length) = false from by simpa using h4] at HK
    have HVV : Hid (xs = []) := by
      refine nil_of_map ?_
      rw [HV.out]
      unfold alikeL
      rw [if_neg h4]
    gi_wp2_with fail
    refine ⟨trivial, ?_⟩
    refine (callsIn_wide.2 HK.out).mono ?_
    rintro _ w1 ⟨rfl, hb1⟩
    unfold four
    have hbA := bel_alloc w1 (.cells #[.int .u8 0, .int .u8 0, .int .u8 0, .int .u8 0] 53)
    have HJ2 := hid (HJ.out [] W _ none h0 (grown_of_below (Bn hb1 hbA)) (fun r e => by cases e))
    clear HK hs0 ha0 hb1 hbA
    gi_wp2
    refine bodyPost_ret (results_none rfl _ _ _) rfl ?_
    exact ⟨⟨_, rfl⟩, .inl ⟨[], HVV.out.symm, HJ2.out⟩⟩
end Go.Proofs.Ytgdlmhgjhmcilab
