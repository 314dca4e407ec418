/-
  The contracts of lz's key, newPlaces and add.
-/
import Derived.Test.YtgdlmhgjhmcilabKeys
import Derived.Laws.Cover3
import Derived.StillTailTactics
namespace Go.Proofs.Ytgdlmhgjhmcilab
open Go.RowKit Go.Shelf Lz Go.WideMaps

theorem four_load {W : World} {B : Nat} {a b c d : Value} (h : W.heap[B]? = some (.cells #[a, b, c, d] 53 (0, 0))) : (loadVar 53 ⟨B, 0, none⟩).run Try.prog W = .ok (.agg #[a, b, c, d]) W :=
  run_loadVar_row W B 53 53 #[a, b, c, d] (0, 0) _ h Try.underlying53 rfl (by kernel_rfl)

set_option maxHeartbeats 1600000 in
set_option maxRecDepth 100000 in
theorem key_word (bs : List Int) (q g gb off cap : Nat) (x1 x2 : Value) (w : World) (hq : q ≤ bs.length) (hcap : bs.length ≤ cap) (hm : cap ≤ maxLen) (hL : bs.length ≤ 65536) (hgb : gb < w.heap.size)
    (hblk : w.heap[g]? = some (.cells #[.slice (some ⟨gb, off, none⟩) bs.length cap, x1, x2] 49 (0, 0)))
    (hc : ∀ j, j < bs.length → w.cell? ⟨gb, off + j, none⟩ = some (.int .u8 (bs.getD j 0))) :
    Calls Try.prog 17 #[.pointer (some ⟨g, 0, none⟩), .int .i64 (q : Int)] w fun e w' => e = .returned (.tuple #[if q + 4 ≤ bs.length then keyV bs q else four 0 0 0 0, .bool (decide (q + 4 ≤ bs.length))]) ∧ Below w.heap.size w w' := by
  have hgw : g < w.heap.size := (Array.getElem?_eq_some_iff.1 hblk).1
  unfold maxLen at hm
  have hbA := bel_alloc w (.cells #[.int .u8 0, .int .u8 0, .int .u8 0, .int .u8 0] 53)
  have e0 : (w.alloc (.cells #[.int .u8 0, .int .u8 0, .int .u8 0, .int .u8 0] 53)).heap[w.heap.size]? = some (.cells #[.int .u8 0, .int .u8 0, .int .u8 0, .int .u8 0] 53 (0, 0)) := heap_new w _
  have c0 := Joins.cell_of_block (heap_old _ (.cells #[.int .u8 0, .int .u8 0, .int .u8 0, .int .u8 0] 53) hblk) 0
  simp only [List.getElem?_toArray, List.getElem?_cons_zero] at c0
  obtain ⟨L, hLe⟩ : ∃ L, L = bs.length := ⟨_, rfl⟩
  have HL := hid hLe
  have HBA := hid hbA
  by_cases h4 : q + 4 ≤ bs.length
  · rw [if_pos h4]
    have b0 := (hbA.cell (p := ⟨gb, off + q, none⟩) hgb).trans (hc q (by omega))
    have b1 := (hbA.cell (p := ⟨gb, off + (q + 1), none⟩) hgb).trans (hc (q + 1) (by omega))
    have b2 := (hbA.cell (p := ⟨gb, off + (q + 2), none⟩) hgb).trans (hc (q + 2) (by omega))
    have b3 := (hbA.cell (p := ⟨gb, off + (q + 3), none⟩) hgb).trans (hc (q + 3) (by omega))
    have hd : decide (q + 4 ≤ bs.length) = true := by simpa using h4
    rw [hd]
    clear hd hc hbA
    unfold keyV
    generalize bs.getD q 0 = y0 at *
    generalize bs.getD (q + 1) 0 = y1 at *
    generalize bs.getD (q + 2) 0 = y2 at *
    generalize bs.getD (q + 3) 0 = y3 at *
    rw [← hLe] at c0 hq hcap hL h4
    have hz : ¬ (L : Int) - (q : Int) < 4 := by omega
    have hq4 : q + 4 ≤ cap := by omega
    have harr := run_arrayAt (P := Try.prog) (w.alloc (.cells #[.int .u8 0, .int .u8 0, .int .u8 0, .int .u8 0] 53)) 53 5 4 (some ⟨gb, off + q, none⟩) 4 (cap - q) Try.underlying53 (by omega)
    have f0 := Joins.unfrozen_of_block e0 0
    have f1 := Joins.unfrozen_of_block e0 1
    have f2 := Joins.unfrozen_of_block e0 2
    have f3 := Joins.unfrozen_of_block e0 3
    have k0 := Joins.cell_of_block e0 0
    have k1 := Joins.cell_of_block e0 1
    have k2 := Joins.cell_of_block e0 2
    have k3 := Joins.cell_of_block e0 3
    simp only [List.getElem?_toArray, List.getElem?_cons_zero, List.getElem?_cons_succ] at k0 k1 k2 k3
    have HE0 := hid e0
    have l0 := b0
    have l1 : (w.alloc (.cells #[.int .u8 0, .int .u8 0, .int .u8 0, .int .u8 0] 53)).cell? ⟨gb, off + q + 1, none⟩ = some (.int .u8 y1) := b1
    have l2 : (w.alloc (.cells #[.int .u8 0, .int .u8 0, .int .u8 0, .int .u8 0] 53)).cell? ⟨gb, off + q + 2, none⟩ = some (.int .u8 y2) := b2
    have l3 : (w.alloc (.cells #[.int .u8 0, .int .u8 0, .int .u8 0, .int .u8 0] 53)).cell? ⟨gb, off + q + 3, none⟩ = some (.int .u8 y3) := b3
    clear hblk hLe e0 b0 b1 b2 b3
    go_enter Try.func17, Try.ntmps17
    go_wp2
    refine bodyPost_ret (results_row_tmp (ty := 53) rfl _ _ w.heap.size _ rfl (four_load (heap_new w _))) rfl ?_
    exact ⟨rfl, bel_alloc _ _⟩
  · rw [if_neg h4]
    have hd : decide (q + 4 ≤ bs.length) = false := by simpa using h4
    rw [hd]
    rw [← hLe] at c0 hq hcap hL h4
    have hz : (L : Int) - (q : Int) < 4 := by omega
    clear hd hc hbA hblk hLe e0
    go_enter Try.func17, Try.ntmps17
    go_wp2
    refine bodyPost_ret (results_row_tmp (ty := 53) rfl _ _ w.heap.size _ rfl (four_load (heap_new w _))) rfl ?_
    exact ⟨rfl, bel_alloc _ _⟩

/-- What lz has seen of a row: the places ahead of m. -/
structure Pl (W : World) (n₀ g mb pb : Nat) (v : Value) (bs : List Int) (m : Nat) (ps : List Int) : Prop where
  blk : W.heap[g]? = some (.cells #[v, .map (some mb), .slice (some ⟨pb, 0, none⟩) bs.length bs.length] 49 (0, 0))
  map : Mp W mb bs m
  row : W.ownsRow n₀ 3 1 (.slice (some ⟨pb, 0, none⟩) bs.length bs.length) bs.length (ps.map (Value.int .i64))
  len : ps.length = bs.length
  vals : ∀ p, p < m → p + 4 ≤ bs.length → ps.getD p 0 = ((nxt bs p p : Nat) : Int)
  bg : n₀ ≤ g
  bm : n₀ ≤ mb
  bp : n₀ ≤ pb

theorem Pl.below {W W' : World} {n₀ g mb pb : Nat} {v : Value} {bs : List Int} {m : Nat} {ps : List Int} (h : Pl W n₀ g mb pb v bs m ps) (hb : Below W.heap.size W W') : Pl W' n₀ g mb pb v bs m ps := by
  have hg := (Array.getElem?_eq_some_iff.1 h.blk).1
  have hmb : mb < W.heap.size := by obtain ⟨D, hD, _⟩ := h.map; exact hD.lt
  refine ⟨(hb.block g hg).trans h.blk, h.map.below hb hmb, ?_, h.len, h.vals, h.bg, h.bm, h.bp⟩
  refine ⟨h.row.1, ?_⟩
  rcases h.row.2 with hn | ⟨g', cap, cur, hv, hbs, hgg, rest⟩
  · exact .inl hn
  · exact .inr ⟨g', cap, cur, hv, hbs, (hb.block g' (Array.getElem?_eq_some_iff.1 hgg).1).trans hgg, rest⟩

theorem Try.info3 : (Try.prog.info? 3).map (fun i => (i.zero, i.size, i.bytes)) = some (some (.int .i64 0), 1, 8) := by kernel_rfl

set_option maxHeartbeats 1600000 in
set_option maxRecDepth 100000 in
theorem new_word (bs : List Int) (v0 : Option Addr) (cap : Nat) (w : World) (hL : bs.length ≤ 65536) :
    Calls Try.prog 10 #[.slice v0 bs.length cap] w fun e w' => ∃ g mb pb, e = .returned (.pointer (some ⟨g, 0, none⟩)) ∧ Pl w' w.heap.size g mb pb (.slice v0 bs.length cap) bs 0 (List.replicate bs.length 0) ∧ Below w.heap.size w w' := by
  obtain ⟨L, hLe⟩ : ∃ L, L = bs.length := ⟨_, rfl⟩
  have HL := hid hLe
  rw [← hLe] at hL ⊢
  obtain ⟨i0, hi, hz0, hz1, hz2⟩ := info_parts Try.info3
  have hmm := @run_makeMap Try.prog
  clear hLe
  go_enter Try.func10, Try.ntmps10
  go_wp2_with (first
    | (at_make; refine wpList_make_full _ rfl _ _ 47 rfl w.heap.size 3 i0 (.int .i64 0) 1 Try.underlying47 hi hz0 hz1 .i64 .i64 _ _ L rfl rfl (by first | rfl | omega) (by first | rfl | omega) ?b2 ?b3 ?b4 ?_))
  case b2 => rw [hz2]; omega
  case b3 => unfold maxLen; omega
  case b4 => simp
  intro w5 hown0 hgrow
  have hsz := hgrow.size
  have hB1 : Below w.heap.size w w5 := (bel_alloc w _).grown hgrow (by simp) (fun k hk => by cases hk)
  have hmap : Mp w5 w.heap.size bs 0 := (Mp.new w bs).kept hgrow (by simp)
  rw [toList_madeCells_one, HL.out] at hown0
  have hrow : w5.ownsRow w.heap.size 3 1 (.slice (some ⟨w.heap.size + 1, 0, none⟩) bs.length bs.length) bs.length ((List.replicate bs.length (0 : Int)).map (Value.int .i64)) := by simpa using hown0
  have HF : Hid (Pl (w5.alloc (.cells #[.slice v0 L cap, .map (some w.heap.size), .slice (some ⟨w.heap.size + 1, 0, none⟩) L L] 49)) w.heap.size w5.heap.size w.heap.size (w.heap.size + 1) (.slice v0 L cap) bs 0 (List.replicate L 0)) := by
    show Pl _ _ _ _ _ _ _ _ _
    rw [HL.out]
    exact ⟨heap_new _ _, hmap.kept (World.grownBy_alloc w5 _ none) (by simp), hrow.kept (World.grownBy_alloc w5 _ none) (by simp [Value.ownBlock]), by simp, fun p hp => absurd hp (by omega), by simp at hsz; omega, Nat.le_refl _, by omega⟩
  have HB := hid (Bn hB1 (bel_alloc w5 (.cells #[.slice v0 L cap, .map (some w.heap.size), .slice (some ⟨w.heap.size + 1, 0, none⟩) L L] 49)))
  clear hown0 hgrow hsz hB1 hmap hrow
  go_wp2
  go_ret
  exact ⟨_, _, _, rfl, HF.out, HB.out⟩

/-- All but two blocks are as they were. -/
structure But (a b : Nat) (w w' : World) : Prop where
  size : w.heap.size ≤ w'.heap.size
  same : ∀ i, i < w.heap.size → i ≠ a → i ≠ b → w'.heap[i]? = w.heap[i]?

theorem But.refl (a b : Nat) (w : World) : But a b w w := ⟨Nat.le_refl _, fun _ _ _ _ => rfl⟩
theorem But.trans {a b : Nat} {x y z : World} (h : But a b x y) (k : But a b y z) : But a b x z :=
  ⟨Nat.le_trans h.size k.size, fun i hi h1 h2 => (k.same i (Nat.lt_of_lt_of_le hi h.size) h1 h2).trans (h.same i hi h1 h2)⟩
theorem But.of_below {a b : Nat} {w w' : World} (h : Below w.heap.size w w') : But a b w w' := ⟨h.size, fun i hi _ _ => h.block i hi⟩
theorem But.of_grown {a b : Nat} {w w' : World} {row : Option Nat} (h : w.grownBy w' row) (hr : row = some a ∨ row = some b) : But a b w w' :=
  ⟨h.size, fun i hi h1 h2 => h.block i hi (fun e => by rcases hr with r | r <;> rw [r] at e <;> injection e with e <;> omega)⟩
theorem But.row {a b : Nat} {w w' : World} (h : But a b w w') {base : Nat} {e : TypeId} {size : Nat} {v : Value} {n : Nat} {xs : List Value} (ho : w.ownsRow base e size v n xs) (h1 : v.ownBlock ≠ some a) (h2 : v.ownBlock ≠ some b) : w'.ownsRow base e size v n xs := by
  refine ⟨ho.1, ?_⟩
  rcases ho.2 with hn | ⟨g, cap, cur, rfl, hb, hg, rest⟩
  · exact .inl hn
  · refine .inr ⟨g, cap, cur, rfl, hb, (h.same g (Array.getElem?_eq_some_iff.1 hg).1 (fun e => h1 (by rw [e]; rfl)) (fun e => h2 (by rw [e]; rfl))).trans hg, rest⟩

theorem Pl.ne1 {W : World} {n₀ g mb pb : Nat} {v : Value} {bs : List Int} {m : Nat} {ps : List Int} (h : Pl W n₀ g mb pb v bs m ps) : (∃ cur, W.heap[pb]? = some (.cells cur 3 (0, 0))) ∧ g ≠ pb ∧ mb ≠ pb ∧ g ≠ mb := by
  have hp : ∃ cur, W.heap[pb]? = some (.cells cur 3 (0, 0)) := by
    rcases h.row.2 with ⟨hv, _⟩ | ⟨g', cap, cur, hv, _, hg, _⟩
    · cases hv
    · injection hv with hv
      injection hv with hv
      injection hv with hv _
      subst hv
      exact ⟨cur, hg⟩
  obtain ⟨cur, hp⟩ := hp
  obtain ⟨D, ⟨es, clock, hh, _⟩, _⟩ := h.map
  refine ⟨⟨cur, hp⟩, fun e => ?_, fun e => ?_, fun e => ?_⟩
  · have hb := h.blk; rw [e, hp] at hb; cases hb
  · rw [e, hp] at hh; cases hh
  · have hb := h.blk; rw [e, hh] at hb; cases hb
theorem Pl.store {W : World} {n₀ g mb pb : Nat} {v : Value} {bs : List Int} {m : Nat} {ps : List Int} (h : Pl W n₀ g mb pb v bs m ps) (x : Int) : Pl (W.setCell ⟨pb, m, none⟩ (.int .i64 x)) n₀ g mb pb v bs m (ps.set m x) := by
  obtain ⟨⟨cur, hp⟩, n1, n2, n3⟩ := h.ne1
  have hst := h.row.stored m (.int .i64 x)
  refine ⟨by rw [heap_put_other hp n1]; exact h.blk, h.map.kept hst.2 (fun e => n2 (by injection e)), ?_, by rw [List.length_set]; exact h.len, fun p hpm hl => ?_, h.bg, h.bm, h.bp⟩
  · rw [List.map_set]; exact hst.1
  · rw [← h.vals p hpm hl]
    simp [List.getD, List.getElem?_set_ne (show m ≠ p by omega)]
theorem Pl.mapped {W W' : World} {n₀ g mb pb : Nat} {v : Value} {bs : List Int} {m : Nat} {ps : List Int} (h : Pl W n₀ g mb pb v bs m ps) (hv : ps.getD m 0 = ((nxt bs m m : Nat) : Int)) (hm : Mp W' mb bs (m + 1)) (hg : W.grownBy W' (some mb)) : Pl W' n₀ g mb pb v bs (m + 1) ps := by
  obtain ⟨⟨cur, hp⟩, n1, n2, n3⟩ := h.ne1
  have hgl := (Array.getElem?_eq_some_iff.1 h.blk).1
  refine ⟨(hg.block g hgl (fun e => n3 (by injection e))).trans h.blk, hm, h.row.kept hg (.inr (fun e => n2 (by simp [Value.ownBlock] at e; exact e.symm))), h.len, fun p hpm hl => ?_, h.bg, h.bm, h.bp⟩
  by_cases e : p = m
  · subst e; exact hv
  · exact h.vals p (by omega) hl
theorem Pl.skip {W : World} {n₀ g mb pb : Nat} {v : Value} {bs : List Int} {m : Nat} {ps : List Int} (h : Pl W n₀ g mb pb v bs m ps) (hm : bs.length < m + 4) : Pl W n₀ g mb pb v bs (m + 1) ps := by
  refine ⟨h.blk, ?_, h.row, h.len, fun p hp hl => h.vals p (by omega) hl, h.bg, h.bm, h.bp⟩
  obtain ⟨D, hD, _⟩ := h.map
  exact ⟨D, hD.mono (by omega), fun q hq hl => by omega⟩

set_option maxHeartbeats 1600000 in
set_option maxRecDepth 100000 in
theorem add_word (bs : List Int) (m n₀ g mb pb gb off cap : Nat) (ps : List Int) (w : World) (h8 : Bytes8 bs) (hP : Pl w n₀ g mb pb (.slice (some ⟨gb, off, none⟩) bs.length cap) bs m ps) (hm : m < bs.length) (hcap : bs.length ≤ cap) (hmx : cap ≤ maxLen) (hL : bs.length ≤ 65536) (hgb : gb < w.heap.size)
    (hc : ∀ j, j < bs.length → w.cell? ⟨gb, off + j, none⟩ = some (.int .u8 (bs.getD j 0))) :
    Calls Try.prog 13 #[.pointer (some ⟨g, 0, none⟩), .int .i64 (m : Int)] w fun e w' => (∃ v, e = .returned v) ∧ (∃ ps', Pl w' n₀ g mb pb (.slice (some ⟨gb, off, none⟩) bs.length cap) bs (m + 1) ps') ∧ Below n₀ w w' ∧ But mb pb w w' := by
  have HK := hid (key_word bs m g gb off cap _ _ w (by omega) hcap hmx hL hgb hP.blk hc)
  have hn0 : n₀ ≤ w.heap.size := by have := (Array.getElem?_eq_some_iff.1 hP.blk).1; have := hP.bg; omega
  have HP := hid hP
  by_cases h4 : m + 4 ≤ bs.length
  · rw [if_pos h4, show decide (m + 4 ≤ bs.length) = true from by simpa using h4] at HK
    obtain ⟨L, hLe⟩ : ∃ L, L = bs.length := ⟨_, rfl⟩
    have HL := hid hLe
    have hKV : keyV bs m = .agg #[.int .u8 (bs.getD m 0), .int .u8 (bs.getD (m + 1) 0), .int .u8 (bs.getD (m + 2) 0), .int .u8 (bs.getD (m + 3) 0)] := rfl
    rw [hKV] at HK
    have HLK : Hid (∀ W, Mp W mb bs m → (Instr.lookup 46 (.map (some mb)) (.agg #[.int .u8 (bs.getD m 0), .int .u8 (bs.getD (m + 1) 0), .int .u8 (bs.getD (m + 2) 0), .int .u8 (bs.getD (m + 3) 0)]) false).run Try.prog W = .ok (.int .i64 ((nxt bs m m : Nat) : Int)) W) := fun W hW => hW.look h8 m (Nat.le_refl _) h4
    have HUP : Hid (∀ W, Mp W mb bs m → ∃ W', (Instr.mapUpdate 46 (.map (some mb)) (.agg #[.int .u8 (bs.getD m 0), .int .u8 (bs.getD (m + 1) 0), .int .u8 (bs.getD (m + 2) 0), .int .u8 (bs.getD (m + 3) 0)]) (.int .i64 (((m + 1 : Nat)) : Int))).run Try.prog W = .ok () W' ∧ Mp W' mb bs (m + 1) ∧ W.grownBy W' (some mb)) := fun W hW => hW.put h8 (by omega)
    generalize bs.getD m 0 = y0 at *
    generalize bs.getD (m + 1) 0 = y1 at *
    generalize bs.getD (m + 2) 0 = y2 at *
    generalize bs.getD (m + 3) 0 = y3 at *
    clear hP hc hKV
    go_enter Try.func13, Try.ntmps13
    go_wp2_with fail
    refine HK.out.mono ?_
    rintro _ w1 ⟨rfl, hb1⟩
    have hP1 := HP.out.below hb1
    clear HK
    go_wp2_with fail
    have hbA := bel_alloc w1 (.cells #[.int .u8 y0, .int .u8 y1, .int .u8 y2, .int .u8 y3] 53)
    have e0 : (w1.alloc (.cells #[.int .u8 y0, .int .u8 y1, .int .u8 y2, .int .u8 y3] 53)).heap[w1.heap.size]? = some (.cells #[.int .u8 y0, .int .u8 y1, .int .u8 y2, .int .u8 y3] 53 (0, 0)) := heap_new w1 _
    have hP2 := hP1.below hbA
    have HB2 := hid (Bn hb1 hbA)
    clear hb1 hP1 hbA
    generalize w1.alloc (.cells #[.int .u8 y0, .int .u8 y1, .int .u8 y2, .int .u8 y3] 53) = W at *
    generalize w1.heap.size = kb at *
    have c1 := Joins.cell_of_block hP2.blk 1
    have c2 := Joins.cell_of_block hP2.blk 2
    have k0 := Joins.cell_of_block e0 0
    have k1 := Joins.cell_of_block e0 1
    have k2 := Joins.cell_of_block e0 2
    have k3 := Joins.cell_of_block e0 3
    simp only [List.getElem?_toArray, List.getElem?_cons_zero, List.getElem?_cons_succ] at c1 c2 k0 k1 k2 k3
    rw [← hLe] at c2
    have hlk := HLK.out W.drew hP2.map
    have hcell : ∃ u, W.cell? ⟨pb, m, none⟩ = some u := by
      rw [hP2.row.cellAt _ (by omega)]
      exact ⟨_, List.getElem?_eq_getElem (by rw [List.length_map, hP2.len]; exact hm)⟩
    obtain ⟨u, hu⟩ := hcell
    have fu := hP2.row.frozenAt m
    have hmL : (m : Int) < (L : Int) := by omega
    have HP2 := hid hP2
    have HE0 := hid e0
    clear hP2 e0 hLe
    have hmo : Try.prog.follows .mixedOrders = true := by kernel_rfl
    go_still_tail 12, hmo
    go_wp2_with fail
    have hne : kb ≠ pb := by
      obtain ⟨⟨cur, hp⟩, _⟩ := HP2.out.ne1
      intro e
      have := HE0.out
      rw [e, hp] at this
      cases this
    have hP3 : Pl (W.setCell ⟨pb, m, none⟩ (.int .i64 ((nxt bs m m : Nat) : Int))).drew n₀ g mb pb (.slice (some ⟨gb, off, none⟩) bs.length cap) bs m (ps.set m ((nxt bs m m : Nat) : Int)) := by
      have h := HP2.out.store ((nxt bs m m : Nat) : Int)
      exact ⟨h.blk, h.map, h.row, h.len, h.vals, h.bg, h.bm, h.bp⟩
    have e3 : (W.setCell ⟨pb, m, none⟩ (.int .i64 ((nxt bs m m : Nat) : Int))).drew.heap[kb]? = some (.cells #[.int .u8 y0, .int .u8 y1, .int .u8 y2, .int .u8 y3] 53 (0, 0)) := by
      obtain ⟨⟨cur, hp⟩, _⟩ := HP2.out.ne1
      exact (heap_put_other hp hne _).trans HE0.out
    have hbut : But mb pb W (W.setCell ⟨pb, m, none⟩ (.int .i64 ((nxt bs m m : Nat) : Int))).drew := by
      have := But.of_grown (a := mb) (b := pb) (HP2.out.row.stored m (.int .i64 ((nxt bs m m : Nat) : Int))).2 (.inr rfl)
      exact ⟨this.size, this.same⟩
    have hbl : Below n₀ W (W.setCell ⟨pb, m, none⟩ (.int .i64 ((nxt bs m m : Nat) : Int))).drew := ((Below.refl n₀ W).setCell (p := ⟨pb, m, none⟩) HP2.out.bp _).drew
    have hv : (ps.set m ((nxt bs m m : Nat) : Int)).getD m 0 = ((nxt bs m m : Nat) : Int) := by
      have : m < ps.length := by rw [HP2.out.len]; exact hm
      simp [List.getD, List.getElem?_set_self this]
    have HV := hid hv
    have HBUT := hid hbut
    have HBL := hid hbl
    clear hlk hu fu c1 c2 k0 k1 k2 k3 hne hv hbut hbl HE0 HP2
    generalize (W.setCell ⟨pb, m, none⟩ (.int .i64 ((nxt bs m m : Nat) : Int))).drew = W3 at *
    have c1 := Joins.cell_of_block hP3.blk 1
    have k0 := Joins.cell_of_block e3 0
    have k1 := Joins.cell_of_block e3 1
    have k2 := Joins.cell_of_block e3 2
    have k3 := Joins.cell_of_block e3 3
    simp only [List.getElem?_toArray, List.getElem?_cons_zero, List.getElem?_cons_succ] at c1 k0 k1 k2 k3
    obtain ⟨W4, hup, hM4, hg4⟩ := HUP.out W3.drew hP3.map
    rw [show (((m + 1 : Nat)) : Int) = (m : Int) + 1 from by omega] at hup
    have HP4 : Hid (Pl W4 n₀ g mb pb (.slice (some ⟨gb, off, none⟩) bs.length cap) bs (m + 1) (ps.set m ((nxt bs m m : Nat) : Int))) :=
      (show Pl W3.drew n₀ g mb pb (.slice (some ⟨gb, off, none⟩) bs.length cap) bs m (ps.set m ((nxt bs m m : Nat) : Int)) from ⟨hP3.blk, hP3.map, hP3.row, hP3.len, hP3.vals, hP3.bg, hP3.bm, hP3.bp⟩).mapped HV.out hM4 hg4
    have hbm := hP3.bm
    have HB4 : Hid (But mb pb w W4) := ((But.of_below HB2.out).trans HBUT.out).trans ((⟨Nat.le_refl _, fun _ _ _ _ => rfl⟩ : But mb pb W3 W3.drew).trans (But.of_grown hg4 (.inl rfl)))
    have hsz : n₀ ≤ W3.drew.heap.size := by have := (Array.getElem?_eq_some_iff.1 hP3.blk).1; have := hP3.bg; show n₀ ≤ W3.heap.size; omega
    have HL4 : Hid (Below n₀ w W4) := ((HB2.out.mono hn0).trans HBL.out).trans ((Below.refl n₀ W3).drew.grown hg4 hsz (fun k hk => by injection hk with hk; omega))
    clear hP3 e3 hM4 hg4 HV HBUT HBL HB2 hsz hbm
    have hm6 : m ≤ 65536 := by omega
    go_still_tail 7, hmo
    rw [IntWalk.i64_in _ ⟨by omega, by omega⟩]
    change wpList _ _ _ _ _ W3.drew
    go_wp2
    go_end0
    exact ⟨⟨_, rfl⟩, ⟨_, HP4.out⟩, HL4.out, HB4.out⟩
  · rw [if_neg h4, show decide (m + 4 ≤ bs.length) = false from by simpa using h4] at HK
    clear hP hc
    go_enter Try.func13, Try.ntmps13
    go_wp2_with fail
    refine HK.out.mono ?_
    rintro _ w1 ⟨rfl, hb1⟩
    have HB1 := hid (Bn hb1 (bel_alloc w1 (.cells #[.int .u8 0, .int .u8 0, .int .u8 0, .int .u8 0] 53)))
    clear hb1 HK
    unfold four
    go_wp2
    go_end0
    exact ⟨⟨_, rfl⟩, ⟨ps, (HP.out.below HB1.out).skip (by omega)⟩, HB1.out.mono hn0, But.of_below HB1.out⟩
end Go.Proofs.Ytgdlmhgjhmcilab
