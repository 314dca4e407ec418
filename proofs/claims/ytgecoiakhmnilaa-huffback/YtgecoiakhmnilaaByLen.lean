/-
  The contract of huff's byLength.
-/
import Derived.Test.YtgecoiakhmnilaaFind
namespace Go.Proofs.Ytgecoiakhmnilaa
open Go.RowKit Hf

namespace Hf
def fillP (zs : List Int) (k : Nat) : List Nat := (List.range 16).map (fun l => if l < k then plc zs l else 0)
theorem fillP_length (zs : List Int) (k : Nat) : (fillP zs k).length = 16 := by simp [fillP]
theorem fillP_getD (zs : List Int) (k l : Nat) (h : l < 16) : (fillP zs k).getD l 0 = if l < k then plc zs l else 0 := by
  simp [fillP, List.getD, h]
theorem fillP_one (zs : List Int) : fillP zs 1 = z16 := by
  refine list_ext_getD (by simp [fillP, z16]) (fun i hi => ?_)
  rw [fillP_length] at hi
  rw [fillP_getD _ _ _ hi]
  rw [z16_getD]
  by_cases h : i < 1
  · obtain rfl : i = 0 := by omega
    simp [plc]
  · simp [h]
theorem fillP_set (zs : List Int) (k : Nat) (h0 : 0 < k) (h : k < 16) : (fillP zs k).set k (plc zs (k - 1) + cnt zs (k - 1)) = fillP zs (k + 1) := by
  have e : plc zs (k - 1) + cnt zs (k - 1) = plc zs k := by
    conv => rhs; rw [show k = (k - 1) + 1 from by omega, plc]
  rw [e]
  refine list_ext_getD (by simp [fillP]) (fun i hi => ?_)
  rw [List.length_set, fillP_length] at hi
  rw [getD_set _ _ _ _ (by rw [fillP_length]; exact h), fillP_getD _ _ _ hi, fillP_getD _ _ _ hi]
  by_cases e : i = k
  · subst e; simp
  · rw [if_neg e]
    by_cases h2 : i < k
    · rw [if_pos h2, if_pos (by omega)]
    · rw [if_neg h2, if_neg (by omega)]
def nextP (zs : List Int) (k : Nat) : List Nat := (List.range 16).map (fun l => plc zs l + cnt (zs.take k) l)
theorem nextP_length (zs : List Int) (k : Nat) : (nextP zs k).length = 16 := by simp [nextP]
theorem nextP_getD (zs : List Int) (k l : Nat) (h : l < 16) : (nextP zs k).getD l 0 = plc zs l + cnt (zs.take k) l := by
  simp [nextP, List.getD, h]
theorem nextP_zero (zs : List Int) : nextP zs 0 = fillP zs 16 := by
  refine list_ext_getD (by simp [fillP, nextP]) (fun i hi => ?_)
  rw [nextP_length] at hi
  rw [nextP_getD _ _ _ hi, fillP_getD _ _ _ hi, if_pos hi]
  simp [cnt]
theorem nextP_set (zs : List Int) (k l : Nat) (hk : k < zs.length) (hz : zs.getD k 0 = (l : Int)) (h0 : 0 < l) (h : l < 16) : (nextP zs k).set l (plc zs l + cnt (zs.take k) l + 1) = nextP zs (k + 1) := by
  refine list_ext_getD (by simp [nextP]) (fun i hi => ?_)
  rw [List.length_set, nextP_length] at hi
  rw [getD_set _ _ _ _ (by rw [nextP_length]; exact h), nextP_getD _ _ _ hi, nextP_getD _ _ _ hi, take_snoc zs k hk, hz, cnt_snoc]
  by_cases e : i = l
  · subst e; rw [if_pos rfl, if_pos ⟨by omega, rfl⟩]; omega
  · rw [if_neg e, if_neg (by omega)]; rfl
theorem nextP_same (zs : List Int) (k : Nat) (hk : k < zs.length) (hz : zs.getD k 0 ≤ 0) : nextP zs (k + 1) = nextP zs k := by
  refine list_ext_getD (by simp [nextP]) (fun i hi => ?_)
  rw [nextP_length] at hi
  rw [nextP_getD _ _ _ hi, nextP_getD _ _ _ hi, take_snoc zs k hk, cnt_snoc, if_neg (by omega)]; rfl

theorem plc_len (zs : List Int) (l : Nat) : plc zs l ≤ zs.length := by
  suffices h : plc zs l = zs.countP (fun z => decide (0 < z ∧ z < (l : Int))) by rw [h]; exact List.countP_le_length
  induction l with
  | zero =>
    rw [plc]; symm; rw [List.countP_eq_zero]; intro z _; simp; omega
  | succ l ih =>
    rw [plc, ih]
    clear ih
    unfold cnt
    by_cases h0 : l = 0
    · subst h0
      rw [if_pos rfl, Nat.add_zero]
      refine List.countP_congr (fun z _ => ?_)
      simp; omega
    · rw [if_neg h0]
      induction zs with
      | nil => rfl
      | cons z zs ih =>
        rw [List.countP_cons, List.countP_cons, List.countP_cons, ← ih]
        have e1 : ((z == (l : Int)) = true) ↔ z = (l : Int) := by simp
        have e2 : (decide (0 < z ∧ z < (l : Int)) = true) ↔ (0 < z ∧ z < (l : Int)) := by simp
        have e3 : (decide (0 < z ∧ z < ((l + 1 : Nat) : Int)) = true) ↔ (0 < z ∧ z < (l : Int) + 1) := by simp
        simp only [e1, e2, e3]
        by_cases h1 : z = (l : Int)
        · rw [if_pos h1, if_neg (by omega), if_pos (by omega)]; omega
        · by_cases h2 : 0 < z ∧ z < (l : Int)
          · rw [if_neg h1, if_pos h2, if_pos (by omega)]; omega
          · rw [if_neg h1, if_neg h2, if_neg (by omega)]; omega
theorem plc_mono (zs : List Int) (l m : Nat) (h : l ≤ m) : plc zs l ≤ plc zs m := by
  induction m with
  | zero => rw [show l = 0 from by omega]; exact Nat.le_refl _
  | succ m ih =>
    rcases Nat.lt_or_ge m l with h2 | h2
    · rw [show l = m + 1 from by omega]; exact Nat.le_refl _
    · have := ih h2; rw [plc]; omega
theorem plc_room (zs : List Int) (s l : Nat) (hs : s < zs.length) (hz : zs.getD s 0 = (l : Int)) (h0 : 0 < l) : plc zs l + cnt (zs.take s) l < zs.length := by
  have h1 := cnt_take_lt zs s l hs hz h0
  have h2 := plc_len zs (l + 1)
  rw [plc] at h2
  omega
theorem place_ne (zs : List Int) (s t l m : Nat) (hs : s < t) (ht : t < zs.length) (h1 : zs.getD s 0 = (l : Int)) (h2 : zs.getD t 0 = (m : Int)) (hl : 0 < l) (hm : 0 < m) : plc zs l + cnt (zs.take s) l ≠ plc zs m + cnt (zs.take t) m := by
  have a1 := cnt_take_lt zs s l (by omega) h1 hl
  have a2 := cnt_take_lt zs t m ht h2 hm
  rcases Nat.lt_trichotomy l m with h | h | h
  · have := plc_mono zs (l + 1) m (by omega); rw [plc] at this; omega
  · subst h
    have := cnt_take_mono zs l s t hl hs (by omega) h1; omega
  · have := plc_mono zs (m + 1) l (by omega); rw [plc] at this; omega

/-- The order of codes, as far as the first k symbols go. -/
structure OrdK (zs : List Int) (k : Nat) (O : List Int) : Prop where
  len : O.length = zs.length
  low : ∀ j, 0 ≤ O.getD j 0 ∧ O.getD j 0 < 512
  at' : ∀ s, s < k → 0 < zs.getD s 0 → O.getD (plc zs (zs.getD s 0).toNat + cnt (zs.take s) (zs.getD s 0).toNat) 0 = (s : Int)
theorem OrdK.start (zs : List Int) : OrdK zs 0 (List.replicate zs.length 0) :=
  ⟨by simp, fun j => by
    have : (List.replicate zs.length (0 : Int)).getD j 0 = 0 := by
      rw [List.getD_eq_getElem?_getD, List.getElem?_replicate]; split <;> rfl
    rw [this]; omega, fun s hs => absurd hs (by omega)⟩
theorem OrdK.put {zs : List Int} {k l : Nat} {O : List Int} (h : OrdK zs k O) (hk : k < zs.length) (hn : zs.length ≤ 512) (hz : zs.getD k 0 = (l : Int)) (h0 : 0 < l) : OrdK zs (k + 1) (O.set (plc zs l + cnt (zs.take k) l) (k : Int)) := by
  have hroom := plc_room zs k l hk hz h0
  have hg := fun j => igetD_set O (plc zs l + cnt (zs.take k) l) j (k : Int) (by rw [h.len]; exact hroom)
  refine ⟨by rw [List.length_set, h.len], fun j => ?_, fun s hs hp => ?_⟩
  · rw [hg]; split
    · omega
    · exact h.low j
  · rw [hg]
    by_cases hsk : s = k
    · subst hsk; rw [hz, Int.toNat_natCast, if_pos rfl]
    · obtain ⟨m, hm⟩ : ∃ m : Nat, zs.getD s 0 = (m : Int) := ⟨(zs.getD s 0).toNat, by omega⟩
      have hne := place_ne zs s k m l (by omega) hk hm hz (by omega) h0
      have ha := h.at' s (by omega) hp
      rw [hm, Int.toNat_natCast] at ha ⊢
      rw [if_neg hne]; exact ha
theorem OrdK.keep {zs : List Int} {k : Nat} {O : List Int} (h : OrdK zs k O) (hz : zs.getD k 0 ≤ 0) : OrdK zs (k + 1) O :=
  ⟨h.len, h.low, fun s hs hp => by
    by_cases hsk : s = k
    · subst hsk; omega
    · exact h.at' s (by omega) hp⟩
end Hf

theorem Try.info3b : (Try.prog.info? 3).map (fun i => (i.zero, i.size, i.bytes)) = some (some (.int .i64 0), 1, 8) := by kernel_rfl

/-- What the first walk of byLength keeps. -/
structure MemB (w wr : World) (tz fz : List Nat) : Prop where
  many : wr.heap[w.heap.size]? = some (.cells (arr .i64 tz) 59 (0, 0))
  nxt : wr.heap[w.heap.size + 1]? = some (.cells (arr .i64 fz) 59 (0, 0))
  bel : Below w.heap.size w wr
theorem MemB.put {w wr : World} {tz fz : List Nat} (h : MemB w wr tz fz) (i v : Nat) : MemB w (wr.setCell ⟨w.heap.size + 1, i, none⟩ (.int .i64 (v : Int))) tz (fz.set i v) := by
  refine ⟨?_, ?_, h.bel.setCell (by simp) _⟩
  · rw [heap_put_other h.nxt (by omega)]; exact h.many
  · rw [Joins.block_setCell h.nxt, arr_set]
theorem MemB.drew {w wr : World} {tz fz : List Nat} (h : MemB w wr tz fz) : MemB w wr.drew tz fz := ⟨h.many, h.nxt, h.bel.drew⟩

/-- What the second walk of byLength keeps: the next places, and the row of symbols. -/
structure MemO (w wr : World) (gn gc n : Nat) (nx : List Nat) (cs : List Int) : Prop where
  nxt : wr.heap[gn]? = some (.cells (arr .i64 nx) 59 (0, 0))
  row : wr.ownsRow w.heap.size 3 1 (.slice (some ⟨gc, 0, none⟩) n n) n (cs.map (Value.int .i64))
  bel : Below w.heap.size w wr
theorem MemO.putRow {w wr : World} {gn gc n : Nat} {nx : List Nat} {cs : List Int} (h : MemO w wr gn gc n nx cs) (hne : gn ≠ gc) (hgc : w.heap.size ≤ gc) (j : Nat) (x : Int) : MemO w (wr.setCell ⟨gc, j, none⟩ (.int .i64 x)) gn gc n nx (cs.set j x) := by
  have hst := h.row.stored j (.int .i64 x)
  refine ⟨?_, ?_, h.bel.setCell hgc _⟩
  · obtain ⟨_, _, _, _, _, hh, _⟩ : ∃ g cap cur, Value.slice (some ⟨gc, 0, none⟩) n n = .slice (some ⟨g, 0, none⟩) n cap ∧ w.heap.size ≤ g ∧ wr.heap[g]? = some (.cells cur 3 (0, 0)) ∧ True := by
      rcases h.row.2 with ⟨hv, _⟩ | ⟨g, cap, cur, hv, hb, hg, _⟩
      · cases hv
      · exact ⟨g, cap, cur, hv, hb, hg, trivial⟩
    rename_i g cap cur hv _ _
    injection hv with hv
    injection hv with hv
    injection hv with hv _
    subst hv
    rw [heap_put_other hh hne]; exact h.nxt
  · rw [List.map_set]; exact hst.1
theorem MemO.putNext {w wr : World} {gn gc n : Nat} {nx : List Nat} {cs : List Int} (h : MemO w wr gn gc n nx cs) (hne : gn ≠ gc) (hgn : w.heap.size ≤ gn) (j v : Nat) : MemO w (wr.setCell ⟨gn, j, none⟩ (.int .i64 (v : Int))) gn gc n (nx.set j v) cs := by
  refine ⟨?_, ?_, h.bel.setCell hgn _⟩
  · rw [Joins.block_setCell h.nxt, arr_set]
  · exact ownsRow_setCell_other h.row (by simp [Value.ownBlock]; omega) _

set_option maxHeartbeats 1600000 in
set_option maxRecDepth 100000 in
theorem byLength_word (a : Option Addr) (cap : Nat) (zs : List Int) (w : World) (hr : Ri w .i64 a cap zs) (hc : checkB zs = true) :
    Calls Try.prog 40 #[.slice a zs.length cap, .agg (arr .i64 (tal zs))] w fun e w' => ∃ a' cap' O, e = .returned (.slice a' zs.length cap') ∧ O.length = zs.length ∧ Ordd zs O ∧ Ri w' .i64 a' cap' O ∧ Below w.heap.size w w' := by
  obtain ⟨i0, hi, hz0, hz1, hz2⟩ := info_parts Try.info3b
  have hok : lenOk zs = true := by unfold checkB at hc; rw [Bool.and_eq_true] at hc; exact hc.1
  have hlen := (lenOk_all hok).1
  have HA := hid (lenOk_all hok).2
  have HG := hid (tal_getD zs)
  have HTL := hid (tal_length zs)
  have HR := hid hr
  have b1 := bel_alloc w (.cells (arr .i64 (tal zs)) 59)
  have s1 : (w.alloc (.cells (arr .i64 (tal zs)) 59)).heap.size = w.heap.size + 1 := by simp
  have e1 := heap_new w (.cells (arr .i64 (tal zs)) 59)
  have b2 := bel_alloc (w.alloc (.cells (arr .i64 (tal zs)) 59)) (.cells (arr .i64 z16) 59)
  have e2 := heap_new (w.alloc (.cells (arr .i64 (tal zs)) 59)) (.cells (arr .i64 z16) 59)
  rw [s1] at e2
  have e1' : ((w.alloc (.cells (arr .i64 (tal zs)) 59)).alloc (.cells (arr .i64 z16) 59)).heap[w.heap.size]? = some (.cells (arr .i64 (tal zs)) 59 (0, 0)) := by rw [b2.block _ (by omega)]; exact e1
  have HM : Hid (MemB w ((w.alloc (.cells (arr .i64 (tal zs)) 59)).alloc (.cells (arr .i64 z16) 59)) (tal zs) (fillP zs 1)) := ⟨e1', by rw [fillP_one]; exact e2, Bn b1 b2⟩
  obtain ⟨len, hl⟩ : ∃ n, n = zs.length := ⟨_, rfl⟩
  have HL := hid hl
  rw [← hl] at hlen ⊢
  clear hr hok hc hl b1 s1 e1 b2 e2 e1'
  generalize tal zs = tz at *
  go_enter Try.func40, Try.ntmps40
  go_wp2_with (first
    | (refine wpList_alloc_at rfl 59 rfl (some 5) rfl (arr .i64 z16) Try.zero59 (w.heap.size + 1) (by simp) ?_))
  generalize (w.alloc (.cells (arr .i64 tz) 59)).alloc (.cells (arr .i64 z16) 59) = w3 at *
  go_loopw [6] (fun i wr => ∃ j : Nat, j ≤ 15 ∧ i = .int .i64 ((j : Int) + 1) ∧ MemB w wr tz (fillP zs (j + 1))) (fun i _ => 16 - (intOf i).toNat)
  case atStart => exact ⟨0, by omega, rfl, HM.out⟩
  case round =>
    clear HM
    obtain ⟨j, hj, rfl, hM⟩ := hrel
    by_cases hlt : j < 15
    · have hj16 : (j : Int) + 1 < 16 := by omega
      have hfl := fillP_length zs (j + 1)
      have c1 := (Joins.cell_of_block hM.nxt j).trans (arr_get .i64 _ j (by omega))
      have c2 := (Joins.cell_of_block hM.many j).trans (arr_get .i64 _ j (by rw [HTL.out]; omega))
      have cw := (Joins.cell_of_block hM.nxt (j + 1)).trans (arr_get .i64 _ (j + 1) (by omega))
      have fw := Joins.unfrozen_of_block hM.nxt (j + 1)
      rw [fillP_getD _ _ _ (by omega), if_pos (by omega)] at c1
      rw [HG.out j (by omega)] at c2
      have hc := cnt_le zs j
      have hs := plc_len zs j
      rw [← HL.out] at hc hs
      have hput := fun W (h : MemB w W tz (fillP zs (j + 1))) => (h.put (j + 1) (plc zs j + cnt zs j)).drew
      have e := fillP_set zs (j + 1) (by omega) (by omega)
      rw [show j + 1 - 1 = j from rfl] at e
      rw [e] at hput
      have HP := hid hput
      have HMM := hid hM
      clear hput hM hfl e
      generalize (fillP zs (j + 1)).getD (j + 1) 0 = old at *
      generalize plc zs j = f at *
      generalize cnt zs j = c at *
      have HV : Hid ((f : Int) + (c : Int) = ((f + c : Nat) : Int)) := by show _ = _; omega
      go_wp2_with fail
      go_region
      rw [HV.out]
      have HP1 := hid (HP.out _ HMM.out)
      generalize hW2 : (wr.setCell ⟨w.heap.size + 1, j + 1, none⟩ (.int .i64 ((f + c : Nat) : Int))).drew = W2 at *
      clear hW2 c1 c2 cw fw
      go_wp2
      go_roundw
      case rel => exact ⟨j + 1, by omega, by go_num, HP1.out⟩
      case measure => simp [intOf]; omega
    · obtain rfl : j = 15 := by omega
      have HMM := hid hM
      have hgw := hM.bel.size
      have hsw : w.heap.size + 1 < wr.heap.size := by
        have := hM.nxt
        rcases Nat.lt_or_ge (w.heap.size + 1) wr.heap.size with h | h
        · exact h
        · rw [Array.getElem?_eq_none h] at this; cases this
      clear hM
      go_wp2_with (first
        | (at_make; refine wpList_make_full _ rfl _ _ 22 rfl w.heap.size 3 i0 (.int .i64 0) 1 Try.underlying22 hi hz0 hz1 .i64 .i64 _ _ len rfl rfl (by first | rfl | omega) (by first | rfl | omega) ?b2 ?b3 ?b4 ?_))
      case b2 => rw [hz2]; omega
      case b3 => unfold maxLen; omega
      case b4 => exact hgw
      intro w5 hown0 hgrow
      obtain ⟨gc, hgc⟩ : ∃ g, g = wr.heap.size := ⟨_, rfl⟩
      have hown1 : w5.ownsRow w.heap.size 3 1 (.slice (some ⟨gc, 0, none⟩) len len) len ((List.replicate zs.length (0 : Int)).map (Value.int .i64)) := by
        rw [hgc, ← HL.out]
        rw [toList_madeCells_one] at hown0
        simpa using hown0
      have hB5 : Below w.heap.size w w5 := HMM.out.bel.grown hgrow hgw (fun k hk => by cases hk)
      have hn5 : w5.heap[w.heap.size + 1]? = some (.cells (arr .i64 (nextP zs 0)) 59 (0, 0)) := by
        have hb := (Below.refl wr.heap.size wr).grown hgrow (Nat.le_refl _) (fun k hk => by cases hk)
        rw [hb.block _ hsw, nextP_zero]; exact HMM.out.nxt
      have HM : Hid (MemO w w5 (w.heap.size + 1) gc len (nextP zs 0) (List.replicate zs.length 0)) := ⟨hn5, hown1, hB5⟩
      have HO : Hid (OrdK zs 0 (List.replicate zs.length 0)) := OrdK.start zs
      have hne : w.heap.size + 1 ≠ gc := by omega
      have hgw' : w.heap.size ≤ gc := by omega
      have hgn : w.heap.size ≤ w.heap.size + 1 := by omega
      rw [← hgc]
      clear HMM hown0 hgrow hown1 hB5 hn5 hgc hgw hsw
      generalize w.heap.size + 1 = gn at *
      go_wp2_with fail
      go_loopw [30] (fun i wr => ∃ k : Nat, k ≤ len ∧ i = .int .i64 k ∧ ∃ O, OrdK zs k O ∧ MemO w wr gn gc len (nextP zs k) O) (fun i _ => len - (intOf i).toNat)
      case atStart => exact ⟨0, by omega, rfl, _, HO.out, HM.out⟩
      case round =>
        clear HM HO
        obtain ⟨k, hk, rfl, O, hO, hM⟩ := hrel
        by_cases hlt : k < len
        · have hkl : (k : Int) < (len : Int) := by omega
          have HZ : Hid (k < zs.length) := by show _ < _; rw [← HL.out]; exact hlt
          obtain ⟨b, off, rfl, hbw, hc⟩ := (HR.out).cells (by rw [← HL.out]; omega)
          have ck : wr.cell? ⟨b, off + k, none⟩ = some (.int .i64 (zs.getD k 0)) := (hM.bel.cell (p := ⟨b, off + k, none⟩) hbw).trans (hc k HZ.out)
          have hrng := HA.out _ (getD_mem zs k HZ.out)
          clear hc
          by_cases hz : 0 < zs.getD k 0
          · obtain ⟨l, hlz⟩ : ∃ l : Nat, zs.getD k 0 = (l : Int) := ⟨(zs.getD k 0).toNat, by omega⟩
            have hnl := nextP_length zs k
            have hroom := plc_room zs k l HZ.out hlz (by omega)
            rw [← HL.out] at hroom
            have c1 := (Joins.cell_of_block hM.nxt l).trans (arr_get .i64 _ l (by omega))
            rw [nextP_getD _ _ _ (by omega)] at c1
            have f1 := Joins.unfrozen_of_block hM.nxt l
            have hol := hO.len
            have hcell : ∃ u, wr.cell? ⟨gc, plc zs l + cnt (zs.take k) l, none⟩ = some u := by
              rw [hM.row.cellAt _ (by omega)]
              exact ⟨_, List.getElem?_eq_getElem (by rw [List.length_map, hol, ← HL.out]; exact hroom)⟩
            obtain ⟨u, hu⟩ := hcell
            have f2 := hM.row.frozenAt (plc zs l + cnt (zs.take k) l)
            have h1 := hM.putRow hne hgw' (plc zs l + cnt (zs.take k) l) (k : Int)
            have h2 := h1.putNext hne hgn l (plc zs l + cnt (zs.take k) l + 1)
            rw [nextP_set zs k l HZ.out hlz (by omega) (by omega)] at h2
            have c1' := (Joins.cell_of_block h1.nxt l).trans (arr_get .i64 _ l (by omega))
            rw [nextP_getD _ _ _ (by omega)] at c1'
            have f1' := Joins.unfrozen_of_block h1.nxt l
            have HP := hid h2
            have HO := hid (hO.put HZ.out (by rw [← HL.out]; exact hlen) hlz (by omega))
            rw [hlz] at ck hz hrng
            clear h1 h2 hM hnl hlz HZ hO hol
            generalize plc zs l + cnt (zs.take k) l = f at *
            have HV2 : Hid ((f : Int) + 1 = ((f + 1 : Nat) : Int)) := by show _ = _; omega
            go_wp2
            rw [HV2.out]
            exact ⟨⟨k + 1, by omega, by go_num, _, HO.out, HP.out⟩, by simp [intOf]; omega⟩
          · have hz0 : zs.getD k 0 = 0 := by omega
            have HP : Hid (MemO w wr gn gc len (nextP zs (k + 1)) O) := by
              show MemO _ _ _ _ _ _ _
              rw [nextP_same zs k HZ.out (by omega)]; exact hM
            have HO := hid (hO.keep (k := k) (by omega))
            rw [hz0] at ck
            clear hM hz hz0 hrng HZ hO
            go_wp2
            exact ⟨⟨k + 1, by omega, by go_num, _, HO.out, HP.out⟩, by simp [intOf]; omega⟩
        · obtain rfl : k = len := by omega
          have hrow := hM.row
          have hbel := hM.bel
          have hol : O.length = k := hO.len.trans HL.out.symm
          have HOL := hid hol
          rw [← hol] at hrow
          have hri := Ri.own hrow (fun j => wf_mk_i64 (by have := (hO.low j).1; omega) (by have := (hO.low j).2; omega))
          rw [hol] at hri
          have HRI := hid hri
          have HO := hid hO
          have HB := hid hbel
          clear hM hrow hbel hol hri hO
          go_wp2
          go_ret
          obtain ⟨a', cap', h1, h2⟩ := HRI.out
          exact ⟨a', cap', O, by rw [← h1]; rfl, HOL.out, fun s hs hp => HO.out.at' s (by rw [HL.out]; exact hs) hp, h2, HB.out⟩
end Go.Proofs.Ytgecoiakhmnilaa
