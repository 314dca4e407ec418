/-
  The contract of huff.Codes.
-/
import Derived.Test.YtgecoiakhmnilaaTally
namespace Go.Proofs.Ytgecoiakhmnilaa
open Go.RowKit Hf

theorem Try.info39 : (Try.prog.info? 39).map (fun i => (i.zero, i.size, i.bytes)) = some (some (.int .u16 0), 1, 2) := by kernel_rfl

/-- A row of n places of which the first k are filled. -/
def partL (n k : Nat) (l : List Int) : List Int := l.take k ++ List.replicate (n - k) 0
theorem partL_length (n k : Nat) (l : List Int) (hl : l.length = n) (hk : k ≤ n) : (partL n k l).length = n := by
  simp [partL]; omega
theorem partL_zero (n : Nat) (l : List Int) : partL n 0 l = List.replicate n 0 := by simp [partL]
theorem partL_full (n : Nat) (l : List Int) (hl : l.length = n) : partL n n l = l := by
  simp [partL, ← hl]
theorem partL_put (n k : Nat) (l : List Int) (hl : l.length = n) (hk : k < n) : (partL n k l).set k (l.getD k 0) = partL n (k + 1) l := by
  unfold partL
  rw [List.set_append_right _ _ (by simp; omega), show k - (l.take k).length = 0 from by simp; omega, show n - k = (n - (k + 1)) + 1 from by omega, List.replicate_succ, List.set_cons_zero]
  have e : l.getD k 0 = l[k]'(by omega) := by simp [List.getD, List.getElem?_eq_getElem (show k < l.length from by omega)]
  rw [e, List.take_succ_eq_append_getElem (show k < l.length from by omega), List.append_assoc]
  rfl
theorem partL_set (n k : Nat) (l : List Int) (hl : l.length = n) (hk : k < n) (kd : IntKind) :
    ((partL n k l).map (Value.int kd)).set k (.int kd (l.getD k 0)) = (partL n (k + 1) l).map (Value.int kd) := by
  rw [← List.map_set, partL_put n k l hl hk]
theorem partL_keep (n k : Nat) (l : List Int) (hl : l.length = n) (hk : k < n) (h0 : l.getD k 0 = 0) : partL n (k + 1) l = partL n k l := by
  unfold partL
  have e : l.getD k 0 = l[k]'(by omega) := by simp [List.getD, List.getElem?_eq_getElem (show k < l.length from by omega)]
  rw [List.take_succ_eq_append_getElem (show k < l.length from by omega), ← e, h0, List.append_assoc, show n - k = (n - (k + 1)) + 1 from by omega, List.replicate_succ]
  rfl

/-- What the walk of Codes keeps: the next codes, and the row of codes. -/
structure MemC (w wr : World) (gn gc n : Nat) (nx : List Nat) (cs : List Int) : Prop where
  nxt : wr.heap[gn]? = some (.cells (arr .i64 nx) 59 (0, 0))
  row : wr.ownsRow w.heap.size 39 1 (.slice (some ⟨gc, 0, none⟩) n n) n (cs.map (Value.int .u16))
  bel : Below w.heap.size w wr
theorem MemC.putRow {w wr : World} {gn gc n : Nat} {nx : List Nat} {cs : List Int} (h : MemC w wr gn gc n nx cs) (hne : gn ≠ gc) (hgc : w.heap.size ≤ gc) (j : Nat) (x : Int) : MemC w (wr.setCell ⟨gc, j, none⟩ (.int .u16 x)) gn gc n nx (cs.set j x) := by
  have hst := h.row.stored j (.int .u16 x)
  refine ⟨?_, ?_, h.bel.setCell hgc _⟩
  · obtain ⟨_, _, _, _, _, hh, _⟩ : ∃ g cap cur, Value.slice (some ⟨gc, 0, none⟩) n n = .slice (some ⟨g, 0, none⟩) n cap ∧ w.heap.size ≤ g ∧ wr.heap[g]? = some (.cells cur 39 (0, 0)) ∧ True := by
      rcases h.row.2 with ⟨hv, _⟩ | ⟨g, cap, cur, hv, hb, hg, _⟩
      · cases hv
      · exact ⟨g, cap, cur, hv, hb, hg, trivial⟩
    rename_i g cap cur hv _ _
    injection hv with hv
    injection hv with hv
    injection hv with hv _
    subst hv
    rw [heap_put_other hh hne]; exact h.nxt
  · rw [List.map_set]; exact hst.1
theorem MemC.putNext {w wr : World} {gn gc n : Nat} {nx : List Nat} {cs : List Int} (h : MemC w wr gn gc n nx cs) (hne : gn ≠ gc) (hgn : w.heap.size ≤ gn) (j v : Nat) : MemC w (wr.setCell ⟨gn, j, none⟩ (.int .i64 (v : Int))) gn gc n (nx.set j v) cs := by
  refine ⟨?_, ?_, h.bel.setCell hgn _⟩
  · rw [Joins.block_setCell h.nxt, arr_set]
  · exact ownsRow_setCell_other h.row (by simp [Value.ownBlock]; omega) _

theorem codes_no (a : Option Addr) (cap : Nat) (zs : List Int) (w : World) (hr : Ri w .i64 a cap zs) (hc : checkB zs = false) :
    Calls Try.prog 14 #[.slice a zs.length cap] w fun e w' => e = .returned (.tuple #[.slice none 0 0, .int .i64 51]) ∧ Below w.heap.size w w' := by
  have HT := hid (tallied_word a cap zs w hr)
  have e2 : checkF zs = 51 := by unfold checkF; rw [hc]; rfl
  rw [e2] at HT
  have htl := talV_length zs
  have hsz : (arr .i64 (talV zs)).size = 16 := by rw [arr_size, htl]
  clear hr e2 hc
  generalize talV zs = tz at *
  generalize zs.length = len at *
  go_enter Try.func14, Try.ntmps14
  go_wp2_with fail
  refine HT.out.mono ?_
  rintro _ w1 ⟨rfl, hb1⟩
  have e1 := heap_new w1 (.cells (arr .i64 z16) 59)
  have hb2 := Bn hb1 (bel_alloc w1 (.cells (arr .i64 z16) 59))
  go_wp2_with (first
    | (refine wpList_alloc_at rfl 59 rfl (some 4) rfl (arr .i64 z16) Try.zero59 w1.heap.size rfl ?_)
    | (refine wpList_store_rowTo rfl 59 _ _ rfl rfl w1.heap.size (arr .i64 tz) rfl rfl 59 _ e1 (by rw [hsz]; exact Try.size59) (by rw [hsz]; rfl) (arr_one _ _) ?_))
  go_ret2
  exact ⟨rfl, below_setRow hb2 hb1.size _⟩

set_option maxHeartbeats 1600000 in
set_option maxRecDepth 100000 in
theorem codes_word (a : Option Addr) (cap : Nat) (zs : List Int) (w : World) (hr : Ri w .i64 a cap zs) (hc : checkB zs = true) :
    Calls Try.prog 14 #[.slice a zs.length cap] w fun e w' => ∃ v, e = .returned (.tuple #[v, .int .i64 0]) ∧ w'.ownsRow w.heap.size 39 1 v (codesL zs).length ((codesL zs).map (Value.int .u16)) ∧ Below w.heap.size w w' := by
  obtain ⟨i0, hi, hz0, hz1, hz2⟩ := info_parts Try.info39
  have HT := hid (tallied_word a cap zs w hr)
  have e2 : checkF zs = 0 := by unfold checkF; rw [hc]; rfl
  have e3 : talV zs = tal zs := by unfold talV; rw [hc]; rfl
  rw [e2, e3] at HT
  have hok : lenOk zs = true := by unfold checkB at hc; rw [Bool.and_eq_true] at hc; exact hc.1
  have hlen := (lenOk_all hok).1
  have HA := hid (lenOk_all hok).2
  have HF : Hid (∀ w : World, Calls Try.prog 35 #[.agg (arr .i64 (tal zs))] w fun e w' => e = .returned (.agg (arr .i64 (fillF zs 16))) ∧ Below w.heap.size w w') := fun w => firsts_word zs w (by omega)
  have hsz : Hid ((arr .i64 (tal zs)).size = 16) := by show _ = _; rw [arr_size, tal_length]
  have hszf : Hid ((arr .i64 (fillF zs 16)).size = 16) := by show _ = _; rw [arr_size, fillF_length]
  have HR := hid hr
  obtain ⟨len, hl⟩ : ∃ n, n = zs.length := ⟨_, rfl⟩
  have HL := hid hl
  have hcl := codesL_length zs
  rw [← hl] at hlen hcl HT ⊢
  have HCL := hid hcl
  clear hr e2 e3 hok hc hl hcl
  generalize hTZ : tal zs = tz at *
  clear hTZ
  go_enter Try.func14, Try.ntmps14
  go_wp2_with fail
  refine HT.out.mono ?_
  rintro _ w1 ⟨rfl, hb1⟩
  have e1 := heap_new w1 (.cells (arr .i64 z16) 59)
  have hb2 := below_setRow (Bn hb1 (bel_alloc w1 (.cells (arr .i64 z16) 59))) hb1.size (arr .i64 tz)
  have e2 := setRow_heap _ _ _ (arr .i64 tz) _ _ e1
  have HB2 := hid hb2
  go_wp2_with (first
    | (refine wpList_alloc_at rfl 59 rfl (some 4) rfl (arr .i64 z16) Try.zero59 w1.heap.size rfl ?_)
    | (refine wpList_store_rowTo rfl 59 _ _ rfl rfl w1.heap.size (arr .i64 tz) rfl rfl 59 _ e1 (by rw [hsz.out]; exact Try.size59) (by rw [hsz.out]; rfl) (arr_one _ _) ?_)
    | (refine wpList_load_row rfl 59 _ rfl w1.heap.size rfl 59 (arr .i64 tz) (0, 0) _ e2 Try.underlying59 rfl (by rw [hsz.out]; exact Try.size59) ?_)
    | fail)
  generalize (w1.alloc (.cells (arr .i64 z16) 59)).setRow w1.heap.size (arr .i64 tz) = w2 at *
  refine (HF.out _).mono ?_
  rintro _ w3 ⟨rfl, hb3⟩
  have hB3 := Bn HB2.out hb3
  have e4 := heap_new w3 (.cells (arr .i64 z16) 59)
  have hb4 := below_setRow (Bn hB3 (bel_alloc w3 (.cells (arr .i64 z16) 59))) hB3.size (arr .i64 (fillF zs 16))
  have e5 := setRow_heap _ _ _ (arr .i64 (fillF zs 16)) _ _ e4
  have hg3 := hB3.size
  have HB4 := hid hb4
  clear e2 e1 hb1 hb2 hb3 hb4 HT HF HB2 hB3
  go_wp2_with (first
    | (refine wpList_alloc_at rfl 59 rfl (some 6) rfl (arr .i64 z16) Try.zero59 w3.heap.size rfl ?_)
    | (refine wpList_store_rowTo rfl 59 _ _ rfl rfl w3.heap.size (arr .i64 (fillF zs 16)) rfl rfl 59 _ e4 (by rw [hszf.out]; exact Try.size59) (by rw [hszf.out]; rfl) (arr_one _ _) ?_)
    | (at_make; refine wpList_make_full _ rfl _ _ 32 rfl w.heap.size 39 i0 (.int .u16 0) 1 Try.underlying32 hi hz0 hz1 .i64 .i64 _ _ len rfl rfl (by first | rfl | omega) (by first | rfl | omega) ?b2 ?b3 ?b4 ?_))
  case b2 => rw [hz2]; omega
  case b3 => unfold maxLen; omega
  case b4 => exact HB4.out.size
  intro w5 hown0 hgrow
  have hsz4 : ((w3.alloc (.cells (arr .i64 z16) 59)).setRow w3.heap.size (arr .i64 (fillF zs 16))).heap.size = w3.heap.size + 1 := by simp [World.setRow]
  obtain ⟨gc, hgc⟩ : ∃ g, g = w3.heap.size + 1 := ⟨_, rfl⟩
  have hown1 : w5.ownsRow w.heap.size 39 1 (.slice (some ⟨gc, 0, none⟩) len len) len ((partL len 0 (codesL zs)).map (Value.int .u16)) := by
    rw [hgc, partL_zero]
    rw [toList_madeCells_one] at hown0
    simpa using hown0
  have hB5 : Below w.heap.size w w5 := HB4.out.grown hgrow HB4.out.size (fun k hk => by cases hk)
  have hn5 : w5.heap[w3.heap.size]? = some (.cells (arr .i64 (fillF zs 16)) 59 (0, 0)) := by
    have hb := (Below.refl ((w3.alloc (.cells (arr .i64 z16) 59)).setRow w3.heap.size (arr .i64 (fillF zs 16))).heap.size _).grown hgrow (Nat.le_refl _) (fun k hk => by cases hk)
    rw [hb.block _ (by rw [hsz4]; omega)]; exact e5
  have HM : Hid (MemC w w5 w3.heap.size gc len (nextL zs 0) (partL len 0 (codesL zs))) := ⟨by rw [nextL_zero]; exact hn5, hown1, hB5⟩
  have hne : w3.heap.size ≠ gc := by omega
  have hgw : w.heap.size ≤ gc := by omega
  rw [← hgc]
  clear e4 e5 HB4 hown0 hgrow hsz4 hown1 hB5 hn5 hgc
  generalize w3.heap.size = gn at *
  go_wp2_with fail
  go_loopw [25] (fun i wr => ∃ k : Nat, k ≤ len ∧ i = .int .i64 k ∧ MemC w wr gn gc len (nextL zs k) (partL len k (codesL zs))) (fun i _ => len - (intOf i).toNat)
  case atStart => exact ⟨0, by omega, rfl, HM.out⟩
  case round =>
    clear HM
    obtain ⟨k, hk, rfl, hM⟩ := hrel
    by_cases hlt : k < len
    · have hkl : (k : Int) < (len : Int) := by omega
      have HZ : Hid (k < zs.length) := by show _ < _; rw [← HL.out]; exact hlt
      obtain ⟨b, off, rfl, hbw, hc⟩ := (HR.out).cells (by rw [← HL.out]; omega)
      have ck : wr.cell? ⟨b, off + k, none⟩ = some (.int .i64 (zs.getD k 0)) := (hM.bel.cell (p := ⟨b, off + k, none⟩) hbw).trans (hc k HZ.out)
      have hrng := HA.out _ (getD_mem zs k HZ.out)
      have hcd := codesL_getD zs k HZ.out
      clear hc
      by_cases hz : 0 < zs.getD k 0
      · obtain ⟨l, hlz⟩ : ∃ l : Nat, zs.getD k 0 = (l : Int) := ⟨(zs.getD k 0).toNat, by omega⟩
        have hnl := nextL_length zs k
        have c1 := (Joins.cell_of_block hM.nxt l).trans (arr_get .i64 _ l (by omega))
        rw [nextL_getD _ _ _ (by omega)] at c1
        have f1 := Joins.unfrozen_of_block hM.nxt l
        have hcell : ∃ u, wr.cell? ⟨gc, k, none⟩ = some u := by
          rw [hM.row.cellAt k (by omega)]
          exact ⟨_, List.getElem?_eq_getElem (by rw [List.length_map, partL_length len k _ HCL.out hk]; exact hlt)⟩
        obtain ⟨u, hu⟩ := hcell
        have f2 := hM.row.frozenAt k
        have hfs := first_small zs l (by omega) (by rw [← HL.out]; omega)
        have hcn := cnt_le (zs.take k) l
        have hcl2 : (zs.take k).length ≤ 512 := by rw [List.length_take]; omega
        have hcv : (codesL zs).getD k 0 = (((first zs l + cnt (zs.take k) l) % 65536 : Nat) : Int) := by
          rw [hcd]; unfold codeF codeN; rw [if_pos hz, hlz]; rfl
        have h1 := hM.putRow hne hgw k ((codesL zs).getD k 0)
        have e1 : (partL len k (codesL zs)).set k ((codesL zs).getD k 0) = partL len (k + 1) (codesL zs) := by
          exact partL_put len k (codesL zs) HCL.out hlt
        rw [e1] at h1
        have h2 := h1.putNext hne hg3 l (first zs l + cnt (zs.take k) l + 1)
        rw [nextL_set zs k l HZ.out hlz (by omega) (by omega), hcv] at h2
        have c1' := (Joins.cell_of_block h1.nxt l).trans (arr_get .i64 _ l (by omega))
        rw [nextL_getD _ _ _ (by omega), hcv] at c1'
        have f1' := Joins.unfrozen_of_block h1.nxt l
        rw [hcv] at f1'
        have HP := hid h2
        rw [hlz] at ck hz hrng
        clear h1 h2 e1 hM hnl hcd hcv hlz HZ
        generalize first zs l = f at *
        generalize cnt (zs.take k) l = c at *
        have HV : Hid (IntKind.u16.wrap ((f : Int) + (c : Int)) = (((f + c) % 65536 : Nat) : Int)) := by show _ = _; rw [IntKind.wrap_u16]; omega
        have HV2 : Hid ((f : Int) + (c : Int) + 1 = ((f + c + 1 : Nat) : Int)) := by show _ = _; omega
        go_wp2
        rw [HV.out, HV2.out]
        exact ⟨⟨k + 1, by omega, by go_num, HP.out⟩, by simp [intOf]; omega⟩
      · have hz0 : zs.getD k 0 = 0 := by omega
        have hc0 : (codesL zs).getD k 0 = 0 := by rw [hcd]; unfold codeF; rw [if_neg hz]
        have HP : Hid (MemC w wr gn gc len (nextL zs (k + 1)) (partL len (k + 1) (codesL zs))) := by
          show MemC _ _ _ _ _ _ _
          rw [nextL_same zs k HZ.out (by omega), partL_keep _ _ _ HCL.out hlt hc0]; exact hM
        rw [hz0] at ck
        clear hM hcd hc0 hz hz0 hrng HZ
        go_wp2
        exact ⟨⟨k + 1, by omega, by go_num, HP.out⟩, by simp [intOf]; omega⟩
    · obtain rfl : k = len := by omega
      rw [partL_full _ _ HCL.out] at hM
      have hrow := hM.row
      have hbel := hM.bel
      clear hM
      go_wp2
      go_ret2
      exact ⟨_, rfl, by rw [HCL.out]; exact hrow, hbel⟩
end Go.Proofs.Ytgecoiakhmnilaa
