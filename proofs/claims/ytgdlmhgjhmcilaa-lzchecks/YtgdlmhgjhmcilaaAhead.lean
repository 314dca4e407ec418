/-
  The iterator over all places ahead, and the contracts of lz's ahead and Longest.
-/
import Derived.Test.YtgdlmhgjhmcilaaLong
namespace Go.Proofs.Ytgdlmhgjhmcilaa
open Go.RowKit Go.Shelf Lz
attribute [local go_sem] Oper.semAt_some

/-- Places below q, as such. -/
def fins (q : Nat) (l : List Nat) (h : ∀ p ∈ l, p < q) : List (Fin q) := l.pmap (fun p hp => ⟨p, hp⟩) h
theorem fins_val {q : Nat} {l : List Nat} (h : ∀ p ∈ l, p < q) : (fins q l h).map Fin.val = l := by
  unfold fins; rw [List.map_pmap]; simp
theorem fins_len {q : Nat} {l : List Nat} (h : ∀ p ∈ l, p < q) : (fins q l h).length = l.length := by unfold fins; simp
theorem cons_of_map {q : Nat} {rest : List (Fin q)} {a : Nat} {l : List Nat} (h : rest.map Fin.val = a :: l) : ∃ (x : Fin q) (r : List (Fin q)), rest = x :: r ∧ x.val = a ∧ r.map Fin.val = l := by
  cases rest with
  | nil => cases h
  | cons x r =>
    simp only [List.map_cons, List.cons.injEq] at h
    exact ⟨x, r, rfl, h.1, h.2⟩
theorem nil_of_map {q : Nat} {rest : List (Fin q)} (h : rest.map Fin.val = []) : rest = [] := by
  cases rest with
  | nil => rfl
  | cons x r => cases h
theorem ahead_drop {q j : Nat} (h1 : j < q) (h2 : j < 4096) : (aheadL q).drop j = (q - 1 - j) :: (aheadL q).drop (j + 1) := by
  have hl : j < (aheadL q).length := by simp [aheadL]; omega
  rw [List.drop_eq_getElem_cons hl]
  congr 1
  simp [aheadL]
theorem ahead_out {q j : Nat} (h : q ≤ j ∨ 4096 ≤ j) : (aheadL q).drop j = [] := by
  apply List.drop_eq_nil_of_le
  simp [aheadL]; omega

set_option maxHeartbeats 1600000 in
set_option maxRecDepth 100000 in
theorem ahead_stops (q n₀ B : Nat) (w W0 : World) (hB : B < n₀) (hw : n₀ ≤ w.heap.size) (hq : q ≤ 65536) (hbox : w.cell? ⟨B, 0, none⟩ = some (.int .i64 (q : Int))) (hW0 : Below n₀ w W0) :
    wide9 34 #[.pointer (some ⟨B, 0, none⟩)] q n₀ (fins q (aheadL q) (fun _ hp => (mem_aheadL hp).1)) W0 := fun l J Jx W hW _ _ hY h0 => by
  have hsz0 := hW0.size
  have hbW : Below n₀ w W := hW0.trans (hW.mono (by omega))
  obtain ⟨xs, hxs⟩ : ∃ xs, xs = fins q (aheadL q) (fun _ hp => (mem_aheadL hp).1) := ⟨_, rfl⟩
  have hv : xs.map Fin.val = aheadL q := by rw [hxs]; exact fins_val _
  have hl : xs.length ≤ q := by rw [hxs, fins_len]; simp [aheadL]; omega
  rw [← hxs]
  have HV := hid hv
  have HY := hid hY
  have HL := hid hl
  have hc0 : W.cell? ⟨B, 0, none⟩ = some (.int .i64 (q : Int)) := (hbW.cell (p := ⟨B, 0, none⟩) hB).trans hbox
  have HBX := hid hbox
  have HBW := hid hbW
  clear hY hxs hv hl hbox hW hbW hW0
  refine callsIn_of_wp Try.func34 rfl trivial ?_ rfl
  simp only [Try.ntmps34, List.size_toArray, List.length_cons, List.length_nil, Nat.reduceAdd, Nat.reduceSub, Array.replicate_succ, Array.replicate_zero, List.push_toArray, List.append_toArray, List.nil_append, List.cons_append]
  gi_wp2
  clear hc0
  gi_loopw [3] (fun p wr => ∃ (pre rest : List (Fin q)) (j : Nat), j ≤ q ∧ p = .int .i64 ((q : Int) - 1 - (j : Int)) ∧ Hid (xs = pre ++ rest) ∧ Hid (rest.map Fin.val = (aheadL q).drop j) ∧ J pre wr ∧ Below n₀ w wr)
    (fun p _ => (intOf p + 1).toNat)
  case atStart => exact ⟨[], xs, 0, by omega, by go_num, rfl, HV.out, h0, HBW.out⟩
  case round =>
    obtain ⟨pre, rest, j, hj, rfl, HX, HR, hJs, hb⟩ := hrel
    have hc : wr.cell? ⟨B, 0, none⟩ = some (.int .i64 (q : Int)) := (hb.cell (p := ⟨B, 0, none⟩) hB).trans HBX.out
    by_cases hlt : j < q ∧ j < 4096
    · obtain ⟨hj1, hj2⟩ := hlt
      have HD := HR.out
      rw [ahead_drop hj1 hj2] at HD
      obtain ⟨x, r, rfl, hx, hr⟩ := cons_of_map HD
      obtain ⟨fn, tmps, assign, body, hy, hRd⟩ := HY.out pre x wr hJs (by have := HL.out; rw [HX.out] at this; simp at this; omega)
      rw [hx] at hy
      obtain ⟨i, hi⟩ : ∃ i, i = q - 1 - j := ⟨_, rfl⟩
      rw [← hi] at hy
      have hiz : (q : Int) - 1 - (j : Int) = (i : Int) := by omega
      have hiz0 : (0 : Int) ≤ (i : Int) := by omega
      have hiz2 : (q : Int) - (i : Int) ≤ 4096 := by omega
      have HI := hid hi
      clear hi HD
      rw [hiz]
      gi_wp2
      refine hRd.mono ?_
      rintro e W3 (⟨rfl, hJ3, hk3⟩ | ⟨rfl, hJx3⟩)
      · gi_wp2
        exact ⟨⟨pre ++ [x], r, j + 1, by omega, by rw [← hiz]; go_num, hid (by rw [HX.out]; simp), hid hr, hJ3, hb.trans hk3⟩, by simp [intOf]⟩
      · gi_wp2
        refine bodyPost_ret (results_none rfl _ _ _) rfl ?_
        exact ⟨⟨_, rfl⟩, .inr ⟨pre ++ [x], ⟨r, by rw [HX.out]; simp⟩, hJx3⟩⟩
    · have HD := HR.out
      rw [ahead_out (by omega)] at HD
      obtain rfl := nil_of_map HD
      by_cases hj1 : j < q
      · have hz1 : (0 : Int) ≤ (q : Int) - 1 - (j : Int) := by omega
        have hz2 : ¬ (q : Int) - ((q : Int) - 1 - (j : Int)) ≤ 4096 := by omega
        gi_wp2
        go_end0
        exact ⟨⟨_, rfl⟩, .inl (by rw [HX.out, List.append_nil]; exact hJs)⟩
      · have hz1 : ¬ (0 : Int) ≤ (q : Int) - 1 - (j : Int) := by omega
        gi_wp2
        go_end0
        exact ⟨⟨_, rfl⟩, .inl (by rw [HX.out, List.append_nil]; exact hJs)⟩

theorem ahead_word (q : Nat) (w : World) : Calls Try.prog 25 #[.int .i64 (q : Int)] w fun e w' => e = .returned (.func (.func 34) #[] #[.pointer (some ⟨w.heap.size, 0, none⟩)]) ∧ w' = w.alloc (.cells #[.int .i64 (q : Int)] 3) := by
  go_enter Try.func25, Try.ntmps25
  go_wp2
  go_ret
  exact ⟨rfl, rfl⟩

theorem results_row_tmp {P : Program} {fn : Func} {p u : Tmp} {ty : TypeId} (h : fn.results = #[.cell p ty, .tmp u]) (tmps : Array Value) (w : World) (g : Nat) (v : Value) (hp : tmps.getD p undef = .pointer (some ⟨g, 0, none⟩)) (hl : (loadVar ty ⟨g, 0, none⟩).run P w = .ok v w) :
    (results fn tmps).run P w = .ok (.tuple #[v, tmps.getD u undef]) w := by
  rw [results_cell_tmp h, hp]
  simp [asAddr, hl]

theorem Tb.load {W : World} {B : Nat} {t : Tok} (h : Tb W B t) : (loadVar 23 ⟨B, 0, none⟩).run Try.prog W = .ok (.agg (tokV t)) W :=
  run_loadVar_row W B 23 23 (tokV t) (0, 0) _ h Try.underlying23 rfl (by kernel_rfl)

/-- What Longest tells. -/
def lgO (bs : List Int) (z : Int) : Tok × Int := if 65536 < bs.length then ((0, 0, 0), 2) else if z < 0 ∨ (bs.length : Int) ≤ z then ((0, 0, 0), 5) else (longT bs z.toNat, 0)

set_option maxHeartbeats 1600000 in
set_option maxRecDepth 100000 in
theorem longest_code (a : Option Addr) (cap : Nat) (bs : List Int) (z : Int) (w : World) (hr : Ri w .u8 a cap bs) :
    Calls Try.prog 16 #[.slice a bs.length cap, .int .i64 z] w fun e w' => e = .returned (.tuple #[.agg (tokV (lgO bs z).1), .int .i64 (lgO bs z).2]) ∧ Below w.heap.size w w' := by
  have hroom := hr.room
  have hmost := hr.most
  have HM := hid hmost
  unfold maxLen at hmost
  have HR := hid hr
  have hA : Tb (w.alloc (.cells #[.int .i64 0, .int .i64 0, .int .u8 0] 23)) w.heap.size (0, 0, 0) := heap_new w _
  have HT0 := hid (hA.set (0, 0, 0))
  have HA := hid hA
  clear hr hA
  by_cases hlong : 65536 < bs.length
  · have HO : Hid (lgO bs z = ((0, 0, 0), 2)) := by show _ = _; unfold lgO; rw [if_pos hlong]
    have hz0 : (65536 : Int) < (bs.length : Int) := by omega
    generalize bs.length = L at *
    go_enter Try.func16, Try.ntmps16
    go_wp2
    refine bodyPost_ret (results_row_tmp (ty := 23) rfl _ _ w.heap.size _ rfl HA.out.load) rfl ?_
    exact ⟨by rw [HO.out]; rfl, bel_alloc _ _⟩
  · by_cases hneg : z < 0
    · have HO : Hid (lgO bs z = ((0, 0, 0), 5)) := by show _ = _; unfold lgO; rw [if_neg hlong, if_pos (.inl hneg)]
      have hz0 : ¬ (65536 : Int) < (bs.length : Int) := by omega
      generalize bs.length = L at *
      go_enter Try.func16, Try.ntmps16
      go_wp2
      refine bodyPost_ret (results_row_tmp (ty := 23) rfl _ _ w.heap.size _ rfl HA.out.load) rfl ?_
      exact ⟨by rw [HO.out]; rfl, bel_alloc _ _⟩
    · by_cases hout : (bs.length : Int) ≤ z
      · have HO : Hid (lgO bs z = ((0, 0, 0), 5)) := by show _ = _; unfold lgO; rw [if_neg hlong, if_pos (.inr hout)]
        have hz0 : ¬ (65536 : Int) < (bs.length : Int) := by omega
        generalize bs.length = L at *
        go_enter Try.func16, Try.ntmps16
        go_wp2
        refine bodyPost_ret (results_row_tmp (ty := 23) rfl _ _ w.heap.size _ rfl HA.out.load) rfl ?_
        exact ⟨by rw [HO.out]; rfl, bel_alloc _ _⟩
      · have HO : Hid (lgO bs z = (longT bs z.toNat, 0)) := by show _ = _; unfold lgO; rw [if_neg hlong, if_neg (by omega)]
        have hz0 : ¬ (65536 : Int) < (bs.length : Int) := by omega
        obtain ⟨q, rfl⟩ : ∃ q : Nat, z = (q : Int) := ⟨z.toNat, by omega⟩
        simp only [Int.toNat_natCast] at HO
        obtain ⟨g, off, rfl, hgw, hc⟩ := HR.out.cells (by omega)
        have hbA := bel_alloc w (.cells #[.int .i64 0, .int .i64 0, .int .u8 0] 23)
        have hbB := bel_alloc (w.alloc (.cells #[.int .i64 0, .int .i64 0, .int .u8 0] 23)) (.cells #[.int .i64 (q : Int)] 3)
        have HLG := hid (longest_word bs q g off cap ((w.alloc (.cells #[.int .i64 0, .int .i64 0, .int .u8 0] 23)).alloc (.cells #[.int .i64 (q : Int)] 3)) (by omega) hroom HM.out (by omega) (by simp; omega)
          (fun j hj => ((Bn hbA hbB).cell (p := ⟨g, off + j, none⟩) hgw).trans (hc j hj)) 34 #[.pointer (some ⟨w.heap.size + 1, 0, none⟩)] (fins q (aheadL q) (fun _ hp => (mem_aheadL hp).1)) (enters_of Try.func34 (by kernel_rfl) rfl)
          (fun W hW => ahead_stops q _ (w.heap.size + 1) _ W (by simp) (Nat.le_refl _) (by omega) (by
            have := heap_new (w.alloc (.cells #[.int .i64 0, .int .i64 0, .int .u8 0] 23)) (.cells #[.int .i64 (q : Int)] 3)
            rw [World.size_alloc] at this
            exact Joins.cell_of_block this 0) hW))
        rw [fins_val] at HLG
        have HLG2 : Hid (Calls Try.prog 24 #[.slice (some ⟨g, off, none⟩) bs.length cap, .int .i64 (q : Int), .func (.func 34) #[] #[.pointer (some ⟨w.heap.size + 1, 0, none⟩)]] ((w.alloc (.cells #[.int .i64 0, .int .i64 0, .int .u8 0] 23)).alloc (.cells #[.int .i64 (q : Int)] 3)) fun e w' => e = .returned (.agg (tokV (longT bs q))) ∧ Below (w.heap.size + 1 + 1) ((w.alloc (.cells #[.int .i64 0, .int .i64 0, .int .u8 0] 23)).alloc (.cells #[.int .i64 (q : Int)] 3)) w') := by
          have h := HLG.out
          simp only [World.size_alloc] at h
          exact h
        have HAW := hid (ahead_word q (w.alloc (.cells #[.int .i64 0, .int .i64 0, .int .u8 0] 23)))
        rw [World.size_alloc] at HAW
        have hqL : (q : Int) < (bs.length : Int) := by omega
        have HBA := hid (Bn hbA hbB)
        clear hc HLG hbA hbB
        generalize bs.length = L at *
        go_enter Try.func16, Try.ntmps16
        go_wp2_with fail
        refine HAW.out.mono ?_
        rintro _ w2 ⟨rfl, rfl⟩
        go_wp2_with fail
        refine HLG2.out.mono ?_
        rintro _ w2 ⟨rfl, hb2⟩
        have HT : Tb w2 w.heap.size (0, 0, 0) := (hb2.block w.heap.size (by omega)).trans (heap_old _ _ HA.out)
        have f0 := HT.f 0
        have f1 := HT.f 1
        have f2 := HT.f 2
        have k0 := HT.c0
        have k1 := HT.c1
        have k2 := HT.c2
        generalize longT bs q = t at *
        obtain ⟨x0, x1, x2⟩ := t
        have HX := hid (HT.set (x0, x1, x2))
        have HXB := hid (HT.bel (HBA.out.trans (hb2.mono (by omega))) (Nat.le_refl _) (x0, x1, x2))
        clear HT hb2
        simp only [tokV]
        go_wp2
        refine bodyPost_ret (results_row_tmp (ty := 23) rfl _ _ w.heap.size _ rfl HX.out.load) rfl ?_
        exact ⟨by rw [HO.out]; rfl, HXB.out⟩

set_option maxHeartbeats 1600000 in
set_option maxRecDepth 100000 in
theorem longest_doc (a : Option Addr) (cap : Nat) (bs : List Int) (z : Int) (w : World) (hr : Ri w .u8 a cap bs) :
    Calls Try.prog 17 #[.slice a bs.length cap, .int .i64 z] w fun e w' => e = .returned (.tuple #[.agg (tokV (lgO bs z).1), .int .i64 (lgO bs z).2]) ∧ Below w.heap.size w w' := by
  have hroom := hr.room
  have hmost := hr.most
  have HM := hid hmost
  unfold maxLen at hmost
  have HR := hid hr
  have hA : Tb (w.alloc (.cells #[.int .i64 0, .int .i64 0, .int .u8 0] 23)) w.heap.size (0, 0, 0) := heap_new w _
  have HT0 := hid (hA.set (0, 0, 0))
  have HA := hid hA
  clear hr hA
  by_cases hlong : 65536 < bs.length
  · have HO : Hid (lgO bs z = ((0, 0, 0), 2)) := by show _ = _; unfold lgO; rw [if_pos hlong]
    have hz0 : (65536 : Int) < (bs.length : Int) := by omega
    generalize bs.length = L at *
    go_enter Try.func17, Try.ntmps17
    go_wp2
    refine bodyPost_ret (results_row_tmp (ty := 23) rfl _ _ w.heap.size _ rfl HA.out.load) rfl ?_
    exact ⟨by rw [HO.out]; rfl, bel_alloc _ _⟩
  · by_cases hneg : z < 0
    · have HO : Hid (lgO bs z = ((0, 0, 0), 5)) := by show _ = _; unfold lgO; rw [if_neg hlong, if_pos (.inl hneg)]
      have hz0 : ¬ (65536 : Int) < (bs.length : Int) := by omega
      generalize bs.length = L at *
      go_enter Try.func17, Try.ntmps17
      go_wp2
      refine bodyPost_ret (results_row_tmp (ty := 23) rfl _ _ w.heap.size _ rfl HA.out.load) rfl ?_
      exact ⟨by rw [HO.out]; rfl, bel_alloc _ _⟩
    · by_cases hout : (bs.length : Int) ≤ z
      · have HO : Hid (lgO bs z = ((0, 0, 0), 5)) := by show _ = _; unfold lgO; rw [if_neg hlong, if_pos (.inr hout)]
        have hz0 : ¬ (65536 : Int) < (bs.length : Int) := by omega
        generalize bs.length = L at *
        go_enter Try.func17, Try.ntmps17
        go_wp2
        refine bodyPost_ret (results_row_tmp (ty := 23) rfl _ _ w.heap.size _ rfl HA.out.load) rfl ?_
        exact ⟨by rw [HO.out]; rfl, bel_alloc _ _⟩
      · have HO : Hid (lgO bs z = (longT bs z.toNat, 0)) := by show _ = _; unfold lgO; rw [if_neg hlong, if_neg (by omega)]
        have hz0 : ¬ (65536 : Int) < (bs.length : Int) := by omega
        obtain ⟨q, rfl⟩ : ∃ q : Nat, z = (q : Int) := ⟨z.toNat, by omega⟩
        simp only [Int.toNat_natCast] at HO
        obtain ⟨g, off, rfl, hgw, hc⟩ := HR.out.cells (by omega)
        have hbA := bel_alloc w (.cells #[.int .i64 0, .int .i64 0, .int .u8 0] 23)
        have HLG := hid (longest_ref bs q g off cap (w.alloc (.cells #[.int .i64 0, .int .i64 0, .int .u8 0] 23)) (by omega) (by omega) (by simp; omega) (fun j hj => (hbA.cell (p := ⟨g, off + j, none⟩) hgw).trans (hc j hj)))
        have hqL : (q : Int) < (bs.length : Int) := by omega
        have HBA := hid hbA
        clear hc hbA
        generalize bs.length = L at *
        go_enter Try.func17, Try.ntmps17
        go_wp2_with fail
        refine HLG.out.mono ?_
        rintro _ w2 ⟨rfl, hb2⟩
        have HT : Tb w2 w.heap.size (0, 0, 0) := (hb2.block w.heap.size (by simp only [World.size_alloc]; omega)).trans HA.out
        have f0 := HT.f 0
        have f1 := HT.f 1
        have f2 := HT.f 2
        have k0 := HT.c0
        have k1 := HT.c1
        have k2 := HT.c2
        generalize longT bs q = t at *
        obtain ⟨x0, x1, x2⟩ := t
        have HX := hid (HT.set (x0, x1, x2))
        have HXB := hid (HT.bel (HBA.out.trans (hb2.mono (by simp only [World.size_alloc]; omega))) (Nat.le_refl _) (x0, x1, x2))
        clear HT hb2
        simp only [tokV]
        go_wp2
        refine bodyPost_ret (results_row_tmp (ty := 23) rfl _ _ w.heap.size _ rfl HX.out.load) rfl ?_
        exact ⟨by rw [HO.out]; rfl, HXB.out⟩
end Go.Proofs.Ytgdlmhgjhmcilaa
