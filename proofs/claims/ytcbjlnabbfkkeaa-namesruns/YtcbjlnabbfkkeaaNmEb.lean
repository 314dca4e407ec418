/-
  Stat and Seek of both sides say the same. The document's Seek (33). The document's List (35).
-/
import Derived.Test.YtcbjlnabbfkkeaaNmDd
namespace Go.Proofs.Ytcbjlnabbfkkeaa
open Go.ChangeShapes Go.WideShapes Go.ChangeAt Go.RowKit Go.Deep Go.Lib

theorem Rel.list {M : List Fl} {L : List Fi} (h : Rel M L) (p : ByteArray) : LstP M p (L.filter fun i => preB i.path p) := by
  refine ⟨fun i hi => ?_, fun s f hf hp => ?_, h.lst.rise.sublist List.filter_sublist⟩
  · rw [List.mem_filter] at hi
    obtain ⟨f, h1, h2, _⟩ := h.lst.sound i hi.1
    exact ⟨f, h1, h2, hi.2⟩
  · obtain ⟨i, hi, e⟩ := h.lst.all s f hf (pre_empty _)
    exact ⟨i, List.mem_filter.2 ⟨hi, by rw [e]; exact hp⟩, e⟩
theorem ext_take (s : ByteArray) (n : Nat) : (s.extract 0 n).toList = s.data.toList.take n := by
  rw [Lib.toList_data]
  simp [ByteArray.data_extract]
theorem pre_yes {s p : ByteArray} (h1 : p.size ≤ s.size) (h2 : (s.extract 0 p.size).toList = p.toList) : preB s p = true := by
  rw [ext_take, Lib.toList_data] at h2
  unfold preB
  rw [← Lib.hasPrefix_of_take]
  have e1 : p.data.toList.length = p.size := Array.length_toList
  have e2 : s.data.toList.length = s.size := Array.length_toList
  rw [e1, e2, decide_eq_true h1, h2]
  simp
theorem pre_no {s p : ByteArray} (h2 : ¬ (s.extract 0 p.size).toList = p.toList) : preB s p = false := by
  rw [ext_take, Lib.toList_data] at h2
  unfold preB
  rw [← Lib.hasPrefix_of_take]
  have e1 : p.data.toList.length = p.size := Array.length_toList
  rw [e1, beq_eq_false_iff_ne.2 h2, Bool.and_false]
theorem pre_short {s p : ByteArray} (h1 : ¬ p.size ≤ s.size) : preB s p = false := by
  unfold preB
  rw [← Lib.hasPrefix_of_take]
  have e1 : p.data.toList.length = p.size := Array.length_toList
  have e2 : s.data.toList.length = s.size := Array.length_toList
  rw [e1, e2, decide_eq_false h1]
  rfl
set_option maxHeartbeats 6400000 in
set_option maxRecDepth 100000 in
theorem dlist_word (W : World) (d : Nat) (a : Option Addr) (cap : Nat) (L : List Fi) (p : ByteArray) (h : Dn W d a cap L) (hL : L.length ≤ 1024) :
    Calls Try.prog 35 #[.pointer (some ⟨d, 0, none⟩), .string p] W fun e w' => ∃ a' cap', e = .returned (.slice a' (L.filter fun i => preB i.path p).length cap') ∧ Fs w' a' cap' (L.filter fun i => preB i.path p) ∧ Below W.heap.size W w' := by
  have HD := hid h
  obtain ⟨i1, hi1, hy0, hy1, hy2⟩ := info_parts Try.info51
  obtain ⟨R0, hR0⟩ : ∃ R0, R0 = L.filter fun i => preB i.path p := ⟨_, rfl⟩
  have HR0 := hid hR0
  rw [← hR0]
  obtain ⟨n, hn⟩ : ∃ n, n = L.length := ⟨_, rfl⟩
  have HN := hid hn
  have hn1 : n ≤ 1024 := by rw [hn]; exact hL
  have hblk := h.blk
  rw [← hn] at hblk
  have HCD := hid (fun X (hX : Below W.heap.size W X) => (Joins.cell_of_block (blk_later hblk hX) 0).trans (show _ = some (Value.slice a n cap) from rfl))
  have hnc : n ≤ cap := by rw [hn]; exact h.fs.row.room
  clear h hL hR0 hn hblk
  go_enter Try.func35, Try.ntmps35
  go_wp2
  go_loopw [5, 6] (fun x5 x6 wr => ∃ (k : Nat) (acc : List Fi), k ≤ n ∧ acc.length ≤ k ∧ x6 = .int .i64 (k : Int) ∧ Hid (wr.ownsRow W.heap.size 51 4 x5 acc.length (acc.flatMap Fi.cs)) ∧ Hid (acc ++ (L.drop k).filter (fun i => preB i.path p) = R0) ∧ Hid (∀ i ∈ acc, i ∈ L) ∧ Hid (Below W.heap.size W wr)) (fun _ x6 _ => n - (intOf x6).toNat)
  case atStart => exact ⟨0, [], by omega, by simp, rfl, World.ownsRow_nil _ _ _ _, HR0.out.symm, (fun i hi => by cases hi), Below.refl _ _⟩
  case round =>
    obtain ⟨k, acc, hk, hac, rfl, HO, HA, HM, HB⟩ := hrel
    have cd := HCD.out _ HB.out
    by_cases hkn : k < n
    · have hkz : (k : Int) < (n : Int) := by omega
      obtain ⟨x, hx⟩ : ∃ x, x = L.getD k fiZ := ⟨_, rfl⟩
      obtain ⟨b, o, ha, _, hcx, _, _, _⟩ := fi_cells HD.out.fs (i := k) (by rw [← HN.out]; exact hkn) hx
      subst ha
      have cx := hcx _ HB.out
      have HXR : Hid (wr.rangeAt b (o + k * 4) x.cs) := by
        obtain ⟨b2, o2, e, hb2, hc2⟩ := HD.out.fs.row.cells (by rw [← HN.out]; omega)
        injection e with e
        injection e with e1 e2
        subst e1
        subst e2
        have h1 := hc2 k (by rw [← HN.out]; exact hkn)
        rw [← hx] at h1
        exact range_later h1 HB.out hb2
      have HXM : Hid (x ∈ L) := by show x ∈ L; rw [hx]; simp [List.getD, List.getElem?_eq_getElem (show k < L.length by rw [← HN.out]; exact hkn)]
      have HA2 : Hid (acc ++ ((if preB x.path p = true then [x] else []) ++ (L.drop (k + 1)).filter (fun i => preB i.path p)) = R0) := by
        have h1 := HA.out
        rw [List.drop_eq_getElem_cons (show k < L.length by rw [← HN.out]; exact hkn)] at h1
        have h2 : L[k]'(by rw [← HN.out]; exact hkn) = x := by rw [hx]; simp [List.getD, List.getElem?_eq_getElem (show k < L.length by rw [← HN.out]; exact hkn)]
        rw [h2, List.filter_cons] at h1
        show _ = _
        rw [← h1]
        cases preB x.path p <;> rfl
      clear hx hcx HA
      by_cases hsz : p.size ≤ x.path.size
      · have hz : (p.size : Int) ≤ (x.path.size : Int) := by omega
        by_cases hq : (x.path.extract 0 p.size).toList = p.toList
        · have HPB := hid (pre_yes hsz hq)
          have HBA := hid (bel_alc wr (.cells x.cs.toArray 51))
          have HOA := hid (own_later HO.out HBA.out)
          have HNW : Hid (∀ j u, x.cs[j]? = some u → (wr.alloc (.cells x.cs.toArray 51)).cell? ((⟨wr.heap.size, 0, none⟩ : Addr).add j) = some u) := fun j u hu => by
            rw [add_plain, Nat.zero_add]
            exact (Joins.cell_of_block (heap_alc wr _) j).trans (by rw [List.getElem?_toArray]; exact hu)
          have HZ : Hid (W.heap.size ≤ (wr.alloc (.cells x.cs.toArray 51)).heap.size) := Nat.le_trans HB.out.size HBA.out.size
          have HAL := hid (show acc.length ≤ 1024 by omega)
          go_wp2_with (first | refine wpList_load_P rfl 51 _ rfl b (o + k * 4) rfl x.cs _ HXR.out Try.underlying51 rfl Try.size51 ?_ | refine wpList_buildOne rfl 27 51 _ rfl (some 46) rfl x.cs.toArray i1 _ Try.underlying27 hi1 hy0 (hy1.trans rfl) (show 0 < 4 from by decide) (show 4 ≤ 1000 from by decide) rfl ?_ | (at_builtin; refine wpList_append_own _ rfl _ _ 27 rfl W.heap.size 51 i1 _ 4 56 Try.underlying27 hi1 hy0 hy1 hy2 rfl (by decide) _ acc.length _ rfl HOA.out ⟨wr.heap.size, 0, none⟩ 1 1 x.cs rfl rfl HNW.out (fun u hu => List.all_eq_true.1 (by simpa using Fi.one x) u hu) (by have := HAL.out; unfold maxLen; omega) (by have := HAL.out; omega) HZ.out ?_) | fail)
          intro v2 W2 ho hg _
          have HO2 : Hid (W2.ownsRow W.heap.size 51 4 v2 (acc ++ [x]).length ((acc ++ [x]).flatMap Fi.cs)) := by
            show World.ownsRow _ _ _ _ _ _ _
            rw [List.length_append, List.flatMap_append]
            simpa using ho
          have HB2 : Hid (Below W.heap.size W W2) := (HB.out.trans (HBA.out.mono HB.out.size)).trans ((Below.refl _ _).grown hg HZ.out (fun j hj => (HOA.out.lt j hj).1))
          have HE2 : Hid ((acc ++ [x]) ++ (L.drop (k + 1)).filter (fun i => preB i.path p) = R0) := by
            have h := HA2.out
            rw [if_pos HPB.out] at h
            show _ = _
            rw [← h, List.append_assoc]
          have HM2 : Hid (∀ i ∈ acc ++ [x], i ∈ L) := fun i hi => by
            rcases List.mem_append.1 hi with h | h
            · exact HM.out i h
            · rw [List.mem_singleton.1 h]; exact HXM.out
          clear ho hg HOA HNW HAL hq
          go_wp2
          go_roundw
          case rel => exact ⟨k + 1, acc ++ [x], by omega, by simp; omega, by go_num, HO2.out, HE2.out, HM2.out, HB2.out⟩
          case measure => simp [intOf]; omega
        · have hqb : ((x.path.extract 0 p.size).toList == p.toList) = false := beq_eq_false_iff_ne.2 hq
          have HE2 : Hid (acc ++ (L.drop (k + 1)).filter (fun i => preB i.path p) = R0) := by
            have h := HA2.out
            rw [pre_no hq] at h
            exact h
          clear hq
          go_wp2
          go_roundw
          case rel => exact ⟨k + 1, acc, by omega, by omega, by go_num, HO.out, HE2.out, HM.out, HB.out⟩
          case measure => simp [intOf]; omega
      · have hz : ¬ (p.size : Int) ≤ (x.path.size : Int) := by omega
        have HE2 : Hid (acc ++ (L.drop (k + 1)).filter (fun i => preB i.path p) = R0) := by
          have h := HA2.out
          rw [pre_short hsz] at h
          exact h
        go_wp2
        go_roundw
        case rel => exact ⟨k + 1, acc, by omega, by omega, by go_num, HO.out, HE2.out, HM.out, HB.out⟩
        case measure => simp [intOf]; omega
    · have hke : k = n := by omega
      subst hke
      have hkz : ¬ (k : Int) < (k : Int) := by omega
      have hlst : acc = R0 := by
        have h := HA.out
        rw [List.drop_eq_nil_of_le (by rw [HN.out]; exact Nat.le_refl _)] at h
        simpa using h
      rw [hlst] at HO HM
      obtain ⟨a6, cap6, hv6, hrw, _⟩ := Rw.own (z := fiZ) HO.out (fun _ _ => rfl)
      subst hv6
      have HRW := hid hrw
      clear hrw hlst HO
      go_wp2
      go_ret
      exact ⟨a6, cap6, rfl, ⟨HRW.out, fun i hi => (HD.out.fs.ps i (HM.out i hi)).later HB.out⟩, HB.out⟩
end Go.Proofs.Ytcbjlnabbfkkeaa
namespace Go.Proofs.Ytcbjlnabbfkkeaa
open Go.ChangeShapes Go.WideShapes Go.ChangeAt Go.RowKit Go.Deep Go.Lib

/-- A told file whose parts can be told. -/
structure Iok (i : Fi) : Prop where
  few : i.ps.length ≤ 40
  nok : i.ps.all nOk = true
  size0 : 0 ≤ i.size
  size1 : i.size ≤ 1048576
def dsek (i : Fi) (f z : Int) : Int × List Pt := if f < 0 ∨ z < 0 ∨ i.size < f ∨ i.size - f < z then (5, []) else (0, partL 0 f (f + z) i.ps)
def dsekO (L : List Fi) (s : ByteArray) (f z : Int) : Int × List Pt := if (dstF L s).2 = 0 then dsek (dstF L s).1 f z else ((dstF L s).2, [])
theorem dst_mem {L : List Fi} {s : ByteArray} (h : (dstF L s).2 = 0) : (dstF L s).1 ∈ L := by
  by_cases h1 : fixI L s < 0
  · unfold dstF at h
    rw [if_pos h1] at h
    cases h
  · unfold dstF
    rw [if_neg h1]
    obtain ⟨i, e, hi⟩ := fix_lt (L := L) (s := s) (by omega)
    rw [e]
    show L.getD ((i : Int).toNat) fiZ ∈ L
    rw [Int.toNat_natCast]
    simp [List.getD, List.getElem?_eq_getElem hi]
set_option maxHeartbeats 6400000 in
set_option maxRecDepth 100000 in
theorem dseek_word (W : World) (d : Nat) (a : Option Addr) (cap : Nat) (L : List Fi) (s : ByteArray) (f z : Int) (h : Dn W d a cap L) (hI : ∀ i ∈ L, Iok i) (w1 : (Lit.int .i64 f).wf = true) (w2 : (Lit.int .i64 z).wf = true) :
    Calls Try.prog 33 #[.pointer (some ⟨d, 0, none⟩), .string s, .int .i64 f, .int .i64 z] W fun e w' => ∃ a' cap', e = .returned (.tuple #[.slice a' (dsekO L s f z).2.length cap', .int .i64 (dsekO L s f z).1]) ∧ Rw 35 ptC ptZ w' a' cap' (dsekO L s f z).2 ∧ (∀ x ∈ (dsekO L s f z).2, x.x.1.length = 32) ∧ Below W.heap.size W w' := by
  have HST := hid (dstat_word W d a cap L s h)
  have HY := hid Try.zero51
  have HM : Hid ((dstF L s).2 = 0 → Iok (dstF L s).1 ∧ Rp W (dstF L s).1.a (dstF L s).1.cap (dstF L s).1.ps) := fun h0 => ⟨hI _ (dst_mem h0), h.fs.ps _ (dst_mem h0)⟩
  have HO : Hid (dsekO L s f z = if (dstF L s).2 = 0 then dsek (dstF L s).1 f z else ((dstF L s).2, [])) := rfl
  have b1 := wf_i64 w1
  have b2 := wf_i64 w2
  generalize dsekO L s f z = O at *
  clear h hI w1 w2
  obtain ⟨i, hi⟩ : ∃ i, i = (dstF L s).1 := ⟨_, rfl⟩
  obtain ⟨E, hE⟩ : ∃ E, E = (dstF L s).2 := ⟨_, rfl⟩
  rw [← hi, ← hE] at HST HO
  rw [← hi, ← hE] at HM
  clear hi hE
  have hb1 := b1.1
  have hb2 := b1.2
  have hb3 := b2.1
  have hb4 := b2.2
  clear b1 b2
  go_enter Try.func33, Try.ntmps33
  go_wp2_with fail
  refine HST.out.mono ?_
  rintro _ W1 ⟨rfl, hw1⟩
  have HB1 := hid hw1
  clear hw1 HST
  go_wp2_with (first | refine wpList_alloc_W rfl 51 rfl (some 10) rfl _ HY.out W1.heap.size rfl ?_ | fail)
  intro W2 HG2 HB2 HS2
  go_wp2_with (first | refine wpList_store_W rfl 51 _ _ rfl rfl W1.heap.size i.cs.toArray rfl rfl 51 _ HG2.out Try.size51 rfl (Fi.one _) ?_ | fail)
  intro W3 HG3 HB3 HS3
  have HB : Hid (Below W.heap.size W W3) := Bn HB1.out (HB2.out.trans (bel_grown HB3.out (Nat.le_refl _) HB2.out.size))
  have c1 : W3.cell? ⟨W1.heap.size, 1, none⟩ = some (.int .i64 i.size) := (Joins.cell_of_block HG3.out 1).trans rfl
  have c3 : W3.cell? ⟨W1.heap.size, 3, none⟩ = some (.slice i.a i.ps.length i.cap) := (Joins.cell_of_block HG3.out 3).trans rfl
  clear HG2 HB2 HS2 HG3 HB3 HS3 HB1
  generalize W1.heap.size = t10 at *
  by_cases h0 : E = 0
  · subst h0
    have HI := hid (HM.out rfl)
    have HO1 : Hid (O = dsek i f z) := HO.out
    have s0 := HI.out.1.size0
    have s1 := HI.out.1.size1
    clear HO HM
    by_cases hf : f < 0
    · have HOO : Hid (O = (5, [])) := by show _ = _; rw [HO1.out]; unfold dsek; rw [if_pos (.inl hf)]
      go_wp2
      go_ret2
      rw [HOO.out]
      exact ⟨none, 0, rfl, Rw.nil _, (fun x hx => by cases hx), HB.out⟩
    · by_cases hz : z < 0
      · have HOO : Hid (O = (5, [])) := by show _ = _; rw [HO1.out]; unfold dsek; rw [if_pos (.inr (.inl hz))]
        go_wp2
        go_ret2
        rw [HOO.out]
        exact ⟨none, 0, rfl, Rw.nil _, (fun x hx => by cases hx), HB.out⟩
      · by_cases hs : i.size < f
        · have HOO : Hid (O = (5, [])) := by show _ = _; rw [HO1.out]; unfold dsek; rw [if_pos (.inr (.inr (.inl hs)))]
          go_wp2
          go_ret2
          rw [HOO.out]
          exact ⟨none, 0, rfl, Rw.nil _, (fun x hx => by cases hx), HB.out⟩
        · by_cases hq : i.size - f < z
          · have HOO : Hid (O = (5, [])) := by show _ = _; rw [HO1.out]; unfold dsek; rw [if_pos (.inr (.inr (.inr hq)))]
            go_wp2
            go_ret2
            rw [HOO.out]
            exact ⟨none, 0, rfl, Rw.nil _, (fun x hx => by cases hx), HB.out⟩
          · have HOO : Hid (O = (0, partL 0 f (f + z) i.ps)) := by show _ = _; rw [HO1.out]; unfold dsek; rw [if_neg (by omega)]
            go_wp2_with fail
            refine (dparts_word W3 i.a i.cap i.ps f z (HI.out.2.later HB.out) HI.out.1.few HI.out.1.nok (by omega) (by omega) (by omega)).mono ?_
            rintro _ W4 ⟨a', cap', rfl, hrw, hx, hb4⟩
            have HRW := hid hrw
            have HXX := hid hx
            have HB4 := hid (Bn HB.out hb4)
            clear hrw hx hb4
            go_wp2
            go_ret2
            rw [HOO.out]
            exact ⟨a', cap', rfl, HRW.out, HXX.out, HB4.out⟩
  · have HOO : Hid (O = (E, [])) := by show _ = _; rw [HO.out, if_neg h0]
    go_wp2
    go_ret2
    rw [HOO.out]
    exact ⟨none, 0, rfl, Rw.nil _, (fun x hx => by cases hx), HB.out⟩
end Go.Proofs.Ytcbjlnabbfkkeaa
namespace Go.Proofs.Ytcbjlnabbfkkeaa
open Go.ChangeShapes Go.WideShapes Go.ChangeAt Go.RowKit Go.Deep Go.Lib

theorem fix_path {L : List Fi} {s : ByteArray} (h : 0 ≤ fixI L s) : (L.getD (fixI L s).toNat fiZ).path = s := by
  unfold fixI at h ⊢
  cases e : L.findIdx? fun f => decide (f.path = s) with
  | none => rw [e] at h; exact absurd h (by decide)
  | some i =>
    have e2 := e
    rw [List.findIdx?_eq_some_iff_getElem] at e2
    obtain ⟨hi, hp, _⟩ := e2
    show (L.getD ((i : Int).toNat) fiZ).path = s
    rw [Int.toNat_natCast]
    have : L.getD i fiZ = L[i] := by simp [List.getD, List.getElem?_eq_getElem hi]
    rw [this]
    simpa using hp
theorem Rel.dst {M : List Fl} {L : List Fi} (h : Rel M L) (s : ByteArray) : (fnd M s = none → dstF L s = (fiZ, 150)) ∧ ∀ f, fnd M s = some f → ∃ i, dstF L s = (i, 0) ∧ i ∈ L ∧ Mt f i := by
  have hx := h.fix s
  refine ⟨fun hn => ?_, fun f hf => ?_⟩
  · rw [hn] at hx
    have h1 : ¬ 0 ≤ fixI L s := of_decide_eq_false hx
    unfold dstF
    rw [if_pos (by omega)]
  · rw [hf] at hx
    have h1 : 0 ≤ fixI L s := of_decide_eq_true hx
    have h2 : dstF L s = (L.getD (fixI L s).toNat fiZ, 0) := by
      unfold dstF
      rw [if_neg (by omega)]
    have hm : L.getD (fixI L s).toNat fiZ ∈ L := by
      have := dst_mem (L := L) (s := s) (by rw [h2])
      rwa [h2] at this
    obtain ⟨g, k1, k2, _⟩ := h.lst.sound _ hm
    rw [fix_path h1, hf] at k1
    injection k1 with k1
    subst k1
    exact ⟨_, h2, hm, k2⟩
/-- Both Stats say the same. -/
theorem Rel.stat {M : List Fl} {L : List Fi} (h : Rel M L) {s : ByteArray} {i : Fi} {x : Int} (hs : StR M s i x) : Sm i (dstF L s).1 ∧ x = (dstF L s).2 := by
  obtain ⟨h1, h2⟩ := h.dst s
  rcases hs with ⟨hn, rfl, rfl⟩ | ⟨f, hf, rfl, g1, g2, g3, g4⟩
  · rw [h1 hn]
    exact ⟨⟨rfl, rfl, rfl, rfl⟩, rfl⟩
  · obtain ⟨j, e, _, k⟩ := h2 f hf
    rw [e]
    exact ⟨⟨by rw [g1, k.1], by rw [g2, k.2.1], by rw [g3, k.2.2.1], by rw [g4, k.2.2.2]⟩, rfl⟩
/-- Both Seeks say the same. -/
theorem Rel.seek {M : List Fl} {L : List Fi} (h : Rel M L) (s : ByteArray) (f z : Int) : sekO M s f z = dsekO L s f z := by
  obtain ⟨h1, h2⟩ := h.dst s
  unfold sekO dsekO
  cases hf : fnd M s with
  | none =>
    rw [h1 hf, if_neg (by decide)]
  | some g =>
    obtain ⟨j, e, _, k⟩ := h2 g hf
    rw [e, if_pos rfl]
    show sekF g f z = dsek j f z
    unfold sekF dsek
    rw [k.2.1, k.2.2.2]
    by_cases c : f < 0 ∨ z < 0 ∨ g.size - z < f
    · rw [if_pos c, if_pos (by omega)]
    · rw [if_neg c, if_neg (by omega)]
/-- What a record that the law looks at leaves in the document's row. -/
theorem DApp.iok {r : Rec} {L L' : List Fi} (h : DApp r L L') (hr : r.ps.length ≤ 40) (hL : ∀ i ∈ L, Iok i) : ∀ i ∈ L', Iok i := by
  unfold DApp at h
  split at h
  · rename_i h0
    obtain ⟨i, e1, e2, e3, e4, rfl⟩ := h
    intro y hy
    have hb := dmay_zero h0
    by_cases h2 : r.kind = 2
    · rw [decide_eq_true h2] at hy
      have hy' : y = i ∨ y ∈ L := by
        have go : ∀ l : List Fi, y ∈ dins r.path i false l → y = i ∨ y ∈ l := by
          intro l
          induction l with
          | nil => intro hy; rw [dins] at hy; simpa using hy
          | cons x l ih =>
            intro hy
            rw [dins] at hy
            cases hg : geP x.path r.path with
            | true =>
              rw [hg] at hy
              simp only [Bool.not_false, Bool.and_self, if_true, Bool.or_true, dins_true] at hy
              rcases List.mem_append.1 hy with hy | hy
              · exact .inl (List.mem_singleton.1 hy)
              · rcases List.mem_append.1 hy with hy | hy
                · split at hy
                  · cases hy
                  · rw [List.mem_singleton.1 hy]; exact .inr (List.mem_cons_self ..)
                · exact .inr (List.mem_cons_of_mem _ (List.mem_filter.1 hy).1)
            | false =>
              rw [hg] at hy
              simp only [Bool.not_false, Bool.and_false, Bool.or_self, Bool.false_eq_true, if_false, List.nil_append] at hy
              rcases List.mem_append.1 hy with hy | hy
              · split at hy
                · cases hy
                · rw [List.mem_singleton.1 hy]; exact .inr (List.mem_cons_self ..)
              · rcases ih hy with h | h
                · exact .inl h
                · exact .inr (List.mem_cons_of_mem _ h)
        exact go L hy
      rcases hy' with rfl | hy'
      · obtain ⟨_, hz⟩ := may_path hb (.inl h2)
        have hs := siz_few hz
        have hn : r.ps.all nOk = true ∧ sumP r.ps ≤ 1048576 := by
          unfold sizO at hz
          split at hz
          · cases hz
          · split at hz
            · rename_i h4
              split at hz
              · cases hz
              · exact ⟨h4, by omega⟩
            · cases hz
        have hb0 := (sumP_bound r.ps hn.1).1
        exact ⟨by rw [e4]; exact hr, by rw [e4]; exact hn.1, by rw [e2, hs.2]; exact hb0, by rw [e2, hs.2]; exact hn.2⟩
      · exact hL y hy'
    · rw [decide_eq_false h2, Bool.not_false, dins_true] at hy
      exact hL y (List.mem_filter.1 hy).1
  · rw [h]
    exact hL
end Go.Proofs.Ytcbjlnabbfkkeaa
