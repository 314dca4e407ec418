/-
  The contract of the document's Codes.
-/
import Derived.Test.YtgecoiakhmnilaaRefCheck
import Derived.Test.YtgecoiakhmnilaaCodesW
namespace Go.Proofs.Ytgecoiakhmnilaa
open Go.RowKit Hf

/-- The codes of the lengths below n, and of the first i symbols of the length n. -/
def pcF (zs : List Int) (n i j : Nat) : Int := if (0 < zs.getD j 0 ∧ zs.getD j 0 < (n : Int)) ∨ (zs.getD j 0 = (n : Int) ∧ j < i) then codeF zs j else 0
def pcL (zs : List Int) (n i : Nat) : List Int := (List.range zs.length).map (pcF zs n i)
theorem pcL_length (zs : List Int) (n i : Nat) : (pcL zs n i).length = zs.length := by simp [pcL]
theorem pcL_getD (zs : List Int) (n i j : Nat) (h : j < zs.length) : (pcL zs n i).getD j 0 = pcF zs n i j := by
  simp [pcL, List.getD, h]
theorem ilist_ext {l m : List Int} (h : l.length = m.length) (he : ∀ i, i < l.length → l.getD i 0 = m.getD i 0) : l = m := by
  refine List.ext_getElem h (fun i h1 h2 => ?_)
  have := he i h1
  simpa [List.getD, List.getElem?_eq_getElem h1, List.getElem?_eq_getElem h2] using this
theorem igetD_set (l : List Int) (i j : Nat) (v : Int) (h : i < l.length) : (l.set i v).getD j 0 = if j = i then v else l.getD j 0 := by
  simp only [List.getD, List.getElem?_set]
  by_cases e : i = j
  · subst e; simp [h]
  · rw [if_neg e, if_neg (fun x => e x.symm)]
theorem pcL_start (zs : List Int) : pcL zs 1 0 = List.replicate zs.length 0 := by
  refine ilist_ext (by simp [pcL]) (fun j hj => ?_)
  rw [pcL_length] at hj
  rw [pcL_getD _ _ _ _ hj]
  have e : (List.replicate zs.length (0 : Int)).getD j 0 = 0 := by simp [List.getD, hj]
  rw [e]; unfold pcF
  rw [if_neg]
  omega
theorem pcL_hit (zs : List Int) (n i : Nat) (hi : i < zs.length) (hz : zs.getD i 0 = (n : Int)) : (pcL zs n i).set i (codeF zs i) = pcL zs n (i + 1) := by
  refine ilist_ext (by simp [pcL]) (fun j hj => ?_)
  rw [List.length_set, pcL_length] at hj
  rw [igetD_set _ _ _ _ (by rw [pcL_length]; exact hi), pcL_getD _ _ _ _ hj, pcL_getD _ _ _ _ hj]
  by_cases e : j = i
  · subst e; rw [if_pos rfl]; unfold pcF; rw [if_pos (Or.inr ⟨hz, by omega⟩)]
  · rw [if_neg e]; unfold pcF
    by_cases h1 : 0 < zs.getD j 0 ∧ zs.getD j 0 < (n : Int)
    · rw [if_pos (Or.inl h1), if_pos (Or.inl h1)]
    · by_cases h2 : zs.getD j 0 = (n : Int) ∧ j < i
      · rw [if_pos (Or.inr h2), if_pos (Or.inr ⟨h2.1, by omega⟩)]
      · rw [if_neg (by omega), if_neg (by omega)]
theorem pcL_miss (zs : List Int) (n i : Nat) (hz : ¬ zs.getD i 0 = (n : Int)) : pcL zs n (i + 1) = pcL zs n i := by
  refine ilist_ext (by simp [pcL]) (fun j hj => ?_)
  rw [pcL_length] at hj
  rw [pcL_getD _ _ _ _ hj, pcL_getD _ _ _ _ hj]
  unfold pcF
  by_cases e : j = i
  · subst e
    by_cases h1 : 0 < zs.getD j 0 ∧ zs.getD j 0 < (n : Int)
    · rw [if_pos (Or.inl h1), if_pos (Or.inl h1)]
    · rw [if_neg (by omega), if_neg (by omega)]
  · by_cases h1 : 0 < zs.getD j 0 ∧ zs.getD j 0 < (n : Int)
    · rw [if_pos (Or.inl h1), if_pos (Or.inl h1)]
    · by_cases h2 : zs.getD j 0 = (n : Int) ∧ j < i
      · rw [if_pos (Or.inr ⟨h2.1, by omega⟩), if_pos (Or.inr h2)]
      · rw [if_neg (by omega), if_neg (by omega)]
theorem pcL_next (zs : List Int) (n : Nat) (hn : 0 < n) : pcL zs n zs.length = pcL zs (n + 1) 0 := by
  refine ilist_ext (by simp [pcL]) (fun j hj => ?_)
  rw [pcL_length] at hj
  rw [pcL_getD _ _ _ _ hj, pcL_getD _ _ _ _ hj]
  unfold pcF
  by_cases h1 : 0 < zs.getD j 0 ∧ zs.getD j 0 < (n : Int) + 1
  · rw [if_pos (by omega), if_pos (Or.inl (by omega))]
  · rw [if_neg (by omega), if_neg (by omega)]
theorem pcL_full (zs : List Int) (h : ∀ z ∈ zs, 0 ≤ z ∧ z ≤ 15) : pcL zs 16 0 = codesL zs := by
  refine ilist_ext (by simp [pcL, codesL]) (fun j hj => ?_)
  rw [pcL_length] at hj
  rw [pcL_getD _ _ _ _ hj, codesL_getD _ _ hj]
  have hr := h _ (getD_mem zs j hj)
  unfold pcF
  by_cases h1 : 0 < zs.getD j 0
  · rw [if_pos (Or.inl ⟨h1, by omega⟩)]
  · rw [if_neg (by omega)]; unfold codeF; rw [if_neg h1]

theorem codesr_no (a : Option Addr) (cap : Nat) (zs : List Int) (w : World) (hr : Ri w .i64 a cap zs) (hc : checkB zs = false) :
    Calls Try.prog 15 #[.slice a zs.length cap] w fun e w' => e = .returned (.tuple #[.slice none 0 0, .int .i64 51]) ∧ w' = w := by
  have HT := hid (check_ref a cap zs w hr)
  have e2 : checkF zs = 51 := by unfold checkF; rw [hc]; rfl
  rw [e2] at HT
  clear hr e2 hc
  generalize zs.length = len at *
  go_enter Try.func15, Try.ntmps15
  go_wp2_with fail
  refine HT.out.mono ?_
  rintro _ w1 ⟨rfl, hw⟩
  obtain rfl := hw.symm
  clear hw
  go_wp2
  go_ret2
  exact ⟨rfl, rfl⟩

set_option maxHeartbeats 1600000 in
set_option maxRecDepth 100000 in
theorem codes_ref (a : Option Addr) (cap : Nat) (zs : List Int) (w : World) (hr : Ri w .i64 a cap zs) (hc : checkB zs = true) :
    Calls Try.prog 15 #[.slice a zs.length cap] w fun e w' => ∃ v, e = .returned (.tuple #[v, .int .i64 0]) ∧ w'.ownsRow w.heap.size 39 1 v (codesL zs).length ((codesL zs).map (Value.int .u16)) ∧ Below w.heap.size w w' := by
  obtain ⟨i0, hi, hz0, hz1, hz2⟩ := info_parts Try.info39
  have HT := hid (check_ref a cap zs w hr)
  have e2 : checkF zs = 0 := by unfold checkF; rw [hc]; rfl
  rw [e2] at HT
  have hok : lenOk zs = true := by unfold checkB at hc; rw [Bool.and_eq_true] at hc; exact hc.1
  have hlen := (lenOk_all hok).1
  have HA := hid (lenOk_all hok).2
  have HR := hid hr
  obtain ⟨len, hl⟩ : ∃ n, n = zs.length := ⟨_, rfl⟩
  have HL := hid hl
  rw [← hl] at hlen HT ⊢
  clear hr e2 hok hc hl
  go_enter Try.func15, Try.ntmps15
  go_wp2_with fail
  refine HT.out.mono ?_
  rintro _ w1 ⟨rfl, hw⟩
  obtain rfl := hw.symm
  clear hw HT
  go_wp2_with (first
    | (at_make; refine wpList_make_full _ rfl _ _ 32 rfl w.heap.size 39 i0 (.int .u16 0) 1 Try.underlying32 hi hz0 hz1 .i64 .i64 _ _ len rfl rfl (by first | rfl | omega) (by first | rfl | omega) ?b2 ?b3 ?b4 ?_))
  case b2 => rw [hz2]; omega
  case b3 => unfold maxLen; omega
  case b4 => exact Nat.le_refl _
  intro w1 hown0 hgrow
  have hb1 : Below w.heap.size w w1 := (Below.refl _ _).grown hgrow (Nat.le_refl _) (fun k hk => by cases hk)
  rw [toList_madeCells_one, show List.replicate len (Value.int .u16 0) = (pcL zs 1 0).map (Value.int .u16) from by rw [pcL_start, HL.out]; simp] at hown0
  have HO := hid hown0
  clear hgrow hown0
  go_wp2
  go_loopw [6, 7] (fun x y wr => ∃ m : Nat, 1 ≤ m ∧ m ≤ 16 ∧ y = .int .i64 m ∧ x = .int .i64 ((first zs m : Nat) : Int) ∧ wr.ownsRow w.heap.size 39 1 (.slice (some ⟨w.heap.size, 0, none⟩) len len) len ((pcL zs m 0).map (Value.int .u16)) ∧ Below w.heap.size w wr) (fun _ y _ => 16 - (intOf y).toNat)
  case atStart => exact ⟨1, by omega, by omega, rfl, rfl, HO.out, hb1⟩
  case round =>
    clear HO hb1
    obtain ⟨m, hm1, hm2, rfl, rfl, hown, hbel⟩ := hrel
    by_cases hm : m ≤ 15
    · have hm' : (m : Int) ≤ 15 := by omega
      have hfs := first_small zs m (by omega) (by rw [← HL.out]; omega)
      have HO := hid hown
      have HB := hid hbel
      clear hown hbel
      have hx : ((first zs m : Nat) : Int) = ((first zs m + cnt (zs.take 0) m : Nat) : Int) := by simp [cnt]
      go_wp2_with fail
      go_loopw [6, 8] (fun x y wr => ∃ i : Nat, i ≤ len ∧ y = .int .i64 i ∧ x = .int .i64 ((first zs m + cnt (zs.take i) m : Nat) : Int) ∧ wr.ownsRow w.heap.size 39 1 (.slice (some ⟨w.heap.size, 0, none⟩) len len) len ((pcL zs m i).map (Value.int .u16)) ∧ Below w.heap.size w wr) (fun _ y _ => len - (intOf y).toNat)
      case atStart => exact ⟨0, by omega, rfl, by rw [hx], HO.out, HB.out⟩
      case round =>
        clear HO HB hx
        obtain ⟨i, hi2, rfl, rfl, hown, hbel⟩ := hrel
        have hcn := cnt_le (zs.take i) m
        have hcl2 : (zs.take i).length ≤ len := by rw [List.length_take]; omega
        by_cases hlt : i < len
        · have hil : (i : Int) < (len : Int) := by omega
          have HZ : Hid (i < zs.length) := by show _ < _; rw [← HL.out]; exact hlt
          obtain ⟨b, off, rfl, hbw, hc⟩ := (HR.out).cells (by rw [← HL.out]; omega)
          have ck : wr.cell? ⟨b, off + i, none⟩ = some (.int .i64 (zs.getD i 0)) := (hbel.cell (p := ⟨b, off + i, none⟩) hbw).trans (hc i HZ.out)
          clear hc
          have HC := hid (cnt_snoc (zs.take i) (zs.getD i 0) m)
          rw [← take_snoc zs i HZ.out] at HC
          by_cases hz : zs.getD i 0 = (m : Int)
          · have hcell : ∃ u, wr.cell? ⟨w.heap.size, i, none⟩ = some u := by
              rw [hown.cellAt i (by omega)]
              exact ⟨_, List.getElem?_eq_getElem (by rw [List.length_map, pcL_length, ← HL.out]; exact hlt)⟩
            obtain ⟨u, hu⟩ := hcell
            have hfz := hown.frozenAt i
            have hst := hown.stored i (.int .u16 (codeF zs i))
            rw [← List.map_set, pcL_hit zs m i HZ.out hz] at hst
            have hnb := hbel.grown hst.2 hbel.size (fun j hj => by injection hj with hj; omega)
            have hcv : codeF zs i = (((first zs m + cnt (zs.take i) m) % 65536 : Nat) : Int) := by
              unfold codeF codeN; rw [hz, if_pos (by omega)]; rfl
            rw [hcv] at hst hnb
            have HS := hid hst.1
            have HB := hid hnb
            rw [if_pos ⟨by omega, hz⟩] at HC
            rw [hz] at ck
            clear hst hnb hown hcv hbel hz
            generalize first zs m = f at *
            generalize cnt (zs.take i) m = c at *
            have HV : Hid (IntKind.u16.wrap ((f : Int) + (c : Int)) = (((f + c) % 65536 : Nat) : Int)) := by show _ = _; rw [IntKind.wrap_u16]; omega
            have hbb : ((m : Int) == (m : Int)) = true := by simp
            go_wp2
            rw [HV.out]
            exact ⟨⟨i + 1, by omega, by go_num, by rw [HC.out]; simp; omega, HS.out, HB.out⟩, by simp [intOf]; omega⟩
          · rw [if_neg (by omega)] at HC
            have HO : Hid (wr.ownsRow w.heap.size 39 1 (.slice (some ⟨w.heap.size, 0, none⟩) len len) len ((pcL zs m (i + 1)).map (Value.int .u16))) := by
              show World.ownsRow _ _ _ _ _ _ _
              rw [pcL_miss zs m i hz]; exact hown
            have HB := hid hbel
            clear hown hbel
            generalize first zs m = f at *
            generalize cnt (zs.take i) m = c at *
            generalize zs.getD i 0 = z at *
            have hbb : (z == (m : Int)) = false := by simp [hz]
            go_wp2
            exact ⟨⟨i + 1, by omega, by go_num, by rw [HC.out]; simp, HO.out, HB.out⟩, by simp [intOf]; omega⟩
        · obtain rfl : i = len := by omega
          have HO : Hid (wr.ownsRow w.heap.size 39 1 (.slice (some ⟨w.heap.size, 0, none⟩) i i) i ((pcL zs (m + 1) 0).map (Value.int .u16))) := by
            show World.ownsRow _ _ _ _ _ _ _
            rw [← pcL_next zs m (by omega), ← HL.out]; exact hown
          have HF : Hid (first zs (m + 1) = (first zs m + cnt (zs.take i) m) * 2) := by
            show _ = _
            rw [show zs.take i = zs from by rw [HL.out]; exact List.take_length]; rfl
          have HB := hid hbel
          clear hown hbel
          generalize first zs m = f at *
          generalize cnt (zs.take i) m = c at *
          go_wp2
          exact ⟨⟨m + 1, by omega, by omega, by go_num, by rw [HF.out]; simp, HO.out, HB.out⟩, by simp [intOf]; omega⟩
    · obtain rfl : m = 16 := by omega
      rw [pcL_full zs HA.out] at hown
      have HCL : Hid ((codesL zs).length = len) := by show _ = _; rw [codesL_length, HL.out]
      go_wp2
      go_ret2
      exact ⟨_, rfl, by rw [HCL.out]; exact hown, hbel⟩
end Go.Proofs.Ytgecoiakhmnilaa
