/-
  How many bytes tokens make: the contracts of lz's Size and of the document's.
-/
import Derived.Test.YtgdlmhgjhmcilaaToks
namespace Go.Proofs.Ytgdlmhgjhmcilaa
open Go.RowKit Lz

def sumZ : List Tkz → Int
  | [] => 0
  | t :: l => t.2.1 + sumZ l
def allB (l : List Tkz) : Bool := l.all fun t => chkZ t == 0
def sizeO (l : List Tkz) : Int × Int := if allB l = true then (if 65536 < sumZ l then (0, 2) else (sumZ l, 0)) else (0, 60)

theorem sumZ_append (a b : List Tkz) : sumZ (a ++ b) = sumZ a + sumZ b := by
  induction a with
  | nil => simp [sumZ]
  | cons t a ih => simp only [List.cons_append, sumZ, ih]; omega
theorem chk_or (t : Tkz) : chkZ t = 0 ∨ chkZ t = 60 := by unfold chkZ; split <;> simp
theorem chk_len {t : Tkz} (h : chkZ t = 0) : 1 ≤ t.2.1 ∧ t.2.1 ≤ 258 := by
  have hk : kindZ t ≠ 0 := fun e => by unfold chkZ at h; rw [if_pos e] at h; omega
  have hf := flt_kind t
  rcases kind_three t with k | k | k
  · exact absurd k hk
  · have := hf.1 k; omega
  · have := hf.2 k; omega
theorem take_getD (l : List Tkz) (k : Nat) (h : k < l.length) : l.take (k + 1) = l.take k ++ [l.getD k tk0] := by
  rw [List.take_succ_eq_append_getElem h]
  simp [List.getD, h]
theorem sum_bound (l : List Tkz) (h : ∀ t ∈ l, chkZ t = 0) : 0 ≤ sumZ l ∧ sumZ l ≤ 258 * l.length := by
  induction l with
  | nil => simp [sumZ]
  | cons t l ih =>
    have h1 := chk_len (h t (by simp))
    have h2 := ih (fun x hx => h x (by simp [hx]))
    simp only [sumZ, List.length_cons]
    omega
theorem sum_take_le (l : List Tkz) (h : ∀ t ∈ l, chkZ t = 0) (k : Nat) : sumZ (l.take k) ≤ sumZ l := by
  have e : sumZ l = sumZ (l.take k) + sumZ (l.drop k) := by rw [← sumZ_append, List.take_append_drop]
  have := (sum_bound (l.drop k) (fun t ht => h t (List.mem_of_mem_drop ht))).1
  omega
theorem getD_mem (l : List Tkz) (k : Nat) (h : k < l.length) : l.getD k tk0 ∈ l := by
  simp only [List.getD, List.getElem?_eq_getElem h, Option.getD_some]
  exact List.getElem_mem h
theorem all_of {l : List Tkz} (h : ∀ j, j < l.length → chkZ (l.getD j tk0) = 0) : allB l = true := by
  unfold allB
  rw [List.all_eq_true]
  intro t ht
  obtain ⟨j, hj, rfl⟩ := List.getElem_of_mem ht
  have := h j hj
  simp only [List.getD, List.getElem?_eq_getElem hj, Option.getD_some] at this
  simpa using this
theorem all_not {l : List Tkz} {k : Nat} (hk : k < l.length) (h : chkZ (l.getD k tk0) ≠ 0) : allB l = false := by
  rw [Bool.eq_false_iff]
  intro ha
  unfold allB at ha
  rw [List.all_eq_true] at ha
  exact h (by simpa using ha _ (getD_mem l k hk))
theorem all_mem {l : List Tkz} (h : allB l = true) : ∀ t ∈ l, chkZ t = 0 := by
  unfold allB at h
  rw [List.all_eq_true] at h
  exact fun t ht => by simpa using h t ht

set_option maxHeartbeats 1600000 in
set_option maxRecDepth 100000 in
theorem size_word (a : Option Addr) (cap : Nat) (l : List Tkz) (w : World) (hr : Rt w a cap l) (hn : l.length ≤ 400) :
    Calls Try.prog 10 #[.slice a l.length cap] w fun e w' => e = .returned (.tuple #[.int .i64 (sizeO l).1, .int .i64 (sizeO l).2]) ∧ Below w.heap.size w w' := by
  have hroom := hr.room
  have hmost := hr.most
  unfold maxLen at hmost
  have HR := hid hr
  obtain ⟨len, hle⟩ : ∃ n, n = l.length := ⟨_, rfl⟩
  have HL := hid hle
  rw [← hle] at hn hroom ⊢
  clear hr hle
  go_enter Try.func10, Try.ntmps10
  go_wp2
  go_loopw [4, 10] (fun x4 x10 wr => ∃ k : Nat, k ≤ len ∧ x10 = .int .i64 (k : Int) ∧ x4 = .int .i64 (sumZ (l.take k)) ∧ Below w.heap.size w wr ∧ Hid (∀ j, j < k → chkZ (l.getD j tk0) = 0)) (fun _ x10 _ => len - (intOf x10).toNat)
  case atStart => exact ⟨0, by omega, rfl, rfl, Below.refl _ _, fun j hj => absurd hj (by omega)⟩
  case round =>
    obtain ⟨k, hk, rfl, rfl, hbel, HA⟩ := hrel
    have hsb : 0 ≤ sumZ (l.take k) ∧ sumZ (l.take k) ≤ 258 * 400 := by
      have h := sum_bound (l.take k) (fun t ht => by
        obtain ⟨j, hj, rfl⟩ := List.getElem_of_mem ht
        have hj' : j < k := by simp at hj; omega
        have := HA.out j hj'
        simp only [List.getElem_take]
        rw [List.getD, List.getElem?_eq_getElem (by rw [← HL.out]; omega)] at this
        exact this)
      have : ((l.take k).length : Int) ≤ 400 := by simp; omega
      omega
    by_cases hlt : k < len
    · have hkz : (k : Int) < (len : Int) := by omega
      obtain ⟨b, off, rfl, hbw, hc⟩ := HR.out.cells (by rw [← HL.out]; omega)
      obtain ⟨c0, c1, c2⟩ := hc k (by rw [← HL.out]; exact hlt)
      have d0 := (hbel.cell (p := ⟨b, off + k * 3, none⟩) hbw).trans c0
      have d1 := (hbel.cell (p := ⟨b, off + k * 3 + 1, none⟩) hbw).trans c1
      have d2 := (hbel.cell (p := ⟨b, off + k * 3 + 2, none⟩) hbw).trans c2
      have HCK := hid (check_word (l.getD k tk0) (wr.alloc (.cells (zC (l.getD k tk0)) 23)))
      have HTK := hid (take_getD l k (by rw [← HL.out]; exact hlt))
      have HNOT := hid (fun h => all_not (l := l) (k := k) (by rw [← HL.out]; exact hlt) h)
      have HLEN := hid (fun h => chk_len (t := l.getD k tk0) h)
      have hor := chk_or (l.getD k tk0)
      have HAK : Hid (chkZ (l.getD k tk0) = 0 → ∀ j, j < k + 1 → chkZ (l.getD j tk0) = 0) := fun h j hj => by
        by_cases e : j = k
        · subst e; exact h
        · exact HA.out j (by omega)
      have HS : Hid (sumZ (l.take (k + 1)) = sumZ (l.take k) + (l.getD k tk0).2.1) := by
        show _ = _
        rw [HTK.out, sumZ_append]
        simp [sumZ]
      generalize sumZ (l.take k) = s at *
      clear hc c0 c1 c2
      generalize l.getD k tk0 = t at *
      obtain ⟨d, n, x⟩ := t
      unfold zC at HCK
      dsimp only at *
      have hB1 := bel_alloc wr (.cells #[.int .i64 d, .int .i64 n, .int .u8 x] 23)
      have HB1 := hid (Bn hbel hB1)
      have e0 : (wr.alloc (.cells #[.int .i64 d, .int .i64 n, .int .u8 x] 23)).heap[wr.heap.size]? = some (.cells #[.int .i64 d, .int .i64 n, .int .u8 x] 23 (0, 0)) := heap_new _ _
      have HE0 := hid e0
      clear hB1 e0 hbel
      go_wp2_with fail
      refine HCK.out.mono ?_
      rintro _ w2 ⟨rfl, hb2⟩
      have e2 := (hb2.block wr.heap.size (by simp)).trans HE0.out
      have m1 := Joins.cell_of_block e2 1
      simp only [List.getElem?_toArray, List.getElem?_cons_zero, List.getElem?_cons_succ] at m1
      have HB2 := hid (Bn HB1.out hb2)
      clear hb2 HB1 HCK e2 HE0
      rcases hor with hor | hor
      · obtain ⟨hn1, hn2⟩ := HLEN.out hor
        have HAK2 := hid (HAK.out hor)
        rw [hor]
        clear hor HNOT
        go_wp2
        exact ⟨⟨k + 1, by omega, by go_num, by rw [HS.out], HB2.out, HAK2⟩, by simp [intOf]; omega⟩
      · have HO : Hid (sizeO l = (0, 60)) := by
          show _ = _
          unfold sizeO
          rw [HNOT.out (by omega), if_neg (by simp)]
        rw [hor]
        clear hor HNOT
        go_wp2
        go_ret2
        exact ⟨by rw [HO.out]; rfl, HB2.out⟩
    · obtain rfl : k = len := by omega
      have hkz : ¬ (k : Int) < (k : Int) := by omega
      have HT : Hid (l.take k = l) := List.take_of_length_le (by rw [← HL.out]; omega)
      have HAL : Hid (allB l = true) := all_of (fun j hj => HA.out j (by rw [HL.out]; exact hj))
      rw [HT.out] at hsb ⊢
      have HO : Hid (sizeO l = if 65536 < sumZ l then (0, 2) else (sumZ l, 0)) := by show _ = _; unfold sizeO; rw [HAL.out, if_pos rfl]
      generalize sumZ l = s at *
      by_cases hs : 65536 < s
      · rw [if_pos hs] at HO
        go_wp2
        go_ret2
        exact ⟨by rw [HO.out]; rfl, hbel⟩
      · rw [if_neg hs] at HO
        go_wp2
        go_ret2
        exact ⟨by rw [HO.out]; rfl, hbel⟩
end Go.Proofs.Ytgdlmhgjhmcilaa
