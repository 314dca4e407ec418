/-
  Which tokens may be: the contracts of lz's within, kindOf, Check, fault and of the document's Check.
-/
import Derived.Test.YtgdlmhgjhmcilabTok
namespace Go.Proofs.Ytgdlmhgjhmcilab
open Go.RowKit Lz

/-- A token of any numbers. -/
abbrev Tkz := Int × Int × Int
def zC (t : Tkz) : Array Value := #[.int .i64 t.1, .int .i64 t.2.1, .int .u8 t.2.2]
def litB (t : Tkz) : Bool := t.1 == 0 && t.2.1 == 1
def cpyB (t : Tkz) : Bool := decide (1 ≤ t.1) && (decide (t.1 ≤ 4096) && (decide (4 ≤ t.2.1) && (decide (t.2.1 ≤ 258) && t.2.2 == 0)))
def kindZ (t : Tkz) : Int := if litB t then 1 else if cpyB t then 2 else 0
def chkZ (t : Tkz) : Int := if kindZ t = 0 then 60 else 0
/-- What fault tells of a token behind n bytes. -/
def fltZ (t : Tkz) (n : Int) : Int := if kindZ t = 0 then 60 else if kindZ t = 2 ∧ n < t.1 then 61 else if 65536 < n + t.2.1 then 2 else 0

theorem within_yes (x a b : Int) (w : World) (h1 : a ≤ x) (h2 : x ≤ b) : Calls Try.prog 18 #[.int .i64 x, .int .i64 a, .int .i64 b] w fun e w' => e = .returned (.bool true) ∧ w' = w := by
  go_enter Try.func18, Try.ntmps18
  go_wp2
  go_ret
  exact ⟨rfl, rfl⟩
theorem within_no (x a b : Int) (w : World) (h : ¬ (a ≤ x ∧ x ≤ b)) : Calls Try.prog 18 #[.int .i64 x, .int .i64 a, .int .i64 b] w fun e w' => e = .returned (.bool false) ∧ w' = w := by
  by_cases h1 : a ≤ x
  · have h2 : ¬ x ≤ b := fun h' => h ⟨h1, h'⟩
    clear h
    go_enter Try.func18, Try.ntmps18
    go_wp2
    go_ret
    exact ⟨rfl, rfl⟩
  · clear h
    go_enter Try.func18, Try.ntmps18
    go_wp2
    go_ret
    exact ⟨rfl, rfl⟩

set_option maxHeartbeats 800000 in
set_option maxRecDepth 100000 in
theorem kind_word (t : Tkz) (w : World) : Calls Try.prog 14 #[.agg (zC t)] w fun e w' => e = .returned (.int .i64 (kindZ t)) ∧ Below w.heap.size w w' := by
  obtain ⟨d, n, x⟩ := t
  unfold zC
  by_cases hl : d = 0 ∧ n = 1
  · obtain ⟨rfl, rfl⟩ := hl
    have HK : Hid (kindZ (0, 1, x) = 1) := rfl
    go_enter Try.func14, Try.ntmps14
    go_wp2
    go_ret
    exact ⟨by rw [HK.out]; rfl, bel_alloc _ _⟩
  · have hlit : litB (d, n, x) = false := by
      unfold litB
      rw [Bool.eq_false_iff]
      simpa using hl
    have hk0 : kindZ (d, n, x) = if cpyB (d, n, x) then 2 else 0 := by unfold kindZ; rw [hlit]; rfl
    have hcb : cpyB (d, n, x) = (decide (1 ≤ d) && (decide (d ≤ 4096) && (decide (4 ≤ n) && (decide (n ≤ 258) && x == 0)))) := rfl
    have tail : ∀ (hd : 1 ≤ d ∧ d ≤ 4096) (hn : 4 ≤ n ∧ n ≤ 258), kindZ (d, n, x) = if x = 0 then 2 else 0 := fun hd hn => by
      rw [hk0, hcb]
      simp [hd.1, hd.2, hn.1, hn.2]
    have h1no : ¬ (1 ≤ d ∧ d ≤ 4096) → kindZ (d, n, x) = 0 := fun h => by
      rw [hk0, hcb, if_neg]
      simp only [Bool.and_eq_true, decide_eq_true_eq]
      exact fun h' => h ⟨h'.1, h'.2.1⟩
    have h2no : ¬ (4 ≤ n ∧ n ≤ 258) → kindZ (d, n, x) = 0 := fun h => by
      rw [hk0, hcb, if_neg]
      simp only [Bool.and_eq_true, decide_eq_true_eq]
      exact fun h' => h ⟨h'.2.2.1, h'.2.2.2.1⟩
    have HT := hid tail
    have H1 := hid h1no
    have H2 := hid h2no
    clear tail h1no h2no hcb hk0 hlit
    by_cases hd : 1 ≤ d ∧ d ≤ 4096
    · have hd0 : (d == 0) = false := by simp; omega
      by_cases hn : 4 ≤ n ∧ n ≤ 258
      · have HK := hid (HT.out hd hn)
        by_cases hx : x = 0
        · have hx0 : (x == 0) = true := by simpa using hx
          rw [if_pos hx] at HK
          clear HT H1 H2 hl hx
          obtain ⟨hd1, hd2⟩ := hd
          obtain ⟨hn1, hn2⟩ := hn
          go_enter Try.func14, Try.ntmps14
          go_wp2_with fail
          refine (within_yes d 1 4096 _ hd1 hd2).mono ?_
          rintro _ w1 ⟨rfl, rfl⟩
          go_wp2_with fail
          refine (within_yes n 4 258 _ hn1 hn2).mono ?_
          rintro _ w1 ⟨rfl, rfl⟩
          go_wp2
          go_ret
          exact ⟨by rw [HK.out]; rfl, bel_alloc _ _⟩
        · have hx0 : (x == 0) = false := by simpa using hx
          rw [if_neg hx] at HK
          clear HT H1 H2 hl hx
          obtain ⟨hd1, hd2⟩ := hd
          obtain ⟨hn1, hn2⟩ := hn
          go_enter Try.func14, Try.ntmps14
          go_wp2_with fail
          refine (within_yes d 1 4096 _ hd1 hd2).mono ?_
          rintro _ w1 ⟨rfl, rfl⟩
          go_wp2_with fail
          refine (within_yes n 4 258 _ hn1 hn2).mono ?_
          rintro _ w1 ⟨rfl, rfl⟩
          go_wp2
          go_ret
          exact ⟨by rw [HK.out]; rfl, bel_alloc _ _⟩
      · have HK := hid (H2.out hn)
        have HN := hid hn
        clear HT H1 H2 hl hn
        obtain ⟨hd1, hd2⟩ := hd
        go_enter Try.func14, Try.ntmps14
        go_wp2_with fail
        refine (within_yes d 1 4096 _ hd1 hd2).mono ?_
        rintro _ w1 ⟨rfl, rfl⟩
        go_wp2_with fail
        refine (within_no n 4 258 _ HN.out).mono ?_
        rintro _ w1 ⟨rfl, rfl⟩
        go_wp2
        go_ret
        exact ⟨by rw [HK.out]; rfl, bel_alloc _ _⟩
    · have HK := hid (H1.out hd)
      have HN := hid hd
      clear HT H1 H2 hd
      by_cases hd0 : d = 0
      · subst hd0
        have hn0 : (n == 1) = false := by simpa using hl
        clear hl
        go_enter Try.func14, Try.ntmps14
        go_wp2_with fail
        refine (within_no 0 1 4096 _ HN.out).mono ?_
        rintro _ w1 ⟨rfl, rfl⟩
        go_wp2
        go_ret
        exact ⟨by rw [HK.out]; rfl, bel_alloc _ _⟩
      · have hd1 : (d == 0) = false := by simpa using hd0
        clear hl hd0
        go_enter Try.func14, Try.ntmps14
        go_wp2_with fail
        refine (within_no d 1 4096 _ HN.out).mono ?_
        rintro _ w1 ⟨rfl, rfl⟩
        go_wp2
        go_ret
        exact ⟨by rw [HK.out]; rfl, bel_alloc _ _⟩

theorem kind_three (t : Tkz) : kindZ t = 0 ∨ kindZ t = 1 ∨ kindZ t = 2 := by
  unfold kindZ
  split
  · exact .inr (.inl rfl)
  · split
    · exact .inr (.inr rfl)
    · exact .inl rfl

theorem flt_kind (t : Tkz) : (kindZ t = 1 → t.1 = 0 ∧ t.2.1 = 1) ∧ (kindZ t = 2 → 1 ≤ t.1 ∧ t.1 ≤ 4096 ∧ 4 ≤ t.2.1 ∧ t.2.1 ≤ 258 ∧ t.2.2 = 0) := by
  obtain ⟨d, n, x⟩ := t
  unfold kindZ litB cpyB
  simp only [Bool.and_eq_true, decide_eq_true_eq, beq_iff_eq]
  constructor
  · intro h
    split at h
    · assumption
    · split at h <;> omega
  · intro h
    split at h
    · omega
    · split at h
      · assumption
      · omega

set_option maxHeartbeats 1600000 in
set_option maxRecDepth 100000 in
theorem fault_word (t : Tkz) m (w : World) (hm0 : 0 ≤ m) (hm : m ≤ 65536) : Calls Try.prog 8 #[.agg (zC t), .int .i64 m] w fun e w' => e = .returned (.int .i64 (fltZ t m)) ∧ Below w.heap.size w w' := by
  have HKW := hid (kind_word t (w.alloc (.cells (zC t) 34)))
  have hthree := kind_three t
  have hkind := flt_kind t
  have hflt : fltZ t m = if kindZ t = 0 then 60 else if kindZ t = 2 ∧ m < t.1 then 61 else if 65536 < m + t.2.1 then 2 else 0 := rfl
  obtain ⟨d, n, x⟩ := t
  unfold zC at *
  dsimp only at *
  have e0 : (w.alloc (.cells #[.int .i64 d, .int .i64 n, .int .u8 x] 34)).heap[w.heap.size]? = some (.cells #[.int .i64 d, .int .i64 n, .int .u8 x] 34 (0, 0)) := heap_new _ _
  have HE0 := hid e0
  have HF := hid hflt
  clear hflt e0
  rcases hthree with hk | hk | hk
  · skip
    rw [hk] at HKW
    have HC : Hid (fltZ (d, n, x) m = 60) := by show _ = _; rw [HF.out, hk]; rfl
    clear hk HF hkind
    go_enter Try.func8, Try.ntmps8
    go_wp2_with fail
    refine HKW.out.mono ?_
    rintro _ w1 ⟨rfl, hb1⟩
    have e1 := (hb1.block w.heap.size (by simp)).trans HE0.out
    have c0 := Joins.cell_of_block e1 0
    have c1 := Joins.cell_of_block e1 1
    simp only [List.getElem?_toArray, List.getElem?_cons_zero, List.getElem?_cons_succ] at c0 c1
    have HB := hid (Bn (bel_alloc w _) hb1)
    clear hb1 HKW e1 HE0
    go_wp2
    go_ret
    exact ⟨by rw [HC.out]; rfl, HB.out⟩
  · obtain ⟨hd0, hn1⟩ := hkind.1 hk
    subst hd0
    subst hn1
    by_cases hl : 65536 < m + 1
    · skip
      rw [hk] at HKW
      have HC : Hid (fltZ (0, 1, x) m = 2) := by show _ = _; rw [HF.out, hk]; rw [if_neg (by decide), if_neg (by omega), if_pos hl]
      clear hk HF hkind
      go_enter Try.func8, Try.ntmps8
      go_wp2_with fail
      refine HKW.out.mono ?_
      rintro _ w1 ⟨rfl, hb1⟩
      have e1 := (hb1.block w.heap.size (by simp)).trans HE0.out
      have c0 := Joins.cell_of_block e1 0
      have c1 := Joins.cell_of_block e1 1
      simp only [List.getElem?_toArray, List.getElem?_cons_zero, List.getElem?_cons_succ] at c0 c1
      have HB := hid (Bn (bel_alloc w _) hb1)
      clear hb1 HKW e1 HE0
      go_wp2
      go_ret
      exact ⟨by rw [HC.out]; rfl, HB.out⟩
    · skip
      rw [hk] at HKW
      have HC : Hid (fltZ (0, 1, x) m = 0) := by show _ = _; rw [HF.out, hk]; rw [if_neg (by decide), if_neg (by omega), if_neg hl]
      clear hk HF hkind
      go_enter Try.func8, Try.ntmps8
      go_wp2_with fail
      refine HKW.out.mono ?_
      rintro _ w1 ⟨rfl, hb1⟩
      have e1 := (hb1.block w.heap.size (by simp)).trans HE0.out
      have c0 := Joins.cell_of_block e1 0
      have c1 := Joins.cell_of_block e1 1
      simp only [List.getElem?_toArray, List.getElem?_cons_zero, List.getElem?_cons_succ] at c0 c1
      have HB := hid (Bn (bel_alloc w _) hb1)
      clear hb1 HKW e1 HE0
      go_wp2
      go_ret
      exact ⟨by rw [HC.out]; rfl, HB.out⟩
  · obtain ⟨hd1, hd2, hn1, hn2, hx0⟩ := hkind.2 hk
    clear hx0
    by_cases hdm : m < d
    · skip
      rw [hk] at HKW
      have HC : Hid (fltZ (d, n, x) m = 61) := by show _ = _; rw [HF.out, hk]; rw [if_neg (by decide), if_pos ⟨rfl, hdm⟩]
      clear hk HF hkind
      go_enter Try.func8, Try.ntmps8
      go_wp2_with fail
      refine HKW.out.mono ?_
      rintro _ w1 ⟨rfl, hb1⟩
      have e1 := (hb1.block w.heap.size (by simp)).trans HE0.out
      have c0 := Joins.cell_of_block e1 0
      have c1 := Joins.cell_of_block e1 1
      simp only [List.getElem?_toArray, List.getElem?_cons_zero, List.getElem?_cons_succ] at c0 c1
      have HB := hid (Bn (bel_alloc w _) hb1)
      clear hb1 HKW e1 HE0
      go_wp2
      go_ret
      exact ⟨by rw [HC.out]; rfl, HB.out⟩
    · by_cases hl : 65536 < m + n
      · skip
        rw [hk] at HKW
        have HC : Hid (fltZ (d, n, x) m = 2) := by show _ = _; rw [HF.out, hk]; rw [if_neg (by decide), if_neg (fun h => hdm h.2), if_pos hl]
        clear hk HF hkind
        go_enter Try.func8, Try.ntmps8
        go_wp2_with fail
        refine HKW.out.mono ?_
        rintro _ w1 ⟨rfl, hb1⟩
        have e1 := (hb1.block w.heap.size (by simp)).trans HE0.out
        have c0 := Joins.cell_of_block e1 0
        have c1 := Joins.cell_of_block e1 1
        simp only [List.getElem?_toArray, List.getElem?_cons_zero, List.getElem?_cons_succ] at c0 c1
        have HB := hid (Bn (bel_alloc w _) hb1)
        clear hb1 HKW e1 HE0
        go_wp2
        go_ret
        exact ⟨by rw [HC.out]; rfl, HB.out⟩
      · skip
        rw [hk] at HKW
        have HC : Hid (fltZ (d, n, x) m = 0) := by show _ = _; rw [HF.out, hk]; rw [if_neg (by decide), if_neg (fun h => hdm h.2), if_neg hl]
        clear hk HF hkind
        go_enter Try.func8, Try.ntmps8
        go_wp2_with fail
        refine HKW.out.mono ?_
        rintro _ w1 ⟨rfl, hb1⟩
        have e1 := (hb1.block w.heap.size (by simp)).trans HE0.out
        have c0 := Joins.cell_of_block e1 0
        have c1 := Joins.cell_of_block e1 1
        simp only [List.getElem?_toArray, List.getElem?_cons_zero, List.getElem?_cons_succ] at c0 c1
        have HB := hid (Bn (bel_alloc w _) hb1)
        clear hb1 HKW e1 HE0
        go_wp2
        go_ret
        exact ⟨by rw [HC.out]; rfl, HB.out⟩
end Go.Proofs.Ytgdlmhgjhmcilab
