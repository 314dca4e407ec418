/-
  The contracts of the document's Words, and of the statements' same: the same numbers, one by one.
-/
import Derived.Test.YtphfcklfgmjboaaWords
namespace Go.Proofs.Ytphfcklfgmjboaa
open Go.RowKit

theorem wordsr_no (a : Option Addr) (len cap : Nat) (b o : Int) (w : World) (hf : (faultF b o != 0) = true) :
    Calls Try.prog 18 #[.slice a len cap, .int .i64 b, .int .i64 o] w fun e w' => e = .returned (.tuple #[.slice none 0 0, .int .i64 (faultF b o)]) ∧ w' = w := by
  go_enter Try.func18, Try.ntmps18
  go_wp2_with (go_at_call 35; refine (asked_any _ _ _).mono ?_; rintro e w' ⟨rfl, rfl⟩)
  go_ret2
  exact ⟨rfl, rfl⟩

theorem wordsr_short (a : Option Addr) (len cap : Nat) (b o : Int) (n : Nat) (w : World) (hf : (faultF b o != 0) = false) (hq : b / 8 = n) (hb0 : 8 ≤ b) (hb1 : b ≤ 64) (h1 : 1 ≤ n) (hlen : len ≤ 400) (hm : ((len : Int) % (n : Int) != 0) = true) :
    Calls Try.prog 18 #[.slice a len cap, .int .i64 b, .int .i64 o] w fun e w' => e = .returned (.tuple #[.slice none 0 0, .int .i64 11]) ∧ w' = w := by
  go_enter Try.func18, Try.ntmps18
  go_wp2_with (go_at_call 35; refine (asked_any _ _ _).mono ?_; rintro e w' ⟨rfl, rfl⟩)
  go_ret2
  exact ⟨rfl, rfl⟩

/-- Behind an append of one number. -/
theorem own_snoc64 {B : Nat} {w wr w1 : World} {acc : List Int} {z : Int} {u v : Value} {o : Obj} (hB : B ≤ wr.heap.size)
    (hown : wr.ownsRow B 22 1 u acc.length (acc.map (Value.int .u64))) (hbel : Below B w wr)
    (hown' : w1.ownsRow B 22 1 v (acc.length + 1) (acc.map (Value.int .u64) ++ [.int .u64 z])) (hgrow : (wr.alloc o).grownBy w1 u.ownBlock) :
    w1.ownsRow B 22 1 v (acc ++ [z]).length ((acc ++ [z]).map (Value.int .u64)) ∧ Below B w w1 :=
  ⟨by simpa using hown', (hbel.alloc hB o).grown hgrow (by simp; omega) (fun j hj => (hown.lt j hj).1)⟩

theorem one_news64 (w : World) (v : Value) : ∀ (j : Nat) (u : Value), [v][j]? = some u → (w.alloc (.cells #[v] 22)).cell? (Addr.add ⟨w.heap.size, 0, none⟩ j) = some u := by
  intro j u h
  match j, h with
  | 0, h => simp at h; subst h; simp [Addr.add]

set_option maxHeartbeats 1600000 in
theorem wordsr_ok (a : Option Addr) (cap : Nat) (zs : List Int) (b o : Int) (n m : Nat) (w : World) (hr : Rd w (.slice a zs.length cap) a cap zs) (hf : (faultF b o != 0) = false) (hq : b / 8 = n) (hb0 : 8 ≤ b) (hb1 : b ≤ 64) (h1 : 1 ≤ n) (h8 : n ≤ 8) (hlen : zs.length ≤ 400) (hm : zs.length = m * n) :
    Calls Try.prog 18 #[.slice a zs.length cap, .int .i64 b, .int .i64 o] w fun e w' => ∃ v, e = .returned (.tuple #[v, .int .i64 0]) ∧ w'.ownsRow w.heap.size 22 1 v (wordsF n o zs m).length ((wordsF n o zs m).map (Value.int .u64)) ∧ Below w.heap.size w w' := by
  obtain ⟨i0, hi, hz0, hz1, hz2⟩ := info_parts Try.info22
  have hcap := hr.room
  have hmax := hr.most
  unfold maxLen at hmax
  have hmm : m ≤ zs.length := by rw [hm]; exact Nat.le_mul_of_pos_right m h1
  have HR := hid hr
  obtain ⟨len, hl⟩ : ∃ n, n = zs.length := ⟨_, rfl⟩
  have HL := hid hl
  have hd1 : ((len : Int) % (n : Int) != 0) = false := by
    rw [hl, hm]; simp
  have hd3 : len = m * n := by rw [hl]; exact hm
  rw [← hl] at hcap hlen hmm ⊢
  have HM := hid hd3
  clear hr hm hl hd3
  go_enter Try.func18, Try.ntmps18
  go_wp2_with (go_at_call 35; refine (asked_any _ _ _).mono ?_; rintro e w' ⟨rfl, hw⟩; obtain rfl := hw.symm; clear hw)
  go_loopw [9, 10] (fun v i wr => ∃ k p : Nat, k ≤ m ∧ Hid (p = k * n) ∧ i = .int .i64 p ∧ wr.ownsRow w.heap.size 22 1 v (wordsF n o zs k).length ((wordsF n o zs k).map (Value.int .u64)) ∧ Below w.heap.size w wr) (fun _ i _ => len - (intOf i).toNat)
  case atStart => exact ⟨0, 0, by omega, hid (by simp), rfl, by simpa [wordsF] using World.ownsRow_nil _ _ _ _, Below.refl _ _⟩
  case round =>
    obtain ⟨k, p, hk, hp0, rfl, hown, hbel⟩ := hrel
    have hp := hp0.out
    by_cases hlt : k < m
    · have hle : (k + 1) * n ≤ m * n := Nat.mul_le_mul_right n hlt
      have hp1 : p + n ≤ len := by rw [HM.out, hp]; rw [Nat.add_mul] at hle; omega
      have hpn : p + n = (k + 1) * n := by rw [hp, Nat.add_mul]; omega
      obtain ⟨bk, off, rfl, _, _⟩ := (HR.out).cells (by rw [← HL.out]; omega)
      have hrp := ((HR.out).later hbel).piece p (by rw [← HL.out]; omega)
      have hlp : (zs.drop p).length = len - p := by rw [List.length_drop, ← HL.out]
      have hw := wordr_ok (some ⟨bk, off + p, none⟩) (cap - p) (zs.drop p) b o n wr hrp hf hq hb0 hb1 h1 h8 (by omega)
      rw [hlp] at hw
      have hsu := wordsF_succ n o zs k
      rw [← hp] at hsu
      have HLW := hid (wordsF_length n o zs k)
      generalize numF o ((zs.drop p).take n) = z at *
      have HN := hid hw
      have HSU := hid hsu
      have HP := hid hp
      have HPN := hid hpn
      have hsz := hbel.size
      have hpl : (p : Int) < (len : Int) := by omega
      have hpc : p ≠ cap := by omega
      have hm1 : (wordsF n o zs k).length + 1 ≤ maxLen := by unfold maxLen; have := HLW.out; omega
      have hm2 : ((wordsF n o zs k).length + 1) * 8 ≤ 140737488355328 := by have := HLW.out; omega
      have hm3 : w.heap.size ≤ (wr.alloc (.cells #[.int .u64 z] 22)).heap.size := by simp; omega
      clear hw hrp hlp hle hp hsu hpn
      go_wp2_with (first
        | (go_at_call 16; refine (HN.out).mono ?_; rintro e w' ⟨rfl, hw⟩; obtain rfl := hw.symm; clear hw)
        | (at_builtin; refine wpList_append_own _ rfl _ _ 39 rfl w.heap.size 22 i0 (.int .u64 0) 1 8 Try.underlying39 hi hz0 hz1 hz2 rfl (by decide) _ _ _ rfl (hown.alloc _) ⟨wr.heap.size, 0, none⟩ 1 1 [.int .u64 z] rfl rfl (one_news64 _ _) (one_kind _ _) hm1 hm2 hm3 ?_))
      intro v' w1 hown' hgrow _
      have R := own_snoc64 hsz hown hbel hown' hgrow
      rw [← HSU.out] at R
      have HRR := hid R
      clear hown' hgrow hown R hm1 hm2 hm3
      go_wp2
      go_roundw
      case rel =>
        repeat apply Exists.intro
        refine ⟨?_, by rw [hq]⟩
        exact ⟨k + 1, p + n, by omega, HPN, by go_num, HRR.out.1, HRR.out.2⟩
      case measure => simp [intOf]; omega
    · have hkn : k = m := by omega
      subst hkn
      have hpl : p = len := by rw [hp, HM.out]
      subst hpl
      clear hp
      go_wp2
      go_ret2
      exact ⟨_, rfl, hown, hbel⟩

/-- Numbers that a row holds. -/
theorem own_open64 {w : World} {B : Nat} {v : Value} {l : List Int} (h : w.ownsRow B 22 1 v l.length (l.map (Value.int .u64))) (hne : 0 < l.length) :
    ∃ g cap, v = .slice (some ⟨g, 0, none⟩) l.length cap ∧ B ≤ g ∧ g < w.heap.size ∧ l.length ≤ cap ∧ cap ≤ maxLen ∧ ∀ j, j < l.length → w.cell? ⟨g, j, none⟩ = some (.int .u64 (l.getD j 0)) := by
  have h' := h
  obtain ⟨_, hcase⟩ := h
  rcases hcase with ⟨_, h0⟩ | ⟨g, cap, cur, rfl, hg, hh, hn, hcap, _, _⟩
  · omega
  · refine ⟨g, cap, rfl, hg, (Array.getElem?_eq_some_iff.1 hh).1, hn, hcap, fun j hj => ?_⟩
    rw [h'.cellAt j (by omega)]
    simp [List.getD, List.getElem?_eq_getElem hj]

theorem same_nil (a a' : Option Addr) (c c' : Nat) (w : World) : Calls Try.prog 19 #[.slice a 0 c, .slice a' 0 c'] w fun e w' => e = .returned (.bool true) ∧ ∃ m, w' = w.drewN m := by
  go_enter Try.func19, Try.ntmps19
  go_wp2
  refine wp_loop_rounds 1 ?_
  rw [rounds_succ]
  go_wp2
  go_ret
  exact ⟨rfl, 0, rfl⟩

theorem same_row (g g' c c' : Nat) (l : List Int) (w : World) (hl : l.length ≤ 400) (hc : ∀ j, j < l.length → w.cell? ⟨g, j, none⟩ = some (.int .u64 (l.getD j 0))) (hc' : ∀ j, j < l.length → w.cell? ⟨g', j, none⟩ = some (.int .u64 (l.getD j 0))) :
    Calls Try.prog 19 #[.slice (some ⟨g, 0, none⟩) l.length c, .slice (some ⟨g', 0, none⟩) l.length c'] w fun e w' => e = .returned (.bool true) ∧ ∃ m, w' = w.drewN m := by
  have HC := hid hc
  have HC' := hid hc'
  clear hc hc'
  obtain ⟨n, hn⟩ : ∃ n, n = l.length := ⟨_, rfl⟩
  rw [← hn] at hl ⊢
  have HN := hid hn
  clear hn
  go_enter Try.func19, Try.ntmps19
  go_wp2
  go_loopw [5] (fun i wr => ∃ k : Nat, k ≤ n ∧ i = .int .i64 k ∧ ∃ m, wr = w.drewN m) (fun i _ => n - (intOf i).toNat)
  case atStart => exact ⟨0, by omega, rfl, 0, rfl⟩
  case round =>
    obtain ⟨k, hk, rfl, m, rfl⟩ := hrel
    by_cases hlt : k < n
    · have h1 : (w.drewN m).cell? ⟨g, k, none⟩ = some (.int .u64 (l.getD k 0)) := by simpa using HC.out k (by rw [← HN.out]; exact hlt)
      have h2 : (w.drewN m).cell? ⟨g', k, none⟩ = some (.int .u64 (l.getD k 0)) := by simpa using HC'.out k (by rw [← HN.out]; exact hlt)
      have hkn : (k : Int) < (n : Int) := by omega
      generalize l.getD k 0 = z at *
      have e1 : (z != z) = false := by simp
      generalize hW : w.drewN m = W at *
      have HW := hid hW
      clear hW
      go_wp2_with fail
      go_quiet (fail)
      go_wp2
      go_roundw
      case rel => exact ⟨k + 1, by omega, by go_num, m + nq, by rw [← HW.out, World.drewN_drewN]⟩
      case measure => simp [intOf]; omega
    · have hkn : k = n := by omega
      subst hkn
      go_wp2
      go_ret
      exact ⟨rfl, m, rfl⟩

/-- Two rows of the same numbers are the same, in every later world. -/
theorem same_any {w w1 w2 : World} {B B' : Nat} {v v' : Value} {l : List Int} (hl : l.length ≤ 400) (h : w1.ownsRow B 22 1 v l.length (l.map (Value.int .u64))) (h' : w2.ownsRow B' 22 1 v' l.length (l.map (Value.int .u64)))
    (hb1 : Below w1.heap.size w1 w) (hb2 : Below w2.heap.size w2 w) : Calls Try.prog 19 #[v, v'] w fun e w' => e = .returned (.bool true) ∧ ∃ m, w' = w.drewN m := by
  by_cases h0 : 0 < l.length
  · obtain ⟨g, c, rfl, _, hg, _, _, hc⟩ := own_open64 h h0
    obtain ⟨g', c', rfl, _, hg', _, _, hc'⟩ := own_open64 h' h0
    exact same_row g g' c c' l w hl (fun j hj => (hb1.cell (p := ⟨g, j, none⟩) hg).trans (hc j hj)) (fun j hj => (hb2.cell (p := ⟨g', j, none⟩) hg').trans (hc' j hj))
  · have hz : l.length = 0 := by omega
    rw [hz] at h h'
    rcases h.2 with ⟨rfl, _⟩ | ⟨g, c, _, rfl, _⟩ <;> rcases h'.2 with ⟨rfl, _⟩ | ⟨g', c', _, rfl, _⟩ <;> exact same_nil _ _ _ _ w
end Go.Proofs.Ytphfcklfgmjboaa
