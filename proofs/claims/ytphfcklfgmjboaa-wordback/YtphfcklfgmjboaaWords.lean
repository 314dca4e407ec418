/-
  The contract of word.Words: the numbers of some bytes, in new memory.
-/
import Derived.Test.YtphfcklfgmjboaaWord
namespace Go.Proofs.Ytphfcklfgmjboaa
open Go.RowKit

theorem Try.info22 : (Try.prog.info? 22).map (fun i => (i.zero, i.size, i.bytes)) = some (some (.int .u64 0), 1, 8) := by kernel_rfl

/-- The first m numbers of some bytes. -/
def wordsF (n : Nat) (o : Int) (zs : List Int) (m : Nat) : List Int := (List.range m).map (fun i => numF o ((zs.drop (i * n)).take n))

theorem wordsF_length (n : Nat) (o : Int) (zs : List Int) (m : Nat) : (wordsF n o zs m).length = m := by simp [wordsF]
theorem wordsF_getD (n : Nat) (o : Int) (zs : List Int) (m k : Nat) (hk : k < m) : (wordsF n o zs m).getD k 0 = numF o ((zs.drop (k * n)).take n) := by
  simp [wordsF, List.getD, hk]
theorem wordsF_succ (n : Nat) (o : Int) (zs : List Int) (m : Nat) : wordsF n o zs (m + 1) = wordsF n o zs m ++ [numF o ((zs.drop (m * n)).take n)] := by
  simp [wordsF, List.range_succ]

theorem getD_drop_take (zs : List Int) (p n j : Nat) (hj : j < n) : ((zs.drop p).take n).getD j 0 = zs.getD (p + j) 0 := by
  rw [getD_take _ _ _ hj]; simp [List.getD]
theorem getD_drop (zs : List Int) (p j : Nat) : (zs.drop p).getD j 0 = zs.getD (p + j) 0 := by simp [List.getD]

/-- A piece of a slice, from place p on. -/
theorem Rd.piece {w : World} {bk off cap : Nat} {zs : List Int} (h : Rd w (.slice (some ⟨bk, off, none⟩) zs.length cap) (some ⟨bk, off, none⟩) cap zs) (p : Nat) (hp : p < zs.length) :
    Rd w (.slice (some ⟨bk, off + p, none⟩) (zs.drop p).length (cap - p)) (some ⟨bk, off + p, none⟩) (cap - p) (zs.drop p) := by
  have hroom := h.room
  have hmost := h.most
  have hl : (zs.drop p).length = zs.length - p := List.length_drop
  obtain ⟨b', off', hb', hbw, hc⟩ := h.cells (by omega)
  injection hb' with hb'
  injection hb' with e1 e2
  subst e1; subst e2
  refine ⟨rfl, by omega, by omega, fun _ => ⟨bk, off + p, rfl, hbw, fun j hj => ?_⟩, fun j => ?_, fun j => ?_⟩
  · rw [getD_drop, Nat.add_assoc]; exact hc (p + j) (by omega)
  · rw [getD_drop]; exact h.lo _
  · rw [getD_drop]; exact h.hi _

theorem words_no (a : Option Addr) (len cap : Nat) (b o : Int) (w : World) (hf : (faultF b o != 0) = true) :
    Calls Try.prog 17 #[.slice a len cap, .int .i64 b, .int .i64 o] w fun e w' => e = .returned (.tuple #[.slice none 0 0, .int .i64 (faultF b o)]) ∧ w' = w := by
  go_enter Try.func17, Try.ntmps17
  go_wp2_with (go_at_call 33; refine (fault_any _ _ _).mono ?_; rintro e w' ⟨rfl, rfl⟩)
  go_ret2
  exact ⟨rfl, rfl⟩

theorem words_short (a : Option Addr) (len cap : Nat) (b o : Int) (n : Nat) (w : World) (hf : (faultF b o != 0) = false) (hs : sizeF b = n) (h1 : 1 ≤ n) (hlen : len ≤ 400) (hm : ((len : Int) % (n : Int) != 0) = true) :
    Calls Try.prog 17 #[.slice a len cap, .int .i64 b, .int .i64 o] w fun e w' => e = .returned (.tuple #[.slice none 0 0, .int .i64 11]) ∧ w' = w := by
  go_enter Try.func17, Try.ntmps17
  go_wp2_with (first | (go_at_call 33; refine (fault_any _ _ _).mono ?_; rintro e w' ⟨rfl, rfl⟩) | (go_at_call 30; refine (size_any _ _).mono ?_; rintro e w' ⟨rfl, rfl⟩))
  go_ret2
  exact ⟨rfl, rfl⟩

set_option maxHeartbeats 1600000 in
theorem words_ok (a : Option Addr) (cap : Nat) (zs : List Int) (b o : Int) (n m : Nat) (w : World) (hr : Rd w (.slice a zs.length cap) a cap zs) (hf : (faultF b o != 0) = false) (hs : sizeF b = n) (h1 : 1 ≤ n) (h8 : n ≤ 8) (hlen : zs.length ≤ 400) (hm : zs.length = m * n) :
    Calls Try.prog 17 #[.slice a zs.length cap, .int .i64 b, .int .i64 o] w fun e w' => ∃ v, e = .returned (.tuple #[v, .int .i64 0]) ∧ w'.ownsRow w.heap.size 22 1 v (wordsF n o zs m).length ((wordsF n o zs m).map (Value.int .u64)) ∧ Below w.heap.size w w' := by
  obtain ⟨i0, hi, hz0, hz1, hz2⟩ := info_parts Try.info22
  have hcap := hr.room
  have hmax := hr.most
  unfold maxLen at hmax
  have hmm : m ≤ zs.length := by rw [hm]; exact Nat.le_mul_of_pos_right m h1
  have HR := hid hr
  obtain ⟨len, hl⟩ : ∃ n, n = zs.length := ⟨_, rfl⟩
  have HL := hid hl
  have hd1 : (len : Int) % (n : Int) = 0 := by
    rw [hl, hm]; simp
  have hd2 : (len : Int) / (n : Int) = (m : Int) := by
    rw [hl, hm]; simp; exact Int.mul_ediv_cancel _ (by omega)
  have hd3 : len = m * n := by rw [hl]; exact hm
  rw [← hl] at hcap hlen hmm ⊢
  have HM := hid hd3
  clear hr hm hl hd3
  have HW := hid (wordsF_length n o zs m)
  have HG := hid (wordsF_getD n o zs m)
  generalize hws : wordsF n o zs m = ws at *
  clear hws
  go_enter Try.func17, Try.ntmps17
  go_wp2_with (first
    | (go_at_call 33; refine (fault_any _ _ _).mono ?_; rintro e w' ⟨rfl, hw⟩; obtain rfl := hw.symm; clear hw)
    | (go_at_call 30; refine (size_any _ _).mono ?_; rintro e w' ⟨rfl, hw⟩; obtain rfl := hw.symm; clear hw)
    | (at_make; refine wpList_make_full _ rfl _ _ 39 rfl w.heap.size 22 i0 (.int .u64 0) 1 Try.underlying39 hi hz0 hz1 .i64 .i64 _ _ m rfl rfl (by first | rfl | omega) (by first | rfl | omega) ?b2 ?b3 ?b4 ?_))
  case b2 => rw [hz2]; omega
  case b3 => unfold maxLen; omega
  case b4 => exact Nat.le_refl _
  intro w1 hown0 hgrow
  have hb1 : Below w.heap.size w w1 := (Below.refl _ _).grown hgrow (Nat.le_refl _) (fun k hk => by cases hk)
  rw [toList_madeCells_one, show List.replicate m (Value.int .u64 0) = (partL m 0 ws).map (Value.int .u64) from by rw [partL_zero]; simp] at hown0
  clear hgrow
  go_wp2
  go_loopw [32] (fun i wr => ∃ k : Nat, k ≤ m ∧ i = .int .i64 k ∧ wr.ownsRow w.heap.size 22 1 (.slice (some ⟨w.heap.size, 0, none⟩) m m) m ((partL m k ws).map (Value.int .u64)) ∧ Below w.heap.size w wr) (fun i _ => m - (intOf i).toNat)
  case atStart => exact ⟨0, by omega, rfl, hown0, hb1⟩
  case round =>
    obtain ⟨k, hk, rfl, hown, hbel⟩ := hrel
    by_cases hlt : k < m
    · have hle : (k + 1) * n ≤ m * n := Nat.mul_le_mul_right n hlt
      obtain ⟨p, hp⟩ : ∃ p, p = k * n := ⟨_, rfl⟩
      have hp1 : p + n ≤ len := by rw [HM.out, hp]; rw [Nat.add_mul] at hle; omega
      have hpi : (k : Int) * (n : Int) = (p : Int) := by rw [hp]; simp
      have hpj : ((k : Int) + 1) * (n : Int) = (p : Int) + (n : Int) := by rw [hp, Int.add_mul]; simp
      have hgk := HG.out k hlt
      rw [← hp] at hgk
      obtain ⟨bk, off, rfl, _, _⟩ := (HR.out).cells (by rw [← HL.out]; omega)
      have hrp := ((HR.out).later hbel).piece p (by rw [← HL.out]; omega)
      have hrt := hrp.take n
      have hlp : ((zs.drop p).take n).length = n := by rw [List.length_take, List.length_drop, ← HL.out]; omega
      have hnum := number_any (some ⟨bk, off + p, none⟩) (cap - p) ((zs.drop p).take n) o wr hrt (by omega)
      rw [hlp, ← hgk] at hnum
      have HN := hid hnum
      have hcell : ∃ u, wr.cell? ⟨w.heap.size, k, none⟩ = some u := by
        rw [hown.cellAt k (by omega)]
        exact ⟨_, List.getElem?_eq_getElem (by rw [List.length_map, partL_length m k ws HW.out hk]; exact hlt)⟩
      obtain ⟨u, hu⟩ := hcell
      have hfz := hown.frozenAt k
      have HO := hid hown
      have hkm : (k : Int) < (m : Int) := by omega
      have hpc : p ≠ cap := by omega
      have hpc2 : p + n ≤ cap := by omega
      clear hown hnum hrt hrp hlp hle hp
      generalize hgz : ws.getD k 0 = z at *
      have HZ := hid hgz
      clear hgz hgk
      have hst := (HO.out).stored k (.int .u64 (ws.getD k 0))
      rw [partL_set m k ws HW.out hlt] at hst
      rw [HZ.out] at hst
      have HS := hid hst.1
      clear hst HO
      go_wp2_with fail
      refine (HN.out).mono ?_
      rintro e w2 ⟨rfl, q, rfl⟩
      go_wp2
      go_roundw
      case rel => exact ⟨k + 1, by omega, by go_num, HS.out, (bel_drewN hbel q).setCell (Nat.le_refl _) _⟩
      case measure => simp [intOf]; omega
    · have hkn : k = m := by omega
      subst hkn
      rw [partL_full _ _ HW.out] at hown
      go_wp2
      go_ret2
      exact ⟨_, rfl, by rw [HW.out]; exact hown, hbel⟩
end Go.Proofs.Ytphfcklfgmjboaa
