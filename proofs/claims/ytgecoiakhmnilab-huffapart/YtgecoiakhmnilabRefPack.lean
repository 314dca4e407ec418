/-
  The contracts of the document's Bits and Pack.
-/
import Derived.Test.YtgecoiakhmnilabPut
import Derived.Test.YtgecoiakhmnilabPackMath
import Derived.Test.YtgecoiakhmnilabRefCodes
namespace Go.Proofs.Ytgecoiakhmnilab
open Go.RowKit Hf

theorem Try.info4 : (Try.prog.info? 4).map (fun i => (i.zero, i.size, i.bytes)) = some (some (.bool false), 1, 1) := by kernel_rfl

/-- The slice at a reads, in the world w, as these bits. -/
structure Rb (w : World) (a : Option Addr) (cap : Nat) (bs : List Bool) : Prop where
  room : bs.length ≤ cap
  most : cap ≤ maxLen
  cells : 0 < bs.length → ∃ b off, a = some ⟨b, off, none⟩ ∧ b < w.heap.size ∧ ∀ j, j < bs.length → w.cell? ⟨b, off + j, none⟩ = some (.bool (bs.getD j false))
theorem Rb.later {w w' : World} {a : Option Addr} {cap : Nat} {bs : List Bool} (h : Rb w a cap bs) (hb : Below w.heap.size w w') : Rb w' a cap bs := by
  refine ⟨h.room, h.most, fun h0 => ?_⟩
  obtain ⟨b, off, ha, hbw, hc⟩ := h.cells h0
  exact ⟨b, off, ha, Nat.lt_of_lt_of_le hbw hb.size, fun j hj => (hb.cell (p := ⟨b, off + j, none⟩) hbw).trans (hc j hj)⟩
theorem Rb.own {w : World} {base : Nat} {e : TypeId} {v : Value} {bs : List Bool} (h : w.ownsRow base e 1 v bs.length (bs.map Value.bool)) :
    ∃ a cap, v = .slice a bs.length cap ∧ Rb w a cap bs := by
  obtain ⟨hl, hn | ⟨g, cap, cur, rfl, hb, hg, hnc, hcm, hcur, htk⟩⟩ := id h
  · obtain ⟨rfl, h0⟩ := hn
    refine ⟨none, 0, by rw [h0], by omega, by unfold maxLen; omega, fun h1 => by omega⟩
  · refine ⟨some ⟨g, 0, none⟩, cap, rfl, hnc, hcm, fun h0 => ⟨g, 0, rfl, ?_, fun j hj => ?_⟩⟩
    · exact (Array.getElem?_eq_some_iff.1 hg).1
    · rw [Nat.zero_add, h.cellAt j (by omega), List.getElem?_map]
      simp [List.getD, List.getElem?_eq_getElem hj]

set_option maxHeartbeats 800000 in
theorem bits_ref (c n : Nat) (w : World) (hc : c < 65536) (hn : n ≤ 1000) :
    Calls Try.prog 14 #[.int .u16 (c : Int), .int .i64 (n : Int)] w fun e w' => ∃ v, e = .returned v ∧ w'.ownsRow w.heap.size 4 1 v (bitsL c n).length ((bitsL c n).map Value.bool) ∧ Below w.heap.size w w' := by
  obtain ⟨i0, hi, hz0, hz1, hz2⟩ := info_parts Try.info4
  go_enter Try.func14, Try.ntmps14
  go_wp2_with (at_make; refine wpList_make_full _ rfl _ _ 37 rfl w.heap.size 4 i0 (.bool false) 1 Try.underlying37 hi hz0 hz1 .i64 .i64 _ _ n rfl rfl (by first | rfl | omega) (by first | rfl | omega) ?b2 ?b3 ?b4 ?_)
  case b2 => rw [hz2]; omega
  case b3 => unfold maxLen; omega
  case b4 => exact Nat.le_refl _
  intro w1 hown0 hgrow
  have hb1 : Below w.heap.size w w1 := (Below.refl _ _).grown hgrow (Nat.le_refl _) (fun k hk => by cases hk)
  rw [toList_madeCells_one, show List.replicate n (Value.bool false) = (backL c n 0).map Value.bool from by rw [backL_zero]; simp] at hown0
  have HO := hid hown0
  clear hgrow hown0
  go_wp2
  go_loopw [0, 6] (fun x y wr => ∃ j : Nat, j ≤ n ∧ y = .int .i64 ((n : Int) - 1 - (j : Int)) ∧ x = .int .u16 ((c / 2 ^ j : Nat) : Int) ∧ wr.ownsRow w.heap.size 4 1 (.slice (some ⟨w.heap.size, 0, none⟩) n n) n ((backL c n j).map Value.bool) ∧ Below w.heap.size w wr) (fun _ y _ => (intOf y + 1).toNat)
  case atStart => exact ⟨0, by omega, by simp, by simp, HO.out, hb1⟩
  case round =>
    clear HO hb1
    obtain ⟨j, hj, rfl, rfl, hown, hbel⟩ := hrel
    by_cases hlt : j < n
    · obtain ⟨i, hij⟩ : ∃ i : Nat, (n : Int) - 1 - (j : Int) = (i : Int) := ⟨n - 1 - j, by omega⟩
      have HI : Hid (i = n - 1 - j) := by show _ = _; omega
      have hin : i < n := by omega
      have hin' : (i : Int) < (n : Int) := by omega
      have hcell : ∃ u, wr.cell? ⟨w.heap.size, i, none⟩ = some u := by
        rw [hown.cellAt i (by omega)]
        exact ⟨_, List.getElem?_eq_getElem (by rw [List.length_map, backL_length]; exact hin)⟩
      obtain ⟨u, hu⟩ := hcell
      have hfz := hown.frozenAt i
      have hst := hown.stored i (.bool (c / 2 ^ j % 2 == 1))
      rw [← List.map_set, HI.out, backL_set c n j hlt, ← HI.out] at hst
      have hnb := hbel.grown hst.2 hbel.size (fun j hj => by injection hj with hj; omega)
      have HS := hid hst.1
      have HB := hid hnb
      have hle : c / 2 ^ j ≤ c := Nat.div_le_self _ _
      have HD : Hid (c / 2 ^ (j + 1) = c / 2 ^ j / 2) := by show _ = _; rw [Nat.pow_succ, ← Nat.div_div_eq_div_mul]
      have HQ : Hid (Value.int .i64 ((i : Int) - 1) = Value.int .i64 ((n : Int) - 1 - ((j + 1 : Nat) : Int))) := by
        show _ = _
        congr 1
        omega
      rw [hij]
      clear hst hnb hown hbel hij
      generalize c / 2 ^ j = d at *
      have HV : Hid (((d : Int) % 2 == 1) = (d % 2 == 1)) := by show _ = _; rw [Bool.eq_iff_iff, beq_iff_eq, beq_iff_eq]; omega
      have hi0 : (0 : Int) ≤ (i : Int) := by omega
      go_wp2
      rw [HV.out]
      exact ⟨⟨j + 1, by omega, HQ.out, by rw [HD.out]; simp, HS.out, HB.out⟩, by simp [intOf]⟩
    · obtain rfl : j = n := by omega
      rw [backL_full] at hown
      have hneg : ¬ (0 : Int) ≤ (j : Int) - 1 - (j : Int) := by omega
      generalize (j : Int) - 1 - (j : Int) = z at *
      generalize c / 2 ^ j = d at *
      go_wp2
      go_ret
      exact ⟨_, rfl, by rw [bitsL_length]; exact hown, hbel⟩

theorem own_some {w : World} {B e n : Nat} {v : Value} {xs : List Value} (h : w.ownsRow B e 1 v n xs) (hn : 0 < n) : ∃ g cap, v = .slice (some ⟨g, 0, none⟩) n cap ∧ B ≤ g ∧ n ≤ cap := by
  rcases h.2 with ⟨_, h0⟩ | ⟨g, cap, cur, hv, hb, hg, hnc, _⟩
  · omega
  · exact ⟨g, cap, hv, hb, hnc⟩

theorem halve (k : Nat) (hk : k < 8) : 2 ^ (7 - k) ≤ 128 := by
  have := Nat.pow_le_pow_right (show 0 < 2 by decide) (show 7 - k ≤ 7 by omega)
  simpa using this

end Go.Proofs.Ytgecoiakhmnilab
