/-
  The contracts of the document's Bits and Pack.
-/
import Derived.Test.YtgecoiakhmnilaaPut
import Derived.Test.YtgecoiakhmnilaaPackMath
import Derived.Test.YtgecoiakhmnilaaRefCodes
namespace Go.Proofs.Ytgecoiakhmnilaa
open Go.RowKit Hf

theorem Try.info4 : (Try.prog.info? 4).map (fun i => (i.zero, i.size, i.bytes)) = some (some (.bool false), 1, 1) := by kernel_rfl

/-- The slice at a reads, in the world w, as these bits. -/
structure Rb (w : World) (a : Option Addr) (cap : Nat) (bs : List Bool) : Prop where
  room : bs.length ≤ cap
  most : cap ≤ maxLen
  cells : 0 < bs.length → ∃ b off, a = some ⟨b, off, none⟩ ∧ b < w.heap.size ∧ ∀ j, j < bs.length → w.cell? ⟨b, off + j, none⟩ = some (.bool (bs.getD j false))
theorem Rb.later {w w' : World} {a : Option Addr} {cap : Nat} {bs : List Bool} (h : Rb w a cap bs) (hb : Below w.heap.size w w') : Rb w' a cap bs := by
  refine ⟨h.room, h.most, fun h0 => ?_⟩
  obtain ⟨b, off, ha, hbw, hc⟩ := h.cells h0
  exact ⟨b, off, ha, Nat.lt_of_lt_of_le hbw hb.size, fun j hj => (hb.cell (p := ⟨b, off + j, none⟩) hbw).trans (hc j hj)⟩
theorem Rb.own {w : World} {base : Nat} {e : TypeId} {v : Value} {bs : List Bool} (h : w.ownsRow base e 1 v bs.length (bs.map Value.bool)) :
    ∃ a cap, v = .slice a bs.length cap ∧ Rb w a cap bs := by
  obtain ⟨hl, hn | ⟨g, cap, cur, rfl, hb, hg, hnc, hcm, hcur, htk⟩⟩ := id h
  · obtain ⟨rfl, h0⟩ := hn
    refine ⟨none, 0, by rw [h0], by omega, by unfold maxLen; omega, fun h1 => by omega⟩
  · refine ⟨some ⟨g, 0, none⟩, cap, rfl, hnc, hcm, fun h0 => ⟨g, 0, rfl, ?_, fun j hj => ?_⟩⟩
    · exact (Array.getElem?_eq_some_iff.1 hg).1
    · rw [Nat.zero_add, h.cellAt j (by omega), List.getElem?_map]
      simp [List.getD, List.getElem?_eq_getElem hj]

set_option maxHeartbeats 800000 in
theorem bits_ref (c n : Nat) (w : World) (hc : c < 65536) (hn : n ≤ 1000) :
    Calls Try.prog 38 #[.int .u16 (c : Int), .int .i64 (n : Int)] w fun e w' => ∃ v, e = .returned v ∧ w'.ownsRow w.heap.size 4 1 v (bitsL c n).length ((bitsL c n).map Value.bool) ∧ Below w.heap.size w w' := by
  obtain ⟨i0, hi, hz0, hz1, hz2⟩ := info_parts Try.info4
  go_enter Try.func38, Try.ntmps38
  go_wp2_with (at_make; refine wpList_make_full _ rfl _ _ 69 rfl w.heap.size 4 i0 (.bool false) 1 Try.underlying69 hi hz0 hz1 .i64 .i64 _ _ n rfl rfl (by first | rfl | omega) (by first | rfl | omega) ?b2 ?b3 ?b4 ?_)
  case b2 => rw [hz2]; omega
  case b3 => unfold maxLen; omega
  case b4 => exact Nat.le_refl _
  intro w1 hown0 hgrow
  have hb1 : Below w.heap.size w w1 := (Below.refl _ _).grown hgrow (Nat.le_refl _) (fun k hk => by cases hk)
  rw [toList_madeCells_one, show List.replicate n (Value.bool false) = (backL c n 0).map Value.bool from by rw [backL_zero]; simp] at hown0
  have HO := hid hown0
  clear hgrow hown0
  go_wp2
  go_loopw [0, 6] (fun x y wr => ∃ j : Nat, j ≤ n ∧ y = .int .i64 ((n : Int) - 1 - (j : Int)) ∧ x = .int .u16 ((c / 2 ^ j : Nat) : Int) ∧ wr.ownsRow w.heap.size 4 1 (.slice (some ⟨w.heap.size, 0, none⟩) n n) n ((backL c n j).map Value.bool) ∧ Below w.heap.size w wr) (fun _ y _ => (intOf y + 1).toNat)
  case atStart => exact ⟨0, by omega, by simp, by simp, HO.out, hb1⟩
  case round =>
    clear HO hb1
    obtain ⟨j, hj, rfl, rfl, hown, hbel⟩ := hrel
    by_cases hlt : j < n
    · obtain ⟨i, hij⟩ : ∃ i : Nat, (n : Int) - 1 - (j : Int) = (i : Int) := ⟨n - 1 - j, by omega⟩
      have HI : Hid (i = n - 1 - j) := by show _ = _; omega
      have hin : i < n := by omega
      have hin' : (i : Int) < (n : Int) := by omega
      have hcell : ∃ u, wr.cell? ⟨w.heap.size, i, none⟩ = some u := by
        rw [hown.cellAt i (by omega)]
        exact ⟨_, List.getElem?_eq_getElem (by rw [List.length_map, backL_length]; exact hin)⟩
      obtain ⟨u, hu⟩ := hcell
      have hfz := hown.frozenAt i
      have hst := hown.stored i (.bool (c / 2 ^ j % 2 == 1))
      rw [← List.map_set, HI.out, backL_set c n j hlt, ← HI.out] at hst
      have hnb := hbel.grown hst.2 hbel.size (fun j hj => by injection hj with hj; omega)
      have HS := hid hst.1
      have HB := hid hnb
      have hle : c / 2 ^ j ≤ c := Nat.div_le_self _ _
      have HD : Hid (c / 2 ^ (j + 1) = c / 2 ^ j / 2) := by show _ = _; rw [Nat.pow_succ, ← Nat.div_div_eq_div_mul]
      have HQ : Hid (Value.int .i64 ((i : Int) - 1) = Value.int .i64 ((n : Int) - 1 - ((j + 1 : Nat) : Int))) := by
        show _ = _
        congr 1
        omega
      rw [hij]
      clear hst hnb hown hbel hij
      generalize c / 2 ^ j = d at *
      have HV : Hid (((d : Int) % 2 == 1) = (d % 2 == 1)) := by show _ = _; rw [Bool.eq_iff_iff, beq_iff_eq, beq_iff_eq]; omega
      have hi0 : (0 : Int) ≤ (i : Int) := by omega
      go_wp2
      rw [HV.out]
      exact ⟨⟨j + 1, by omega, HQ.out, by rw [HD.out]; simp, HS.out, HB.out⟩, by simp [intOf]⟩
    · obtain rfl : j = n := by omega
      rw [backL_full] at hown
      have hneg : ¬ (0 : Int) ≤ (j : Int) - 1 - (j : Int) := by omega
      generalize (j : Int) - 1 - (j : Int) = z at *
      generalize c / 2 ^ j = d at *
      go_wp2
      go_ret
      exact ⟨_, rfl, by rw [bitsL_length]; exact hown, hbel⟩

theorem own_some {w : World} {B e n : Nat} {v : Value} {xs : List Value} (h : w.ownsRow B e 1 v n xs) (hn : 0 < n) : ∃ g cap, v = .slice (some ⟨g, 0, none⟩) n cap ∧ B ≤ g ∧ n ≤ cap := by
  rcases h.2 with ⟨_, h0⟩ | ⟨g, cap, cur, hv, hb, hg, hnc, _⟩
  · omega
  · exact ⟨g, cap, hv, hb, hnc⟩

theorem halve (k : Nat) (hk : k < 8) : 2 ^ (7 - k) ≤ 128 := by
  have := Nat.pow_le_pow_right (show 0 < 2 by decide) (show 7 - k ≤ 7 by omega)
  simpa using this

set_option maxHeartbeats 1600000 in
set_option maxRecDepth 100000 in
theorem pack_ref (a : Option Addr) (cap : Nat) (bs : List Bool) (w : World) (hr : Rb w a cap bs) (hn : bs.length ≤ 100000) :
    Calls Try.prog 39 #[.slice a bs.length cap] w fun e w' => ∃ v, e = .returned v ∧ w'.ownsRow w.heap.size 5 1 v (packN (nB bs bs.length) bs.length).length ((packN (nB bs bs.length) bs.length).map (Value.int .u8)) ∧ Below w.heap.size w w' := by
  obtain ⟨i0, hi, hz0, hz1, hz2⟩ := info_parts Try.info5
  have HR := hid hr
  obtain ⟨len, hl⟩ : ∃ n, n = bs.length := ⟨_, rfl⟩
  have HL := hid hl
  rw [← hl] at hn ⊢
  clear hr hl
  go_enter Try.func39, Try.ntmps39
  go_wp2
  go_loopw [3, 4] (fun v y wr => ∃ k : Nat, k ≤ len ∧ y = .int .i64 k ∧ wr.ownsRow w.heap.size 5 1 v (packN (nB bs k) k).length ((packN (nB bs k) k).map (Value.int .u8)) ∧ Below w.heap.size w wr) (fun _ y _ => len - (intOf y).toNat)
  case atStart => exact ⟨0, by omega, rfl, World.ownsRow_nil _ _ _ _, Below.refl _ _⟩
  case round =>
    obtain ⟨k, hk, rfl, hown, hbel⟩ := hrel
    by_cases hlt : k < len
    · have hkl : (k : Int) < (len : Int) := by omega
      have K1 : Hid (k < bs.length) := by show _ < _; rw [← HL.out]; exact hlt
      obtain ⟨b, off, rfl, hbw, hc⟩ := (HR.out).cells (by rw [← HL.out]; omega)
      have hck := hc k K1.out
      clear hc
      have HNB := hid (show nB bs (k + 1) = nB bs k * 2 + (if bs.getD k false then 1 else 0) from rfl)
      generalize bs.getD k false = x at *
      generalize nB bs k = N at *
      by_cases h8 : k % 8 = 0
      · have h8i : (k : Int) % 8 = 0 := by omega
        have h8b : ((k : Int) % 8 == 0) = true := by simp; omega
        have hnl : (packN N k).length ≤ 100000 := by rw [packN_length]; omega
        go_wp2_with (at_builtin; refine wpList_append_own _ rfl _ _ 44 rfl w.heap.size 5 i0 (.int .u8 0) 1 1 Try.underlying44 hi hz0 hz1 hz2 rfl (by decide) _ _ _ rfl (hown.alloc _) ⟨wr.heap.size, 0, none⟩ 1 1 [.int .u8 0] rfl rfl ?c1 ?c2 ?c3 ?c4 ?c5 ?_)
        case c1 =>
          intro j u hj
          match j, hj with
          | 0, hj => simp at hj; subst hj; simp [Addr.add]
        case c2 => intro u hu; simp at hu; subst hu; rfl
        case c3 => unfold maxLen; omega
        case c4 => omega
        case c5 => have := hbel.size; simp; omega
        intro v1 w1 hown0 hgrow _
        have hB1 : Below w.heap.size w w1 := (hbel.alloc hbel.size _).grown hgrow (by have := hbel.size; simp; omega) (fun j hj => (hown.lt j hj).1)
        have hown1 : w1.ownsRow w.heap.size 5 1 v1 (packN (N * 2) (k + 1)).length ((packN (N * 2) (k + 1)).map (Value.int .u8)) := by
          rw [pack_even_new N k h8]; simpa using hown0
        have HB1 := hid hB1
        have ck1 : w1.cell? ⟨b, off + k, none⟩ = some (.bool x) := (hB1.cell (p := ⟨b, off + k, none⟩) hbw).trans hck
        clear hown hbel hown0 hgrow hB1 hnl hck
        cases x with
        | false =>
          have HX : Hid (nB bs (k + 1) = N * 2) := by show _ = _; rw [HNB.out]; simp
          have HO1 := hid hown1
          clear hown1
          go_wp2
          exact ⟨⟨k + 1, by omega, by go_num, by rw [HX.out]; exact HO1.out, HB1.out⟩, by simp [intOf]; omega⟩
        | true =>
          have HX : Hid (nB bs (k + 1) = N * 2 + 1) := by show _ = _; rw [HNB.out]; simp
          have hpl : (packN (N * 2) (k + 1)).length = k / 8 + 1 := by rw [packN_length]; omega
          obtain ⟨g, cp, rfl, hgw, hgc⟩ := own_some hown1 (by omega)
          rw [hpl] at hown1 hgc
          have cc := hown1.cellAt (k / 8) (by omega)
          rw [List.getElem?_map] at cc
          have cc2 : (packN (N * 2) (k + 1))[k / 8]? = some ((packN (N * 2) (k + 1)).getD (k / 8) 0) := by
            simp [List.getD, List.getElem?_eq_getElem (show k / 8 < (packN (N * 2) (k + 1)).length from by omega)]
          rw [cc2] at cc
          have ff := hown1.frozenAt (k / 8)
          have hst := hown1.stored (k / 8) (.int .u8 ((packN (N * 2) (k + 1)).getD (k / 8) 0 + ((2 ^ (7 - k % 8) : Nat) : Int)))
          rw [← List.map_set, ← pack_odd] at hst
          have hnb := HB1.out.grown hst.2 HB1.out.size (fun j hj => by injection hj with hj; omega)
          have hrg := packN_rng (N * 2) (k + 1) (k / 8)
          have hrg2 := packN_rng (N * 2 + 1) (k + 1) (k / 8)
          have hsum : (packN (N * 2) (k + 1)).getD (k / 8) 0 + ((2 ^ (7 - k % 8) : Nat) : Int) ≤ 255 := by
            rw [pack_odd, igetD_set _ _ _ _ (by omega), if_pos rfl] at hrg2
            exact hrg2.2
          have hpl2 : (packN (N * 2 + 1) (k + 1)).length = k / 8 + 1 := by rw [packN_length]; omega
          have HS := hid hst.1
          have HPL := hid hpl2
          have HB2 := hid hnb
          rw [hpl]
          clear hst hnb hown1 hpl hpl2 cc2 hrg2
          generalize (packN (N * 2) (k + 1)).getD (k / 8) 0 = y at *
          obtain ⟨q, hq⟩ : ∃ q, q = k / 8 := ⟨_, rfl⟩
          have hqi : ((k : Int) / 8) = (q : Int) := by omega
          rw [← hq] at cc ff HS HB2 HPL
          rw [← hq] at hgc
          rw [← hq]
          clear hq
          have h7 : 2 ^ (7 - k % 8) ≤ 128 := halve (k % 8) (by omega)
          go_wp2_with fail
          go_loopw [5, 6] (fun p i W => W = w1 ∧ ∃ m : Nat, m ≤ k % 8 ∧ i = .int .i64 m ∧ p = .int .u8 ((2 ^ (7 - m) : Nat) : Int)) (fun _ i _ => k % 8 - (intOf i).toNat)
          case atStart => exact ⟨rfl, 0, by omega, rfl, rfl⟩
          case round =>
            obtain ⟨rfl, m, hm, rfl, rfl⟩ := hrel
            by_cases hm2 : m < k % 8
            · have hm3 : (m : Int) < (k : Int) % 8 := by omega
              have HP : Hid (2 ^ (7 - (m + 1)) = 2 ^ (7 - m) / 2) := by
                show _ = _
                rw [show 7 - m = (7 - (m + 1)) + 1 from by omega, Nat.pow_succ]; omega
              have hp7 := halve m (by omega)
              generalize 2 ^ (7 - m) = pp at *
              go_wp2
              all_goals first | exact ⟨⟨trivial, m + 1, by omega, by go_num, by rw [HP.out]; simp⟩, by simp [intOf]; omega⟩ | exact ⟨⟨rfl, m + 1, by omega, by go_num, by rw [HP.out]; simp⟩, by simp [intOf]; omega⟩ | exact ⟨⟨m + 1, by omega, by go_num, by rw [HP.out]; simp⟩, by simp [intOf]; omega⟩
            · obtain rfl : m = k % 8 := by omega
              have hm3 : ¬ ((k % 8 : Nat) : Int) < (k : Int) % 8 := by omega
              generalize ((k % 8 : Nat) : Int) = mm at *
              generalize 2 ^ (7 - k % 8) = pp at *
              have hq2 : (q : Int) < (q : Int) + 1 := by omega
              go_wp2
              exact ⟨⟨k + 1, by omega, by go_num, by rw [HX.out, HPL.out]; exact HS.out, HB2.out⟩, by simp [intOf]; omega⟩
      · have h8i : ¬ (k : Int) % 8 = 0 := by omega
        have h8b : ((k : Int) % 8 == 0) = false := by simp; omega
        have hown1 : wr.ownsRow w.heap.size 5 1 u3 (packN (N * 2) (k + 1)).length ((packN (N * 2) (k + 1)).map (Value.int .u8)) := by
          rw [pack_even_old N k h8]; exact hown
        have HB1 := hid hbel
        have ck1 : wr.cell? ⟨b, off + k, none⟩ = some (.bool x) := (hbel.cell (p := ⟨b, off + k, none⟩) hbw).trans hck
        clear hown hbel hck
        cases x with
        | false =>
          have HX : Hid (nB bs (k + 1) = N * 2) := by show _ = _; rw [HNB.out]; simp
          have HO1 := hid hown1
          clear hown1
          go_wp2
          exact ⟨⟨k + 1, by omega, by go_num, by rw [HX.out]; exact HO1.out, HB1.out⟩, by simp [intOf]; omega⟩
        | true =>
          have HX : Hid (nB bs (k + 1) = N * 2 + 1) := by show _ = _; rw [HNB.out]; simp
          have hpl : (packN (N * 2) (k + 1)).length = k / 8 + 1 := by rw [packN_length]; omega
          obtain ⟨g, cp, rfl, hgw, hgc⟩ := own_some hown1 (by omega)
          rw [hpl] at hown1 hgc
          have cc := hown1.cellAt (k / 8) (by omega)
          rw [List.getElem?_map] at cc
          have cc2 : (packN (N * 2) (k + 1))[k / 8]? = some ((packN (N * 2) (k + 1)).getD (k / 8) 0) := by
            simp [List.getD, List.getElem?_eq_getElem (show k / 8 < (packN (N * 2) (k + 1)).length from by omega)]
          rw [cc2] at cc
          have ff := hown1.frozenAt (k / 8)
          have hst := hown1.stored (k / 8) (.int .u8 ((packN (N * 2) (k + 1)).getD (k / 8) 0 + ((2 ^ (7 - k % 8) : Nat) : Int)))
          rw [← List.map_set, ← pack_odd] at hst
          have hnb := HB1.out.grown hst.2 HB1.out.size (fun j hj => by injection hj with hj; omega)
          have hrg := packN_rng (N * 2) (k + 1) (k / 8)
          have hrg2 := packN_rng (N * 2 + 1) (k + 1) (k / 8)
          have hsum : (packN (N * 2) (k + 1)).getD (k / 8) 0 + ((2 ^ (7 - k % 8) : Nat) : Int) ≤ 255 := by
            rw [pack_odd, igetD_set _ _ _ _ (by omega), if_pos rfl] at hrg2
            exact hrg2.2
          have hpl2 : (packN (N * 2 + 1) (k + 1)).length = k / 8 + 1 := by rw [packN_length]; omega
          have HS := hid hst.1
          have HPL := hid hpl2
          have HB2 := hid hnb
          rw [hpl]
          clear hst hnb hown1 hpl hpl2 cc2 hrg2
          generalize (packN (N * 2) (k + 1)).getD (k / 8) 0 = y at *
          obtain ⟨q, hq⟩ : ∃ q, q = k / 8 := ⟨_, rfl⟩
          have hqi : ((k : Int) / 8) = (q : Int) := by omega
          rw [← hq] at cc ff HS HB2 HPL
          rw [← hq] at hgc
          rw [← hq]
          clear hq
          have h7 : 2 ^ (7 - k % 8) ≤ 128 := halve (k % 8) (by omega)
          go_wp2_with fail
          go_loopw [5, 6] (fun p i W => W = wr ∧ ∃ m : Nat, m ≤ k % 8 ∧ i = .int .i64 m ∧ p = .int .u8 ((2 ^ (7 - m) : Nat) : Int)) (fun _ i _ => k % 8 - (intOf i).toNat)
          case atStart => exact ⟨rfl, 0, by omega, rfl, rfl⟩
          case round =>
            obtain ⟨rfl, m, hm, rfl, rfl⟩ := hrel
            by_cases hm2 : m < k % 8
            · have hm3 : (m : Int) < (k : Int) % 8 := by omega
              have HP : Hid (2 ^ (7 - (m + 1)) = 2 ^ (7 - m) / 2) := by
                show _ = _
                rw [show 7 - m = (7 - (m + 1)) + 1 from by omega, Nat.pow_succ]; omega
              have hp7 := halve m (by omega)
              generalize 2 ^ (7 - m) = pp at *
              go_wp2
              all_goals first | exact ⟨⟨trivial, m + 1, by omega, by go_num, by rw [HP.out]; simp⟩, by simp [intOf]; omega⟩ | exact ⟨⟨rfl, m + 1, by omega, by go_num, by rw [HP.out]; simp⟩, by simp [intOf]; omega⟩ | exact ⟨⟨m + 1, by omega, by go_num, by rw [HP.out]; simp⟩, by simp [intOf]; omega⟩
            · obtain rfl : m = k % 8 := by omega
              have hm3 : ¬ ((k % 8 : Nat) : Int) < (k : Int) % 8 := by omega
              generalize ((k % 8 : Nat) : Int) = mm at *
              generalize 2 ^ (7 - k % 8) = pp at *
              have hq2 : (q : Int) < (q : Int) + 1 := by omega
              go_wp2
              exact ⟨⟨k + 1, by omega, by go_num, by rw [HX.out, HPL.out]; exact HS.out, HB2.out⟩, by simp [intOf]; omega⟩
    · obtain rfl : k = len := by omega
      go_wp2
      go_ret
      exact ⟨_, rfl, hown, hbel⟩
end Go.Proofs.Ytgecoiakhmnilaa
