/-
  What RefPack lacks: the document's contracts.
-/
import Derived.Test.YtelnefngkdfcoaaGreatPart16
import Derived.Test.YtelnefngkdfcoaaGreatPart38
import Derived.Test.YtelnefngkdfcoaaGreatPart05
import Derived.Test.YtelnefngkdfcoaaGreatPart08
namespace Go.Proofs.YtelnefngkdfcoaaGreat
open Go.RowKit Hf

set_option maxHeartbeats 3200000 in
set_option maxRecDepth 100000 in
theorem bits_ref (c n : Nat) (w : World) (hc : c < 65536) (hn : n ≤ 1000) :
    Calls Tryz.prog 35 #[.int .u16 (c : Int), .int .i64 (n : Int)] w fun e w' => ∃ v, e = .returned v ∧ w'.ownsRow w.heap.size 4 1 v (bitsL c n).length ((bitsL c n).map Value.bool) ∧ Below w.heap.size w w' := by
  obtain ⟨i0, hi, hz0, hz1, hz2⟩ := info_parts Tryz.info4
  go_enter Tryz.func35, Tryz.ntmps35
  go_wp2_with (at_make; refine wpList_make_full _ rfl _ _ 72 rfl w.heap.size 4 i0 (.bool false) 1 Tryz.underlying72 hi hz0 hz1 .i64 .i64 _ _ n rfl rfl (by first | rfl | omega) (by first | rfl | omega) ?b2 ?b3 ?b4 ?_)
  case b2 => rw [hz2]; omega
  case b3 => unfold maxLen; omega
  case b4 => exact Nat.le_refl _
  intro w1 hown0 hgrow
  have hb1 : Below w.heap.size w w1 := (Below.refl _ _).grown hgrow (Nat.le_refl _) (fun k hk => by cases hk)
  rw [toList_madeCells_one, show List.replicate n (Value.bool false) = (backL c n 0).map Value.bool from by rw [backL_zero]; simp] at hown0
  have HO := hid hown0
  clear hgrow hown0
  go_wp2
  go_loopw [0, 6] (fun x y wr => ∃ j : Nat, j ≤ n ∧ y = .int .i64 ((n : Int) - 1 - (j : Int)) ∧ x = .int .u16 ((c / 2 ^ j : Nat) : Int) ∧ wr.ownsRow w.heap.size 4 1 (.slice (some ⟨w.heap.size, 0, none⟩) n n) n ((backL c n j).map Value.bool) ∧ Below w.heap.size w wr) (fun _ y _ => (intOf y + 1).toNat)
  case atStart => exact ⟨0, by omega, by simp, by simp, HO.out, hb1⟩
  case round =>
    clear HO hb1
    obtain ⟨j, hj, rfl, rfl, hown, hbel⟩ := hrel
    by_cases hlt : j < n
    · obtain ⟨i, hij⟩ : ∃ i : Nat, (n : Int) - 1 - (j : Int) = (i : Int) := ⟨n - 1 - j, by omega⟩
      have HI : Hid (i = n - 1 - j) := by show _ = _; omega
      have hin : i < n := by omega
      have hin' : (i : Int) < (n : Int) := by omega
      have hcell : ∃ u, wr.cell? ⟨w.heap.size, i, none⟩ = some u := by
        rw [hown.cellAt i (by omega)]
        exact ⟨_, List.getElem?_eq_getElem (by rw [List.length_map, backL_length]; exact hin)⟩
      obtain ⟨u, hu⟩ := hcell
      have hfz := hown.frozenAt i
      have hst := hown.stored i (.bool (c / 2 ^ j % 2 == 1))
      rw [← List.map_set, HI.out, backL_set c n j hlt, ← HI.out] at hst
      have hnb := hbel.grown hst.2 hbel.size (fun j hj => by injection hj with hj; omega)
      have HS := hid hst.1
      have HB := hid hnb
      have hle : c / 2 ^ j ≤ c := Nat.div_le_self _ _
      have HD : Hid (c / 2 ^ (j + 1) = c / 2 ^ j / 2) := by show _ = _; rw [Nat.pow_succ, ← Nat.div_div_eq_div_mul]
      have HQ : Hid (Value.int .i64 ((i : Int) - 1) = Value.int .i64 ((n : Int) - 1 - ((j + 1 : Nat) : Int))) := by
        show _ = _
        congr 1
        omega
      rw [hij]
      clear hst hnb hown hbel hij
      generalize c / 2 ^ j = d at *
      have HV : Hid (((d : Int) % 2 == 1) = (d % 2 == 1)) := by show _ = _; rw [Bool.eq_iff_iff, beq_iff_eq, beq_iff_eq]; omega
      have hi0 : (0 : Int) ≤ (i : Int) := by omega
      go_wp2
      rw [HV.out]
      exact ⟨⟨j + 1, by omega, HQ.out, by rw [HD.out]; simp, HS.out, HB.out⟩, by simp [intOf]⟩
    · obtain rfl : j = n := by omega
      rw [backL_full] at hown
      have hneg : ¬ (0 : Int) ≤ (j : Int) - 1 - (j : Int) := by omega
      generalize (j : Int) - 1 - (j : Int) = z at *
      generalize c / 2 ^ j = d at *
      go_wp2
      go_ret
      exact ⟨_, rfl, by rw [bitsL_length]; exact hown, hbel⟩

set_option maxHeartbeats 1600000 in
set_option maxRecDepth 100000 in
theorem pack_ref (a : Option Addr) (cap : Nat) (bs : List Bool) (w : World) (hr : Rb w a cap bs) (hn : bs.length ≤ 1000000) :
    Calls Tryz.prog 37 #[.slice a bs.length cap] w fun e w' => ∃ v, e = .returned v ∧ w'.ownsRow w.heap.size 5 1 v (packN (nB bs bs.length) bs.length).length ((packN (nB bs bs.length) bs.length).map (Value.int .u8)) ∧ Below w.heap.size w w' := by
  obtain ⟨i0, hi, hz0, hz1, hz2⟩ := info_parts Tryz.info5
  have HR := hid hr
  obtain ⟨len, hl⟩ : ∃ n, n = bs.length := ⟨_, rfl⟩
  have HL := hid hl
  rw [← hl] at hn ⊢
  clear hr hl
  go_enter Tryz.func37, Tryz.ntmps37
  go_wp2
  go_loopw [3, 4] (fun v y wr => ∃ k : Nat, k ≤ len ∧ y = .int .i64 k ∧ wr.ownsRow w.heap.size 5 1 v (packN (nB bs k) k).length ((packN (nB bs k) k).map (Value.int .u8)) ∧ Below w.heap.size w wr) (fun _ y _ => len - (intOf y).toNat)
  case atStart => exact ⟨0, by omega, rfl, World.ownsRow_nil _ _ _ _, Below.refl _ _⟩
  case round =>
    obtain ⟨k, hk, rfl, hown, hbel⟩ := hrel
    by_cases hlt : k < len
    · have hkl : (k : Int) < (len : Int) := by omega
      have K1 : Hid (k < bs.length) := by show _ < _; rw [← HL.out]; exact hlt
      obtain ⟨b, off, rfl, hbw, hc⟩ := (HR.out).cells (by rw [← HL.out]; omega)
      have hck := hc k K1.out
      clear hc
      have HNB := hid (show nB bs (k + 1) = nB bs k * 2 + (if bs.getD k false then 1 else 0) from rfl)
      generalize bs.getD k false = x at *
      generalize nB bs k = N at *
      by_cases h8 : k % 8 = 0
      · have h8i : (k : Int) % 8 = 0 := by omega
        have h8b : ((k : Int) % 8 == 0) = true := by simp; omega
        have hnl : (packN N k).length ≤ 1000000 := by rw [packN_length]; omega
        go_wp2_with (at_builtin; refine wpList_append_own _ rfl _ _ 24 rfl w.heap.size 5 i0 (.int .u8 0) 1 1 Tryz.underlying24 hi hz0 hz1 hz2 rfl (by decide) _ _ _ rfl (hown.alloc _) ⟨wr.heap.size, 0, none⟩ 1 1 [.int .u8 0] rfl rfl ?c1 ?c2 ?c3 ?c4 ?c5 ?_)
        case c1 =>
          intro j u hj
          match j, hj with
          | 0, hj => simp at hj; subst hj; simp [Addr.add]
        case c2 => intro u hu; simp at hu; subst hu; rfl
        case c3 => unfold maxLen; omega
        case c4 => omega
        case c5 => have := hbel.size; simp; omega
        intro v1 w1 hown0 hgrow _
        have hB1 : Below w.heap.size w w1 := (hbel.alloc hbel.size _).grown hgrow (by have := hbel.size; simp; omega) (fun j hj => (hown.lt j hj).1)
        have hown1 : w1.ownsRow w.heap.size 5 1 v1 (packN (N * 2) (k + 1)).length ((packN (N * 2) (k + 1)).map (Value.int .u8)) := by
          rw [pack_even_new N k h8]; simpa using hown0
        have HB1 := hid hB1
        have ck1 : w1.cell? ⟨b, off + k, none⟩ = some (.bool x) := (hB1.cell (p := ⟨b, off + k, none⟩) hbw).trans hck
        clear hown hbel hown0 hgrow hB1 hnl hck
        cases x with
        | false =>
          have HX : Hid (nB bs (k + 1) = N * 2) := by show _ = _; rw [HNB.out]; simp
          have HO1 := hid hown1
          clear hown1
          go_wp2
          exact ⟨⟨k + 1, by omega, by go_num, by rw [HX.out]; exact HO1.out, HB1.out⟩, by simp [intOf]; omega⟩
        | true =>
          have HX : Hid (nB bs (k + 1) = N * 2 + 1) := by show _ = _; rw [HNB.out]; simp
          have hpl : (packN (N * 2) (k + 1)).length = k / 8 + 1 := by rw [packN_length]; omega
          obtain ⟨g, cp, rfl, hgw, hgc⟩ := own_some hown1 (by omega)
          rw [hpl] at hown1 hgc
          have cc := hown1.cellAt (k / 8) (by omega)
          rw [List.getElem?_map] at cc
          have cc2 : (packN (N * 2) (k + 1))[k / 8]? = some ((packN (N * 2) (k + 1)).getD (k / 8) 0) := by
            simp [List.getD, List.getElem?_eq_getElem (show k / 8 < (packN (N * 2) (k + 1)).length from by omega)]
          rw [cc2] at cc
          have ff := hown1.frozenAt (k / 8)
          have hst := hown1.stored (k / 8) (.int .u8 ((packN (N * 2) (k + 1)).getD (k / 8) 0 + ((2 ^ (7 - k % 8) : Nat) : Int)))
          rw [← List.map_set, ← pack_odd] at hst
          have hnb := HB1.out.grown hst.2 HB1.out.size (fun j hj => by injection hj with hj; omega)
          have hrg := packN_rng (N * 2) (k + 1) (k / 8)
          have hrg2 := packN_rng (N * 2 + 1) (k + 1) (k / 8)
          have hsum : (packN (N * 2) (k + 1)).getD (k / 8) 0 + ((2 ^ (7 - k % 8) : Nat) : Int) ≤ 255 := by
            rw [pack_odd, igetD_set _ _ _ _ (by omega), if_pos rfl] at hrg2
            exact hrg2.2
          have hpl2 : (packN (N * 2 + 1) (k + 1)).length = k / 8 + 1 := by rw [packN_length]; omega
          have HS := hid hst.1
          have HPL := hid hpl2
          have HB2 := hid hnb
          rw [hpl]
          clear hst hnb hown1 hpl hpl2 cc2 hrg2
          generalize (packN (N * 2) (k + 1)).getD (k / 8) 0 = y at *
          obtain ⟨q, hq⟩ : ∃ q, q = k / 8 := ⟨_, rfl⟩
          have hqi : ((k : Int) / 8) = (q : Int) := by omega
          rw [← hq] at cc ff HS HB2 HPL
          rw [← hq] at hgc
          rw [← hq]
          clear hq
          have h7 : 2 ^ (7 - k % 8) ≤ 128 := halve (k % 8) (by omega)
          go_wp2_with fail
          go_loopw [5, 6] (fun p i W => W = w1 ∧ ∃ m : Nat, m ≤ k % 8 ∧ i = .int .i64 m ∧ p = .int .u8 ((2 ^ (7 - m) : Nat) : Int)) (fun _ i _ => k % 8 - (intOf i).toNat)
          case atStart => exact ⟨rfl, 0, by omega, rfl, rfl⟩
          case round =>
            obtain ⟨rfl, m, hm, rfl, rfl⟩ := hrel
            by_cases hm2 : m < k % 8
            · have hm3 : (m : Int) < (k : Int) % 8 := by omega
              have HP : Hid (2 ^ (7 - (m + 1)) = 2 ^ (7 - m) / 2) := by
                show _ = _
                rw [show 7 - m = (7 - (m + 1)) + 1 from by omega, Nat.pow_succ]; omega
              have hp7 := halve m (by omega)
              generalize 2 ^ (7 - m) = pp at *
              go_wp2
              all_goals first | exact ⟨⟨trivial, m + 1, by omega, by go_num, by rw [HP.out]; simp⟩, by simp [intOf]; omega⟩ | exact ⟨⟨rfl, m + 1, by omega, by go_num, by rw [HP.out]; simp⟩, by simp [intOf]; omega⟩ | exact ⟨⟨m + 1, by omega, by go_num, by rw [HP.out]; simp⟩, by simp [intOf]; omega⟩
            · obtain rfl : m = k % 8 := by omega
              have hm3 : ¬ ((k % 8 : Nat) : Int) < (k : Int) % 8 := by omega
              generalize ((k % 8 : Nat) : Int) = mm at *
              generalize 2 ^ (7 - k % 8) = pp at *
              have hq2 : (q : Int) < (q : Int) + 1 := by omega
              go_wp2
              exact ⟨⟨k + 1, by omega, by go_num, by rw [HX.out, HPL.out]; exact HS.out, HB2.out⟩, by simp [intOf]; omega⟩
      · have h8i : ¬ (k : Int) % 8 = 0 := by omega
        have h8b : ((k : Int) % 8 == 0) = false := by simp; omega
        have hown1 : wr.ownsRow w.heap.size 5 1 u3 (packN (N * 2) (k + 1)).length ((packN (N * 2) (k + 1)).map (Value.int .u8)) := by
          rw [pack_even_old N k h8]; exact hown
        have HB1 := hid hbel
        have ck1 : wr.cell? ⟨b, off + k, none⟩ = some (.bool x) := (hbel.cell (p := ⟨b, off + k, none⟩) hbw).trans hck
        clear hown hbel hck
        cases x with
        | false =>
          have HX : Hid (nB bs (k + 1) = N * 2) := by show _ = _; rw [HNB.out]; simp
          have HO1 := hid hown1
          clear hown1
          go_wp2
          exact ⟨⟨k + 1, by omega, by go_num, by rw [HX.out]; exact HO1.out, HB1.out⟩, by simp [intOf]; omega⟩
        | true =>
          have HX : Hid (nB bs (k + 1) = N * 2 + 1) := by show _ = _; rw [HNB.out]; simp
          have hpl : (packN (N * 2) (k + 1)).length = k / 8 + 1 := by rw [packN_length]; omega
          obtain ⟨g, cp, rfl, hgw, hgc⟩ := own_some hown1 (by omega)
          rw [hpl] at hown1 hgc
          have cc := hown1.cellAt (k / 8) (by omega)
          rw [List.getElem?_map] at cc
          have cc2 : (packN (N * 2) (k + 1))[k / 8]? = some ((packN (N * 2) (k + 1)).getD (k / 8) 0) := by
            simp [List.getD, List.getElem?_eq_getElem (show k / 8 < (packN (N * 2) (k + 1)).length from by omega)]
          rw [cc2] at cc
          have ff := hown1.frozenAt (k / 8)
          have hst := hown1.stored (k / 8) (.int .u8 ((packN (N * 2) (k + 1)).getD (k / 8) 0 + ((2 ^ (7 - k % 8) : Nat) : Int)))
          rw [← List.map_set, ← pack_odd] at hst
          have hnb := HB1.out.grown hst.2 HB1.out.size (fun j hj => by injection hj with hj; omega)
          have hrg := packN_rng (N * 2) (k + 1) (k / 8)
          have hrg2 := packN_rng (N * 2 + 1) (k + 1) (k / 8)
          have hsum : (packN (N * 2) (k + 1)).getD (k / 8) 0 + ((2 ^ (7 - k % 8) : Nat) : Int) ≤ 255 := by
            rw [pack_odd, igetD_set _ _ _ _ (by omega), if_pos rfl] at hrg2
            exact hrg2.2
          have hpl2 : (packN (N * 2 + 1) (k + 1)).length = k / 8 + 1 := by rw [packN_length]; omega
          have HS := hid hst.1
          have HPL := hid hpl2
          have HB2 := hid hnb
          rw [hpl]
          clear hst hnb hown1 hpl hpl2 cc2 hrg2
          generalize (packN (N * 2) (k + 1)).getD (k / 8) 0 = y at *
          obtain ⟨q, hq⟩ : ∃ q, q = k / 8 := ⟨_, rfl⟩
          have hqi : ((k : Int) / 8) = (q : Int) := by omega
          rw [← hq] at cc ff HS HB2 HPL
          rw [← hq] at hgc
          rw [← hq]
          clear hq
          have h7 : 2 ^ (7 - k % 8) ≤ 128 := halve (k % 8) (by omega)
          go_wp2_with fail
          go_loopw [5, 6] (fun p i W => W = wr ∧ ∃ m : Nat, m ≤ k % 8 ∧ i = .int .i64 m ∧ p = .int .u8 ((2 ^ (7 - m) : Nat) : Int)) (fun _ i _ => k % 8 - (intOf i).toNat)
          case atStart => exact ⟨rfl, 0, by omega, rfl, rfl⟩
          case round =>
            obtain ⟨rfl, m, hm, rfl, rfl⟩ := hrel
            by_cases hm2 : m < k % 8
            · have hm3 : (m : Int) < (k : Int) % 8 := by omega
              have HP : Hid (2 ^ (7 - (m + 1)) = 2 ^ (7 - m) / 2) := by
                show _ = _
                rw [show 7 - m = (7 - (m + 1)) + 1 from by omega, Nat.pow_succ]; omega
              have hp7 := halve m (by omega)
              generalize 2 ^ (7 - m) = pp at *
              go_wp2
              all_goals first | exact ⟨⟨trivial, m + 1, by omega, by go_num, by rw [HP.out]; simp⟩, by simp [intOf]; omega⟩ | exact ⟨⟨rfl, m + 1, by omega, by go_num, by rw [HP.out]; simp⟩, by simp [intOf]; omega⟩ | exact ⟨⟨m + 1, by omega, by go_num, by rw [HP.out]; simp⟩, by simp [intOf]; omega⟩
            · obtain rfl : m = k % 8 := by omega
              have hm3 : ¬ ((k % 8 : Nat) : Int) < (k : Int) % 8 := by omega
              generalize ((k % 8 : Nat) : Int) = mm at *
              generalize 2 ^ (7 - k % 8) = pp at *
              have hq2 : (q : Int) < (q : Int) + 1 := by omega
              go_wp2
              exact ⟨⟨k + 1, by omega, by go_num, by rw [HX.out, HPL.out]; exact HS.out, HB2.out⟩, by simp [intOf]; omega⟩
    · obtain rfl : k = len := by omega
      go_wp2
      go_ret
      exact ⟨_, rfl, hown, hbel⟩
end Go.Proofs.YtelnefngkdfcoaaGreat
/-
  What Com lacks: the document's contracts.
-/
namespace Go.Proofs.YtelnefngkdfcoaaGreat
open Go.RowKit Lz

set_option maxHeartbeats 1600000 in
set_option maxRecDepth 100000 in
theorem reach_ref (bs : List Int) (q d g off cap : Nat) (w : World) (hq : q < bs.length) (hL : bs.length ≤ 65536) (hd1 : 1 ≤ d) (hd2 : d ≤ q)
    (hc : ∀ j, j < bs.length → w.cell? ⟨g, off + j, none⟩ = some (.int .u8 (bs.getD j 0))) :
    Calls Tryz.prog 105 #[.slice (some ⟨g, off, none⟩) bs.length cap, .int .i64 (q : Int), .int .i64 (d : Int)] w fun e w' => e = .returned (.int .i64 ((com bs (q - d) q (most bs q) : Nat) : Int)) ∧ ∃ m, w' = w.drewN m := by

  have HC := hid hc
  obtain ⟨L, hLe⟩ : ∃ L, L = bs.length := ⟨_, rfl⟩
  have HK : Hid (most bs q = min (L - q) 258) := by rw [hLe]; rfl
  have HL := hid hLe
  rw [← hLe] at hq hL ⊢
  clear hc hLe
  go_enter Tryz.func105, Tryz.ntmps105
  go_wp2
  go_loopw [7] (fun y wr => ∃ n m : Nat, n ≤ 258 ∧ q + n ≤ L ∧ y = .int .i64 n ∧ Hid (wr = w.drewN m) ∧ Hid (∀ j, j < n → bs.getD (q - d + j) 0 = bs.getD (q + j) 0)) (fun y _ => 258 - (intOf y).toNat)
  case atStart => exact ⟨0, 0, by omega, by omega, rfl, rfl, fun j hj => absurd hj (by omega)⟩
  case round =>
    obtain ⟨n, m, hn, hn2, rfl, HW, HS⟩ := hrel
    by_cases hlt : n < 258
    · have hnz : (n : Int) < 258 := by omega
      have hd : decide ((n : Int) < 258) = true := by simpa using hnz
      by_cases hlt2 : q + n < L
      · have hnz2 : (q : Int) + (n : Int) < (L : Int) := by omega
        have hd2 : decide ((q : Int) + (n : Int) < (L : Int)) = true := by simpa using hnz2
        obtain ⟨r, hr⟩ : ∃ r, r = q + n - d := ⟨_, rfl⟩
        have HR : Hid (r = q - d + n) := by show _ = _; omega
        have hrz : (q : Int) + (n : Int) - (d : Int) = (r : Int) := by omega
        have hr0 : r < L := by omega
        obtain ⟨s, hs⟩ : ∃ s, s = q + n := ⟨_, rfl⟩
        have HSq := hid hs
        have hsz : (q : Int) + (n : Int) = (s : Int) := by omega
        have hs0 : s < L := by omega
        have c1 : wr.cell? ⟨g, off + s, none⟩ = some (.int .u8 (bs.getD s 0)) := by rw [HW.out]; exact HC.out s (by rw [← HL.out]; exact hs0)
        have c2 : wr.cell? ⟨g, off + r, none⟩ = some (.int .u8 (bs.getD r 0)) := by rw [HW.out]; exact HC.out r (by rw [← HL.out]; exact hr0)
        have hsr : (s : Int) - (d : Int) = (r : Int) := by omega
        have hsL : (s : Int) < (L : Int) := by omega
        have hdL : decide ((s : Int) < (L : Int)) = true := by simpa using hsL
        clear hr hs
        by_cases he : bs.getD r 0 = bs.getD s 0
        · have HS2 : Hid (∀ j, j < n + 1 → bs.getD (q - d + j) 0 = bs.getD (q + j) 0) := fun j hj => by
            by_cases e : j = n
            · subst e; rw [← HR.out, ← HSq.out]; exact he
            · exact HS.out j (by omega)
          rw [he] at c2
          clear he
          generalize bs.getD s 0 = z at *
          have hz : (z == z) = true := by simp
          go_wp2_with fail
          go_big_quiet (fail)
          go_wp2
          exact ⟨⟨n + 1, _, by omega, by omega, by go_num, hid (by rw [HW.out, drewN_drewN]), HS2⟩, by simp [intOf]; omega⟩
        · have HCC : Hid (com bs (q - d) q (most bs q) = n) := by
            refine com_eq _ _ _ _ _ (by rw [HK.out]; omega) HS.out (.inr ?_)
            rw [← HR.out, ← HSq.out]; exact he
          have hz : (bs.getD s 0 == bs.getD r 0) = false := by simpa using fun h => he h.symm
          clear he
          generalize bs.getD s 0 = z at *
          generalize bs.getD r 0 = y at *
          go_wp2_with fail
          go_big_quiet (fail)
          go_wp2
          go_ret
          exact ⟨by rw [HCC.out]; rfl, _, by rw [HW.out, drewN_drewN]⟩
      · have HCC : Hid (com bs (q - d) q (most bs q) = n) := com_eq _ _ _ _ _ (by rw [HK.out]; omega) HS.out (.inl (by rw [HK.out]; omega))
        have hnz2 : ¬ (q : Int) + (n : Int) < (L : Int) := by omega
        have hd2 : decide ((q : Int) + (n : Int) < (L : Int)) = false := by simpa using hnz2
        go_wp2_with fail
        go_big_quiet (fail)
        go_wp2
        go_ret
        exact ⟨by rw [HCC.out]; rfl, _, by rw [HW.out, drewN_drewN]⟩
    · have HCC : Hid (com bs (q - d) q (most bs q) = n) := com_eq _ _ _ _ _ (by rw [HK.out]; omega) HS.out (.inl (by rw [HK.out]; omega))
      have hnz : ¬ (n : Int) < 258 := by omega
      have hd : decide ((n : Int) < 258) = false := by simpa using hnz
      go_wp2_with fail
      go_big_quiet (fail)
      go_wp2
      go_ret
      exact ⟨by rw [HCC.out]; rfl, _, by rw [HW.out, drewN_drewN]⟩
end Go.Proofs.YtelnefngkdfcoaaGreat
/-
  What RefLong lacks: the document's contracts.
-/
namespace Go.Proofs.YtelnefngkdfcoaaGreat
open Go.RowKit Lz

set_option maxHeartbeats 400000 in
set_option maxRecDepth 100000 in
theorem longest_ref (bs : List Int) (q g off cap : Nat) (w : World) (hq : q < bs.length) (hL : bs.length ≤ 65536) (hg : g < w.heap.size)
    (hc : ∀ j, j < bs.length → w.cell? ⟨g, off + j, none⟩ = some (.int .u8 (bs.getD j 0))) :
    Calls Tryz.prog 80 #[.slice (some ⟨g, off, none⟩) bs.length cap, .int .i64 (q : Int)] w fun e w' => e = .returned (.agg (tokV (longT bs q))) ∧ Below w.heap.size w w' := by
  have HR : Hid (∀ d, 1 ≤ d → d ≤ q → ∀ W, Below w.heap.size w W → Calls Tryz.prog 105 #[.slice (some ⟨g, off, none⟩) bs.length cap, .int .i64 (q : Int), .int .i64 (d : Int)] W fun e w' => e = .returned (.int .i64 ((com bs (q - d) q (most bs q) : Nat) : Int)) ∧ ∃ m, w' = W.drewN m) :=
    fun d h1 h2 W hW => reach_ref bs q d g off cap W hq hL h1 h2 (fun j hj => (hW.cell (p := ⟨g, off + j, none⟩) hg).trans (hc j hj))
  have cq := hc q hq
  have HZ : Hid (∀ s : Nat × Nat, tokOf bs q s = if s.1 = 0 then (0, 1, bs.getD q 0) else (s.1, s.2, 0)) := fun _ => rfl
  generalize bs.getD q 0 = z at *
  obtain ⟨L, hLe⟩ : ∃ L, L = bs.length := ⟨_, rfl⟩
  have HL := hid hLe
  have HM : Hid (most bs q ≤ 258) := by show _ ≤ _; unfold most; omega
  have HLT : Hid (longT bs q = tokOf bs q (best bs q (most bs q) (aheadL q))) := rfl
  rw [← hLe] at hq hL ⊢
  rw [← hLe] at HR
  clear hc hLe
  go_enter Tryz.func80, Tryz.ntmps80
  go_wp2_with fail
  go_loopw [6] (fun y wr => ∃ e d : Nat, Hid (e = d + 1) ∧ e ≤ q + 1 ∧ e ≤ 4097 ∧ y = .int .i64 (e : Int) ∧ Below w.heap.size w wr ∧ Tb wr w.heap.size (0, 0, 0) ∧ Tb wr (w.heap.size + 1) (tokOf bs q (best bs q (most bs q) ((aheadL q).take d)))) (fun y _ => q + 1 - (intOf y).toNat)
  case atStart =>
    refine ⟨1, 0, rfl, by omega, by omega, rfl, Bn (bel_allocZ _ _) (bel_allocZ _ _), heap_old _ _ (heap_newZ _ _), ?_⟩
    have := heap_newZ (w.alloc (.cells #[.int .i64 0, .int .i64 0, .int .u8 0] 63)) (.cells #[.int .i64 0, .int .i64 1, .int .u8 z] 63)
    simp only [World.size_alloc] at this
    rw [HZ.out]
    exact this
  case round =>
    obtain ⟨e, d, HE, hd1, hd2, rfl, hbel, h0, h1⟩ := hrel
    by_cases hlt : e ≤ q ∧ e ≤ 4096
    · obtain ⟨hlt1, hlt2⟩ := hlt
      have hz1 : (e : Int) ≤ (q : Int) := by omega
      have hz2 : (e : Int) ≤ 4096 := by omega
      have HC := hid (HR.out e (by have := HE.out; omega) hlt1 wr hbel)
      have HB := hid (best_snoc bs q (most bs q) ((aheadL q).take d) (q - e))
      rw [HE.out, ← ahead_take (by have := HE.out; omega) (by have := HE.out; omega), ← HE.out] at HB
      have HG := hid (good_best (bs := bs) (q := q) (k := most bs q) (ps := (aheadL q).take d) (fun p hp => (mem_aheadL (List.mem_of_mem_take hp)).1))
      have HCL := hid (com_le bs (most bs q) (q - e) q)
      have HP := hid (List.take_prefix e (aheadL q))
      have HBF := hid (fun h => best_full (bs := bs) (q := q) (k := most bs q) (ps := (aheadL q).take e) (qs := aheadL q) h HP.out)
      obtain ⟨n, hn⟩ : ∃ n, n = com bs (q - e) q (most bs q) := ⟨_, rfl⟩
      have HN : Hid (com bs (q - e) q (most bs q) = n) := hn.symm
      rw [HN.out] at HC HCL
      clear hn
      generalize best bs q (most bs q) ((aheadL q).take d) = s at *
      go_wp2_with fail
      refine HC.out.mono ?_
      rintro _ w2 ⟨rfl, m, rfl⟩
      have h0' : Tb (wr.drewN m) w.heap.size (0, 0, 0) := h0
      have h1' : Tb (wr.drewN m) (w.heap.size + 1) (tokOf bs q s) := h1
      have hbel' := bel_drewN hbel m
      clear h0 h1 hbel HC HR
      generalize wr.drewN m = W at *
      by_cases hhit : s.2 < n
      · have HBt : Hid (tokOf bs q (best bs q (most bs q) ((aheadL q).take e)) = (e, n, 0)) := by
          show _ = _
          rw [HB.out, better, if_pos (by rw [HN.out]; exact hhit)]
          have := HE.out
          rw [HZ.out, if_neg (by simp; omega)]
          rw [← HN.out]
          congr 1
          simp; omega
        have hn4 : 4 ≤ n := by rcases HG.out with ⟨_, h⟩ | ⟨_, _, h, _⟩ <;> omega
        have hn4z : (4 : Int) ≤ (n : Int) := by omega
        obtain ⟨ln, hln⟩ : ∃ ln : Nat, ln = (tokOf bs q s).2.1 := ⟨_, rfl⟩
        have hlnn : ln < n := by
          rw [hln, HZ.out]
          split
          · simp; omega
          · simpa using hhit
        have hlnz : (ln : Int) < (n : Int) := by omega
        have h1 := h1'
        have h0 := h0'
        clear h0' h1'
        have f00 := h0.f 0
        have f01 := h0.f 1
        have f02 := h0.f 2
        have f10 := h1.f 0
        have f11 := h1.f 1
        have f12 := h1.f 2
        have k00 := h0.c0
        have k01 := h0.c1
        have k02 := h0.c2
        have k10 := h1.c0
        have k11 := h1.c1
        have k12 := h1.c2
        rw [← hln] at k11
        generalize (tokOf bs q s).1 = x0 at *
        generalize (tokOf bs q s).2.2 = x2 at *
        have HH0 := hid h0
        have HH1 := hid h1
        clear h0 h1 hln
        have HT := hid (HH1.out.set (e, n, 0))
        have HT0 : Hid (Tb (put3 W (w.heap.size + 1) (e, n, 0)) w.heap.size (0, 0, 0)) := HH1.out.other (by omega) HH0.out
        have HTB := hid (HH1.out.bel hbel' (by omega) (e, n, 0))
        by_cases h258 : n = 258
        · have hnz : ((n : Int) == 258) = true := by simp; omega
          have HF : Hid (longT bs q = (e, n, 0)) := by
            show _ = _
            rw [HLT.out, HBF.out, HBt.out]
            rw [HB.out]
            have h1 := better_ge bs q (most bs q) s (q - e)
            have h2 := HM.out
            have h3 : (better bs q (most bs q) s (q - e)).2 = n := by rw [better, HN.out, if_pos hhit]
            omega
          have HX := hid (HT0.out.set (e, n, 0))
          have HXB := hid (HT0.out.bel HTB.out (Nat.le_refl _) (e, n, 0))
          clear h258
          go_wp2
          refine bodyPost_ret (results_cell_row (ty := 63) rfl _ _ _ _ _ _ _ rfl HX.out Tryz.underlying63 rfl (by kernel_rfl)) rfl ?_
          exact ⟨by rw [HF.out], HXB.out⟩
        · have hnz : ((n : Int) == 258) = false := by simp; omega
          go_wp2
          exact ⟨⟨e + 1, e, rfl, by omega, by omega, by go_num, HTB.out, HT0.out, by rw [HBt.out]; exact HT.out⟩, by simp [intOf]; omega⟩
      · have HBt : Hid (best bs q (most bs q) ((aheadL q).take e) = s) := by
          show _ = _
          rw [HB.out, better, if_neg (by rw [HN.out]; exact hhit)]
        obtain ⟨⟨x0, ln, x2⟩, ht⟩ : ∃ t, tokOf bs q s = t := ⟨_, rfl⟩
        have HTT := hid ht
        have hlnn : n < 4 ∨ n ≤ ln := by
          have hln : (tokOf bs q s).2.1 = ln := by rw [ht]
          rw [HZ.out] at hln
          rcases HG.out with ⟨h1, h2⟩ | ⟨h1, h2, h3, h4⟩
          · left; omega
          · right; rw [if_neg (by omega)] at hln; simp at hln; omega
        rw [ht] at h1'
        have h1 := h1'
        have h0 := h0'
        clear h0' h1' ht
        have f00 := h0.f 0
        have f01 := h0.f 1
        have f02 := h0.f 2
        have f10 := h1.f 0
        have f11 := h1.f 1
        have f12 := h1.f 2
        have k00 := h0.c0
        have k01 := h0.c1
        have k02 := h0.c2
        have k10 := h1.c0
        have k11 := h1.c1
        have k12 := h1.c2
        have HH0 := hid h0
        have HH1 := hid h1
        clear h0 h1
        dsimp only at k10 k11 k12
        have HX := hid (HH0.out.set (x0, ln, x2))
        have HXB := hid (HH0.out.bel hbel' (Nat.le_refl _) (x0, ln, x2))
        by_cases h258 : n = 258
        · have HF : Hid (longT bs q = (x0, ln, x2)) := by
            show _ = _
            rw [HLT.out, HBF.out, HBt.out, HTT.out]
            rw [HBt.out]
            have h2 := HM.out
            omega
          have hnz : ((n : Int) == 258) = true := by simp; omega
          clear h258
          rcases hlnn with hl4 | hln
          · have hl4z : ¬ (4 : Int) ≤ (n : Int) := by omega
            go_wp2
            refine bodyPost_ret (results_cell_row (ty := 63) rfl _ _ _ _ _ _ _ rfl HX.out Tryz.underlying63 rfl (by kernel_rfl)) rfl ?_
            exact ⟨by rw [HF.out], HXB.out⟩
          · by_cases hl4 : 4 ≤ n
            · have hl4z : (4 : Int) ≤ (n : Int) := by omega
              have hlz : ¬ (ln : Int) < (n : Int) := by omega
              go_wp2
              refine bodyPost_ret (results_cell_row (ty := 63) rfl _ _ _ _ _ _ _ rfl HX.out Tryz.underlying63 rfl (by kernel_rfl)) rfl ?_
              exact ⟨by rw [HF.out], HXB.out⟩
            · have hl4z : ¬ (4 : Int) ≤ (n : Int) := by omega
              go_wp2
              refine bodyPost_ret (results_cell_row (ty := 63) rfl _ _ _ _ _ _ _ rfl HX.out Tryz.underlying63 rfl (by kernel_rfl)) rfl ?_
              exact ⟨by rw [HF.out], HXB.out⟩
        · have hnz : ((n : Int) == 258) = false := by simp; omega
          rcases hlnn with hl4 | hln
          · have hl4z : ¬ (4 : Int) ≤ (n : Int) := by omega
            go_wp2
            exact ⟨⟨e + 1, e, rfl, by omega, by omega, by go_num, hbel', HH0.out, by rw [HBt.out, HTT.out]; exact HH1.out⟩, by simp [intOf]; omega⟩
          · by_cases hl4 : 4 ≤ n
            · have hl4z : (4 : Int) ≤ (n : Int) := by omega
              have hlz : ¬ (ln : Int) < (n : Int) := by omega
              go_wp2
              exact ⟨⟨e + 1, e, rfl, by omega, by omega, by go_num, hbel', HH0.out, by rw [HBt.out, HTT.out]; exact HH1.out⟩, by simp [intOf]; omega⟩
            · have hl4z : ¬ (4 : Int) ≤ (n : Int) := by omega
              go_wp2
              exact ⟨⟨e + 1, e, rfl, by omega, by omega, by go_num, hbel', HH0.out, by rw [HBt.out, HTT.out]; exact HH1.out⟩, by simp [intOf]; omega⟩
    · have HF : Hid ((aheadL q).take d = aheadL q) := by
        refine List.take_of_length_le ?_
        have := HE.out
        simp [aheadL]; omega
      rw [HF.out] at h1
      obtain ⟨⟨x0, x1, x2⟩, ht⟩ : ∃ t, tokOf bs q (best bs q (most bs q) (aheadL q)) = t := ⟨_, rfl⟩
      have HTT := hid ht
      rw [ht] at h1
      clear ht
      have f00 := h0.f 0
      have f01 := h0.f 1
      have f02 := h0.f 2
      have f10 := h1.f 0
      have f11 := h1.f 1
      have f12 := h1.f 2
      have k00 := h0.c0
      have k01 := h0.c1
      have k02 := h0.c2
      have k10 := h1.c0
      have k11 := h1.c1
      have k12 := h1.c2
      dsimp only at k10 k11 k12
      have HX := hid (h0.set (x0, x1, x2))
      have HXB := hid (h0.bel hbel (Nat.le_refl _) (x0, x1, x2))
      clear h0 h1
      by_cases hlt1 : e ≤ q
      · have hz1 : (e : Int) ≤ (q : Int) := by omega
        have hz2 : ¬ (e : Int) ≤ 4096 := by omega
        go_wp2
        refine bodyPost_ret (results_cell_row (ty := 63) rfl _ _ _ _ _ _ _ rfl HX.out Tryz.underlying63 rfl (by kernel_rfl)) rfl ?_
        exact ⟨by rw [HLT.out, HTT.out], HXB.out⟩
      · have hz1 : ¬ (e : Int) ≤ (q : Int) := by omega
        go_wp2
        refine bodyPost_ret (results_cell_row (ty := 63) rfl _ _ _ _ _ _ _ rfl HX.out Tryz.underlying63 rfl (by kernel_rfl)) rfl ?_
        exact ⟨by rw [HLT.out, HTT.out], HXB.out⟩
end Go.Proofs.YtelnefngkdfcoaaGreat
/-
  What RefTok lacks: the document's contracts.
-/
namespace Go.Proofs.YtelnefngkdfcoaaGreat
open Go.RowKit Go.Shelf Lz Go.ChangeShapes Go.WideShapes

set_option maxHeartbeats 1600000 in
set_option maxRecDepth 100000 in
theorem tokens_ref (a : Option Addr) (cap : Nat) (bs : List Int) (w : World) (hr : Ri w .u8 a cap bs) :
    Calls Tryz.prog 46 #[.slice a bs.length cap] w (TksPost bs w) := by
  have hroom := hr.room
  have hmost := hr.most
  unfold maxLen at hmost
  have HR := hid hr
  clear hr
  unfold TksPost
  by_cases hlong : 65536 < bs.length
  · have HO : Hid (tksO bs = ([], 2)) := by show _ = _; unfold tksO; rw [if_pos hlong]
    have hz0 : (65536 : Int) < (bs.length : Int) := by omega
    generalize bs.length = L at *
    go_enter Tryz.func46, Tryz.ntmps46
    go_wp2
    go_ret2
    exact ⟨.slice none 0 0, by rw [HO.out]; rfl, by rw [HO.out]; exact nil_row _ _, Below.refl _ _⟩
  · have HO : Hid (tksO bs = (from_ bs 0, 0)) := by show _ = _; unfold tksO; rw [if_neg hlong, toksL_from]
    have hz0 : ¬ (65536 : Int) < (bs.length : Int) := by omega
    obtain ⟨i0, hi, hi0, hi1, hi2⟩ := info_parts Tryz.info63
    have HLG : Hid (∀ q, q < bs.length → ∀ W, Below w.heap.size w W → Calls Tryz.prog 80 #[.slice a bs.length cap, .int .i64 (q : Int)] W fun e w' => e = .returned (.agg (tokV (longT bs q))) ∧ Below W.heap.size W w') := fun q hq W hW => by
      obtain ⟨g, off, rfl, hgw, hc⟩ := (HR.out.later hW).cells (by omega)
      exact longest_ref bs q g off cap W hq (by omega) hgw hc
    have HLN : Hid (∀ q, q < bs.length → 1 ≤ (longT bs q).2.1 ∧ q + (longT bs q).2.1 ≤ bs.length ∧ (longT bs q).2.1 ≤ 258) := fun q hq => longT_len bs q hq
    have HST : Hid (∀ q, q < bs.length → from_ bs q = longT bs q :: from_ bs (q + (longT bs q).2.1)) := fun q hq => from_step hq
    have HEN : Hid (∀ q, ¬ q < bs.length → from_ bs q = []) := fun q hq => from_end hq
    obtain ⟨L, hLe⟩ : ∃ L, L = bs.length := ⟨_, rfl⟩
    have HL : Hid (∀ q, (from_ bs q).length ≤ L - q) := fun q => by rw [hLe]; exact from_len (bs := bs) _ q (Nat.le_refl _)
    rw [← hLe] at hz0 hlong hroom HLG HLN HST HEN ⊢
    clear hLe HR
    go_enter Tryz.func46, Tryz.ntmps46
    go_wp2
    go_loopw [4, 5] (fun x4 x5 wr => ∃ (q : Nat) (dn : List Tok), q ≤ L ∧ x5 = .int .i64 (q : Int) ∧ dn.length ≤ q ∧ wr.ownsRow w.heap.size 63 3 x4 dn.length (dn.flatMap tokC) ∧ Below w.heap.size w wr ∧ Hid (from_ bs 0 = dn ++ from_ bs q)) (fun _ x5 _ => L - (intOf x5).toNat)
    case atStart => exact ⟨0, [], by omega, rfl, by simp, nil_row _ _, Below.refl _ _, rfl⟩
    case round =>
      obtain ⟨q, dn, hq, rfl, hdn, hown, hbel, HF⟩ := hrel
      by_cases hlt : q < L
      · have hqz : (q : Int) < (L : Int) := by omega
        have HC := hid (HLG.out q hlt wr hbel)
        obtain ⟨h1, h2, h3⟩ := HLN.out q hlt
        have HS := hid (HST.out q hlt)
        obtain ⟨⟨x0, x1, x2⟩, ht⟩ : ∃ t, longT bs q = t := ⟨_, rfl⟩
        rw [ht] at HC HS h1 h2 h3
        clear ht
        dsimp only at h1 h2 h3
        have hw0 := hbel.size
        go_wp2_with fail
        refine HC.out.mono ?_
        rintro _ w1 ⟨rfl, hb1⟩
        simp only [tokV]
        have hown1 := own_laterZ (own_laterZ hown hb1) (bel_allocZ w1 (.cells #[.int .i64 (x0 : Int), .int .i64 (x1 : Int), .int .u8 x2] 63))
        have hw1 := hb1.size
        have HNW := hid (fun j u h => tok_new (w1.alloc (.cells #[.int .i64 (x0 : Int), .int .i64 (x1 : Int), .int .u8 x2] 63)) (x0, x1, x2) j u h)
        simp only [World.size_alloc] at HNW
        have eT : (w1.alloc (.cells #[.int .i64 (x0 : Int), .int .i64 (x1 : Int), .int .u8 x2] 63)).heap[w1.heap.size]? = some (.cells #[.int .i64 (x0 : Int), .int .i64 (x1 : Int), .int .u8 x2] 63 (0, 0)) := heap_newZ _ _
        go_wp2_with (at_builtin; refine wpList_append_own _ rfl _ _ 22 rfl w.heap.size 63 i0 (.agg #[.int .i64 0, .int .i64 0, .int .u8 0]) 3 24 Tryz.underlying22 hi hi0 hi1 hi2 rfl (by decide) _ _ _ rfl (hown1.alloc _) ⟨w1.heap.size + 1, 0, none⟩ 1 1 (tokC (x0, x1, x2)) rfl rfl HNW.out (tokC_one _) (by unfold maxLen; omega) (by omega) (by simp; omega) ?_)
        intro v' w3 hown3 hgrow3 _
        have hob := own_block hown
        have e3 : Tb w3 w1.heap.size (x0, x1, x2) := by
          refine (hgrow3.block w1.heap.size (by simp; omega) (fun e => ?_)).trans (heap_old _ _ eT)
          have := (hob _ e.symm).2
          omega
        have c1 := e3.c1
        dsimp only at c1
        have HB3 : Hid (Below w.heap.size w w3) := (Bn (Bn (Bn hbel hb1) (bel_allocZ w1 _)) (bel_allocZ _ _)).grown hgrow3 (by simp; omega) (fun g hg => (hob g hg).1)
        have HO3 : Hid (w3.ownsRow w.heap.size 63 3 v' (dn ++ [(x0, x1, x2)]).length ((dn ++ [(x0, x1, x2)]).flatMap tokC)) := by
          show World.ownsRow _ _ _ _ _ _ _
          rw [tokC_snoc, List.length_append]
          exact hown3
        clear hown3 hgrow3 e3 eT hown1 hown hob HNW HC
        go_wp2
        exact ⟨⟨q + x1, dn ++ [(x0, x1, x2)], by omega, by go_num, by simp; omega, HO3.out, HB3.out, hid (by rw [HF.out, HS.out]; simp)⟩, by simp [intOf]; omega⟩
      · rw [HEN.out q hlt, List.append_nil] at HF
        have hqz : ¬ (q : Int) < (L : Int) := by omega
        go_wp2
        go_ret2
        exact ⟨_, by rw [HO.out]; rfl, by rw [HO.out, HF.out]; exact hown, hbel⟩
end Go.Proofs.YtelnefngkdfcoaaGreat
/-
  What ChkR lacks: the document's contracts.
-/
namespace Go.Proofs.YtelnefngkdfcoaaGreat
open Go.RowKit Lz

set_option maxHeartbeats 1600000 in
set_option maxRecDepth 100000 in
theorem check_refZ (t : Tkz) (w : World) : Calls Tryz.prog 63 #[.agg (zC t)] w fun e w' => e = .returned (.int .i64 (chkZ t)) ∧ Below w.heap.size w w' := by
  obtain ⟨d, n, x⟩ := t
  have HE := hid (chk_eq d n x)
  unfold zC
  dsimp only
  by_cases hd0 : d = 0
  · have b1 : (d == 0) = true := by simpa using hd0
    have c1 : ¬ 1 ≤ d := by omega
    by_cases hn1 : n = 1
    · have b2 : (n == 1) = true := by simpa using hn1
      have HC : Hid (chkZ (d, n, x) = 0) := by show _ = _; rw [HE.out, if_pos (.inl ⟨hd0, hn1⟩)]
      clear HE hd0 hn1
      go_enter Tryz.func63, Tryz.ntmps63
      go_wp2
      go_ret
      exact ⟨by rw [HC.out]; rfl, bel_allocZ _ _⟩
    · have b2 : (n == 1) = false := by simpa using hn1
      have HC : Hid (chkZ (d, n, x) = 60) := by show _ = _; rw [HE.out, if_neg (by omega)]
      clear HE hd0 hn1
      go_enter Tryz.func63, Tryz.ntmps63
      go_wp2
      go_ret
      exact ⟨by rw [HC.out]; rfl, bel_allocZ _ _⟩
  · have b1 : (d == 0) = false := by simpa using hd0
    by_cases h1 : 1 ≤ d
    · by_cases h2 : d ≤ 4096
      · by_cases h3 : 4 ≤ n
        · by_cases h4 : n ≤ 258
          · by_cases h5 : x = 0
            · have b5 : (x == 0) = true := by simpa using h5
              have HC : Hid (chkZ (d, n, x) = 0) := by show _ = _; rw [HE.out, if_pos (.inr ⟨h1, h2, h3, h4, h5⟩)]
              clear HE hd0 h5
              go_enter Tryz.func63, Tryz.ntmps63
              go_wp2
              go_ret
              exact ⟨by rw [HC.out]; rfl, bel_allocZ _ _⟩
            · have b5 : (x == 0) = false := by simpa using h5
              have HC : Hid (chkZ (d, n, x) = 60) := by show _ = _; rw [HE.out, if_neg (by omega)]
              clear HE hd0 h5
              go_enter Tryz.func63, Tryz.ntmps63
              go_wp2
              go_ret
              exact ⟨by rw [HC.out]; rfl, bel_allocZ _ _⟩
          · skip
            have HC : Hid (chkZ (d, n, x) = 60) := by show _ = _; rw [HE.out, if_neg (by omega)]
            clear HE hd0
            go_enter Tryz.func63, Tryz.ntmps63
            go_wp2
            go_ret
            exact ⟨by rw [HC.out]; rfl, bel_allocZ _ _⟩
        · skip
          have HC : Hid (chkZ (d, n, x) = 60) := by show _ = _; rw [HE.out, if_neg (by omega)]
          clear HE hd0
          go_enter Tryz.func63, Tryz.ntmps63
          go_wp2
          go_ret
          exact ⟨by rw [HC.out]; rfl, bel_allocZ _ _⟩
      · skip
        have HC : Hid (chkZ (d, n, x) = 60) := by show _ = _; rw [HE.out, if_neg (by omega)]
        clear HE hd0
        go_enter Tryz.func63, Tryz.ntmps63
        go_wp2
        go_ret
        exact ⟨by rw [HC.out]; rfl, bel_allocZ _ _⟩
    · skip
      have HC : Hid (chkZ (d, n, x) = 60) := by show _ = _; rw [HE.out, if_neg (by omega)]
      clear HE hd0
      go_enter Tryz.func63, Tryz.ntmps63
      go_wp2
      go_ret
      exact ⟨by rw [HC.out]; rfl, bel_allocZ _ _⟩

end Go.Proofs.YtelnefngkdfcoaaGreat
