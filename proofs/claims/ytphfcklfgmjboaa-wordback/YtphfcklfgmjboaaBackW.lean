/-
  The walk of WordBack: a number is read of its varint, whatever stands behind, of its zigzag, of its bytes, and turned back.
-/
import Derived.Test.YtphfcklfgmjboaaApp
import Derived.Test.YtphfcklfgmjboaaBackMath
namespace Go.Proofs.Ytphfcklfgmjboaa
open Go.RowKit

theorem vint_short (x : Int) : (vint x).length ≤ 10 := by
  have aux : ∀ (f : Nat) (y : Int), (vintL f y).length ≤ f + 1 := by
    intro f
    induction f with
    | zero => intro y; simp [vintL]
    | succ f ih =>
      intro y
      rw [vintL]
      split
      · simp
      · have := ih (y / 128)
        simp
        omega
  exact aux 9 x

theorem low_256 (x b : Int) (n : Nat) (hb : b = 8 * n) : x % 256 ^ n = lowF x b := by
  rw [lowF, pow256, hb, show (8 * (n : Int)).toNat = 8 * n from by omega]

theorem num_back (x b o : Int) (n : Nat) (rest : List Int) (hb : b = 8 * n) : numF o ((bytesF n o x ++ rest).take n) = lowF x b := by
  rw [List.take_left' (bytesF_length n o x), numF_bytesF, low_256 x b n hb]

theorem range_append {l r : List Int} (hl : ∀ j, 0 ≤ l.getD j 0 ∧ l.getD j 0 ≤ 255) (hr : ∀ j, 0 ≤ r.getD j 0 ∧ r.getD j 0 ≤ 255) (j : Nat) : 0 ≤ (l ++ r).getD j 0 ∧ (l ++ r).getD j 0 ≤ 255 := by
  by_cases h : j < l.length
  · have e : (l ++ r).getD j 0 = l.getD j 0 := by simp [List.getD, List.getElem?_append_left h]
    rw [e]; exact hl j
  · have e : (l ++ r).getD j 0 = r.getD (j - l.length) 0 := by simp [List.getD, List.getElem?_append_right (show l.length ≤ j from by omega)]
    rw [e]; exact hr _

set_option maxHeartbeats 3200000 in
theorem back_walk (x y b bz o : Int) (a : Option Addr) (cap : Nat) (zs : List Int) (w : World) (h0 : 0 ≤ x) (h1 : x < 18446744073709551616) (hy0 : -9223372036854775808 ≤ y) (hy1 : y ≤ 9223372036854775807) (hr : Rd w (.slice a zs.length cap) a cap zs) (hnil : a = none → cap = 0) :
    Calls Try.prog 7 #[.int .u64 x, .int .i64 y, .int .i64 b, .int .i64 bz, .int .i64 o, .slice a zs.length cap] w fun e w' => e = .returned (.bool true) ∧ Below w.heap.size w w' := by
  have HC := hid (cut_any a cap zs w hr)
  have HR := hid (hr.take 400)
  have HZ := hid (show (zs.take 400).length ≤ 400 from List.length_take_le _ _)
  have H1 := hid (fun w : World => var_word x w h0 h1)
  have HNE := hid (vintL_ne 9 x)
  have HSH := hid (vint_short x)
  have HBY := hid (vint_bytes x h0 h1)
  have HRV := hid (read_vint x h0 h1)
  have HZW := hid (fun w : World => zig_word y w hy0 hy1)
  have HUW := hid (fun w : World => unz_word (zigF y) w (zig_range y hy0 hy1).1 (zig_range y hy0 hy1).2)
  have HUZ := hid (unz_zig y hy0 hy1)
  have HN := hid hnil
  have HX := hid (And.intro h0 h1)
  clear hr hnil h0 h1 hy0 hy1
  generalize hzt : zs.take 400 = zt at *
  clear hzt
  generalize zs.length = n0 at *
  go_enter Try.func7, Try.ntmps7
  go_wp2_with fail
  refine (HC.out).mono ?_
  rintro e w' ⟨rfl, hw⟩
  obtain rfl := hw.symm
  clear hw HC
  go_wp2_with fail
  refine (H1.out _).mono ?_
  rintro e w1 ⟨v1, rfl, hown1, hb1⟩
  obtain ⟨a1, c1, hr1⟩ := Rd.own hown1 HNE.out HBY.out
  obtain rfl := hr1.val
  have B1 := hid hb1
  have HR1 := hid hr1
  have HN1 : Hid (a1 = none → c1 = 0) := hid (by
    intro h
    obtain ⟨_, _, h', _⟩ := hr1.cells HNE.out
    rw [h] at h'
    cases h')
  have HO0 := hid (own_none w1 w1.heap.size (Nat.le_refl _))
  have HB0 : Hid (Below w1.heap.size w1 (w1.alloc (.cells #[] 5))) := hid ((Below.refl _ _).alloc (Nat.le_refl _) _)
  clear hown1 hr1 hb1
  go_wp2_with (at_builtin; refine app_any _ rfl (.tmp 30) (.tmp 31) rfl w1.heap.size _ [] rfl HO0.out a1 c1 (vint x) rfl ((HR1.out).later HB0.out) HN1.out (by have := HSH.out; simp; omega) (by simp) ?_)
  intro v2 w2 hown2 hgrow2
  have B2 : Hid (Below w1.heap.size w1 w2) := hid ((HB0.out).grown hgrow2 (by simp) (fun j hj => by simp [Value.ownBlock] at hj; omega))
  have HO2 : Hid (w2.ownsRow w1.heap.size 5 1 v2 (vint x).length ((vint x).map (Value.int .u8))) := hid (by simpa using hown2)
  have B02 := hid (Bn B1.out B2.out)
  clear hown2 hgrow2 HO0 HB0
  go_wp2_with (at_builtin; refine app_any _ rfl (.tmp 32) (.tmp 33) rfl w1.heap.size _ (vint x) rfl HO2.out a cap zt rfl ((HR.out).later B02.out) HN.out (by have := HSH.out; have := HZ.out; omega) (B2.out).size ?_)
  intro v3 w3 hown3 hgrow3
  rw [← List.map_append, ← List.length_append] at hown3
  have B3 := hid (Bn B1.out ((B2.out).grown hgrow3 (B2.out).size (fun j hj => ((HO2.out).lt j hj).1)))
  obtain ⟨a3, c3, hr3⟩ := Rd.own hown3 (by have := HNE.out; rw [List.length_append]; unfold vint; omega) (range_append HBY.out (fun j => ⟨(HR.out).lo j, (HR.out).hi j⟩))
  obtain rfl := hr3.val
  have hrd := read_word a3 c3 (vint x ++ zt) w3 hr3
  rw [HRV.out zt] at hrd
  have HRD := hid hrd
  clear hrd hr3 hown3 hgrow3 HO2 B2 B02
  generalize (vint x ++ zt).length = n3 at *
  go_wp2_with fail
  refine (HRD.out).mono ?_
  rintro e w' ⟨rfl, hw⟩
  obtain rfl := hw.symm
  clear hw HRD HR1 HN1 B1
  generalize (vint x).length = n1 at *
  have e1 : (x != x) = false := by simp
  have e2 : ((n1 : Int) != (n1 : Int)) = false := by simp
  have e3 : (y != y) = false := by simp
  have e4 := HUZ.out
  go_wp2_with (first
    | (go_at_call 24; refine (HZW.out _).mono ?_; rintro e w' ⟨rfl, hw⟩; obtain rfl := hw.symm; clear hw)
    | (go_at_call 26; refine (HUW.out _).mono ?_; rintro e w' ⟨rfl, hw⟩; obtain rfl := hw.symm; clear hw))
  refine (width_any b _).mono ?_
  rintro e w' ⟨rfl, hw⟩
  obtain rfl := hw.symm
  clear hw HZW HUW HUZ e1 e2 e3 e4 H1 HRV HSH HNE HBY
  cases hwd : wdB b with
  | false =>
    go_wp2_with (go_at_call 11; refine (alive_any _).mono ?_; rintro e w7 ⟨rfl, hb7⟩)
    go_ret
    exact ⟨rfl, Bn B3.out (by assumption)⟩
  | true =>
    by_cases ho : o ≠ 1 ∧ o ≠ 2
    · have g1 : (o != 1) = true := by rw [bne_iff_ne]; exact ho.1
      have g2 : (o != 2) = true := by rw [bne_iff_ne]; exact ho.2
      clear ho
      go_wp2_with (go_at_call 11; refine (alive_any _).mono ?_; rintro e w7 ⟨rfl, hb7⟩)
      go_ret
      exact ⟨rfl, Bn B3.out (by assumption)⟩
    · have hf : (faultF b o != 0) = false := by
        have : faultF b o = 0 := by unfold faultF; rw [hwd, if_neg (by decide), if_neg ho]
        rw [this]; rfl
      obtain ⟨n, hs, hq, hb, hn1, hn8⟩ := wd_bytes hwd
      have hsz : (sizeF b == 0) = false := by rw [wd_size, hwd]; rfl
      have HX0 := (HX.out).1
      have HX1 := (HX.out).2
      have H4 := hid (fun w : World => bytes_word x b o n w HX0 HX1 hf hs hn8)
      have HLN := hid (bytesF_length n o x)
      have HBR := hid (bytesF_range n o x)
      have HW6 := hid (fun (w : World) (a6 : Option Addr) (c6 : Nat) (hr : Rd w (.slice a6 (bytesF n o x ++ zt).length c6) a6 c6 (bytesF n o x ++ zt)) =>
        (num_back x b o n zt hb) ▸ word_ok a6 c6 (bytesF n o x ++ zt) b o n w hr hf hs hn1 hn8 (by rw [List.length_append, bytesF_length]; omega))
      have hb8 : 8 ≤ b := by omega
      have hb64 : b ≤ 64 := by omega
      have HT1 := hid (fun w : World => turn_word x b (bz.tmod 64) w HX0 HX1 hb8 hb64 hsz)
      have HT2 := hid (fun w : World => (turn_back x b (bz.tmod 64) HX0 hb8 hb64) ▸ turn_word (Num.turnI x b (bz.tmod 64)) b (-(bz.tmod 64)) w (turnI_range x b (bz.tmod 64) HX0 hb8 hb64).1 (turnI_range x b (bz.tmod 64) HX0 hb8 hb64).2 hb8 hb64 hsz)
      have HLO := hid (fun w : World => low_ref x b w HX0 HX1 (by omega) hb64)
      have hd0 : -64 < bz.tmod 64 := by
        rw [Int.tmod_eq_emod]; have := Int.emod_nonneg bz (show (64 : Int) ≠ 0 from by decide); split <;> omega
      have hd1 : bz.tmod 64 < 64 := Int.tmod_lt_of_pos bz (by decide)
      have e5 : (lowF x b == lowF x b) = true := by simp
      have HN1' := hid hn1
      have HN8 := hid hn8
      clear hs hq hb hn1 hn8 hsz HX0 HX1 HX hf hb8 hb64
      have ho' : o = 1 ∨ o = 2 := by omega
      clear ho
      generalize hr : Num.turnI x b (bz.tmod 64) = r at *
      clear hr
      generalize bytesF n o x = lb at *
      rcases ho' with rfl | rfl
      all_goals
        go_wp2_with fail
        refine (H4.out _).mono ?_
        rintro e w4 ⟨v4, rfl, hown4, hb4⟩
        obtain ⟨a4, c4, hr4⟩ := Rd.own hown4 (by have := HLN.out; have := HN1'.out; omega) HBR.out
        obtain rfl := hr4.val
        have B4 := hid (Bn B3.out hb4)
        have HR4 := hid hr4
        have HN4 : Hid (a4 = none → c4 = 0) := hid (by
          intro h
          obtain ⟨_, _, h', _⟩ := hr4.cells (by have := HLN.out; have := HN1'.out; omega)
          rw [h] at h'
          cases h')
        have HO4 := hid (own_none w4 w4.heap.size (Nat.le_refl _))
        have HB4 : Hid (Below w4.heap.size w4 (w4.alloc (.cells #[] 5))) := hid ((Below.refl _ _).alloc (Nat.le_refl _) _)
        clear hown4 hr4 hb4
        go_wp2_with (at_builtin; refine app_any _ rfl (.tmp 79) (.tmp 80) rfl w4.heap.size _ [] rfl HO4.out a4 c4 lb rfl ((HR4.out).later HB4.out) HN4.out (by have := HLN.out; have := HN8.out; simp; omega) (by simp) ?_)
        intro v5 w5 hown5 hgrow5
        have B5 : Hid (Below w4.heap.size w4 w5) := hid ((HB4.out).grown hgrow5 (by simp) (fun j hj => by simp [Value.ownBlock] at hj; omega))
        have HO5 : Hid (w5.ownsRow w4.heap.size 5 1 v5 lb.length (lb.map (Value.int .u8))) := hid (by simpa using hown5)
        have B05 := hid (Bn B4.out B5.out)
        clear hown5 hgrow5 HO4 HB4
        go_wp2_with (at_builtin; refine app_any _ rfl (.tmp 81) (.tmp 82) rfl w4.heap.size _ lb rfl HO5.out a cap zt rfl ((HR.out).later B05.out) HN.out (by have := HLN.out; have := HN8.out; have := HZ.out; omega) (B5.out).size ?_)
        intro v6 w6 hown6 hgrow6
        rw [← List.map_append, ← List.length_append] at hown6
        have B6 := hid (Bn B4.out ((B5.out).grown hgrow6 (B5.out).size (fun j hj => ((HO5.out).lt j hj).1)))
        obtain ⟨a6, c6, hr6⟩ := Rd.own hown6 (by have := HLN.out; have := HN1'.out; rw [List.length_append]; omega) (range_append HBR.out (fun j => ⟨(HR.out).lo j, (HR.out).hi j⟩))
        obtain rfl := hr6.val
        have HW7 := hid (HW6.out w6 a6 c6 hr6)
        clear hown6 hgrow6 HO5 B5 B05 hr6
        generalize (lb ++ zt).length = n6 at *
        go_wp2_with fail
        refine (HW7.out).mono ?_
        rintro e w7 ⟨rfl, m7, rfl⟩
        clear HW7
        go_wp2_with fail
        refine (HT1.out _).mono ?_
        rintro e w8 ⟨rfl, m8, rfl⟩
        go_wp2_with fail
        refine (HT2.out _).mono ?_
        rintro e w9 ⟨rfl, m9, rfl⟩
        go_wp2_with (first
          | (go_at_call 29; refine (HLO.out _).mono ?_; rintro e w' ⟨rfl, rfl⟩)
          | (go_at_call 11; refine (alive_any _).mono ?_; rintro e wz ⟨rfl, hbz⟩))
        go_ret
        exact ⟨rfl, Bn (bel_drewN B6.out _) (by assumption)⟩
end Go.Proofs.Ytphfcklfgmjboaa
