/-
  ShaCuts: however a row of bytes is cut into rows, its digest is the same, and the document's; where the program's tables are as its text lays them.
-/
import Derived.Test.YtkehhlbbnlnbcaaDoorCutsW
namespace Go.Proofs.YtkehhlbbnlnbcaaDoor.shaCuts
open Go.ChangeShapes Go.WideShapes Go.ChangeAt Go.RowKit Sha

theorem end_flat (m : List (List Nat)) (z : List Nat) (p : Nat) (h : m.flatten = z.take p) : (m ++ [z.drop p]).flatten = z := by
  rw [List.flatten_append, h, List.flatten_singleton, List.take_append_drop]

set_option maxHeartbeats 8000000 in
theorem walk (b : Option Addr) (cap : Nat) (ys : List Nat) (c : Option Addr) (capc : Nat) (cs : List Nat) (W : World) (hl : Laid W) (hr : Rd W (.slice b ys.length cap) b cap ys) (hrc : Rd W (.slice c cs.length capc) c capc cs) :
    Calls Tryd.prog 7 #[.slice b ys.length cap, .slice c cs.length capc] W fun e w' => e = .returned (.bool true) ∧ Below W.heap.size W w' := by
  obtain ⟨i0, hi, hz0, hz1, hz2⟩ := info_parts Tryd.info35
  have hcap := hr.room
  have hmost := hr.most
  unfold maxLen at hmost
  have HL := hid hl
  have HRC := hid hrc
  have hcm := hrc.most
  have hcr := hrc.room
  unfold maxLen at hcm
  clear hl hrc
  generalize hcn : cs.length = cn at *
  have HCN := hid hcn
  clear hcn
  by_cases h6 : 600 < ys.length
  · have h6' : (600 : Int) < (ys.length : Int) := by omega
    obtain ⟨x, y, rfl, _, _⟩ := hr.cells (by omega)
    have hz6 : (ys.take 600).length = 600 := by rw [List.length_take]; omega
    have hrz := hr.take 600
    rw [hz6] at hrz
    have HRZ' := hid hrz
    have HZN' := hid hz6
    clear hr hrz hz6
    generalize hb : (some (⟨x, y, none⟩ : Addr)) = b at *
    have HBE := hid hb
    generalize ys.take 600 = z at *
    generalize ys.length = yn at *
    obtain ⟨n, hn⟩ : ∃ n : Nat, n = 600 := ⟨_, rfl⟩
    have HRZ : Hid (Rd W (.slice b n cap) b cap z) := by rw [hn]; exact HRZ'.out
    have HZN : Hid (z.length = n) := by rw [hn]; exact HZN'.out
    have hn6 : n ≤ 600 := by omega
    have hnc : n ≤ cap := by omega
    have HN := hid hn
    clear HRZ' HZN'
    subst hb
    go_enter Tryd.func7, Tryd.ntmps7
    go_wp2_with fail
    rw [show (600 : Nat) = n from HN.out.symm]
    clear hn h6 h6' HBE
    generalize (some (⟨x, y, none⟩ : Addr)) = b at *
    go_loopw [5, 6, 7] (fun v pv iv wr => ∃ (k p : Nat) (vals : List Value) (m : List (List Nat)), k ≤ 200 ∧ p ≤ n ∧ iv = .int .i64 k ∧ pv = .int .i64 p ∧ Vals W vals m ∧ vals.length = k ∧ m.flatten = z.take p ∧ wr.ownsRow W.heap.size 35 1 v k vals ∧ Below W.heap.size W wr) (fun _ _ i _ => 200 - (intOf i).toNat)
    case atStart => exact ⟨0, 0, [], [], by omega, by omega, rfl, rfl, ⟨rfl, fun j hj => by simp at hj⟩, rfl, by simp, World.ownsRow_nil _ _ _ _, Below.refl _ _⟩
    case round =>
      obtain ⟨k, p, vals, m, hk, hpz, rfl, rfl, hV, hvl, hfl, hown, hbel⟩ := hrel
      have hszr := hbel.size
      by_cases hkc : k < cn
      · by_cases hk2 : k < 200
        · have hkn : (k : Int) < (cn : Int) := by omega
          have hk2' : (k : Int) < 200 := by omega
          obtain ⟨cb, off, rfl, hbw, hc⟩ := HRC.out.cells (by have := HCN.out; omega)
          have hck : wr.cell? ⟨cb, off + k, none⟩ = some (.int .u8 ((cs.getD k 0 : Nat) : Int)) := (hbel.cell (p := ⟨cb, off + k, none⟩) hbw).trans (hc k (by have := HCN.out; omega))
          have hcu := HRC.out.hi k
          generalize cs.getD k 0 = cu at *
          clear hc
          by_cases hm : n - p < cu % 70
          · obtain ⟨q, hq⟩ : ∃ q, q = n - p := ⟨_, rfl⟩
            have hqi2 : min ((cu : Int) % 70) ((n : Int) - (p : Int)) = (q : Int) := by omega
            have hpn : p + q ≤ n := by omega
            clear hq hm
            obtain ⟨a1, c1, hv1, hr1⟩ := mid_part (w := W) (a := b) (cap := cap) (zs := z) (by rw [HZN.out]; exact HRZ.out) p q (by rw [HZN.out]; exact hpn)
            have L1 := slice_mid b n cap p q (by omega)
            rw [hv1] at L1
            have HV1 := hid (hV.snoc hr1)
            have HFL1 : Hid ((m ++ [(z.drop p).take q]).flatten = z.take (p + q)) := by
              show _ = _
              rw [List.flatten_append, List.flatten_singleton, hfl, List.take_add]
            clear hV hr1 hv1 hfl
            go_wp2_with (at_builtin; refine wpList_append_own _ rfl _ _ 22 rfl W.heap.size 35 i0 (.slice none 0 0) 1 24 Tryd.underlying22 hi hz0 hz1 hz2 rfl (by decide) _ _ _ rfl (hown.alloc _) ⟨wr.heap.size, 0, none⟩ 1 1 [.slice a1 q c1] rfl rfl (row_new wr _) (row_cell _ _ _) (by unfold maxLen; omega) (by omega) (by simp; omega) ?_)
            intro v' w1 hown' hgrow _
            have hb1 := (hbel.alloc hszr _).grown hgrow (by simp; omega) (fun j hj => (hown.lt j hj).1)
            clear hown hgrow
            go_wp2
            exact ⟨⟨k + 1, p + q, _, _, by omega, hpn, by go_num, by go_num, HV1.out, by simp [hvl], HFL1.out, hown', hb1⟩, by simp [intOf]; omega⟩
          · obtain ⟨q, hq⟩ : ∃ q, q = cu % 70 := ⟨_, rfl⟩
            have hqi2 : min ((cu : Int) % 70) ((n : Int) - (p : Int)) = (q : Int) := by omega
            have hpn : p + q ≤ n := by omega
            clear hq hm
            obtain ⟨a1, c1, hv1, hr1⟩ := mid_part (w := W) (a := b) (cap := cap) (zs := z) (by rw [HZN.out]; exact HRZ.out) p q (by rw [HZN.out]; exact hpn)
            have L1 := slice_mid b n cap p q (by omega)
            rw [hv1] at L1
            have HV1 := hid (hV.snoc hr1)
            have HFL1 : Hid ((m ++ [(z.drop p).take q]).flatten = z.take (p + q)) := by
              show _ = _
              rw [List.flatten_append, List.flatten_singleton, hfl, List.take_add]
            clear hV hr1 hv1 hfl
            go_wp2_with (at_builtin; refine wpList_append_own _ rfl _ _ 22 rfl W.heap.size 35 i0 (.slice none 0 0) 1 24 Tryd.underlying22 hi hz0 hz1 hz2 rfl (by decide) _ _ _ rfl (hown.alloc _) ⟨wr.heap.size, 0, none⟩ 1 1 [.slice a1 q c1] rfl rfl (row_new wr _) (row_cell _ _ _) (by unfold maxLen; omega) (by omega) (by simp; omega) ?_)
            intro v' w1 hown' hgrow _
            have hb1 := (hbel.alloc hszr _).grown hgrow (by simp; omega) (fun j hj => (hown.lt j hj).1)
            clear hown hgrow
            go_wp2
            exact ⟨⟨k + 1, p + q, _, _, by omega, hpn, by go_num, by go_num, HV1.out, by simp [hvl], HFL1.out, hown', hb1⟩, by simp [intOf]; omega⟩
        · have hkn : (k : Int) < (cn : Int) := by omega
          have hk2' : ¬ (k : Int) < 200 := by omega
          obtain ⟨a1, c1, hv1, hr1⟩ := mid_part (w := W) (a := b) (cap := cap) (zs := z) (by rw [HZN.out]; exact HRZ.out) p (n - p) (by rw [HZN.out]; omega)
          have L1 := slice_rest b n cap p hpz
          rw [show p + (n - p) = n from by omega] at hv1
          rw [hv1] at L1
          have hfull : (z.drop p).take (n - p) = z.drop p := List.take_of_length_le (by rw [List.length_drop, HZN.out]; exact Nat.le_refl _)
          rw [hfull] at hr1
          have hV1 := hV.snoc hr1
          have hflz := end_flat m z p hfl
          have HV1 := hid hV1
          have HFZ := hid hflz
          clear hV hr1 hv1 hfl hfull hV1 hflz
          go_wp2_with (at_builtin; refine wpList_append_own _ rfl _ _ 22 rfl W.heap.size 35 i0 (.slice none 0 0) 1 24 Tryd.underlying22 hi hz0 hz1 hz2 rfl (by decide) _ _ _ rfl (hown.alloc _) ⟨wr.heap.size, 0, none⟩ 1 1 [.slice a1 (n - p) c1] rfl rfl (row_new wr _) (row_cell _ _ _) (by unfold maxLen; omega) (by omega) (by simp; omega) ?_)
          intro v' w1 hown' hgrow _
          have hb1 := (hbel.alloc hszr _).grown hgrow (by simp; omega) (fun j hj => (hown.lt j hj).1)
          clear hown hgrow
          have hmk : (m ++ [z.drop p]).length = k + 1 := by rw [← HV1.out.len]; simp [hvl]
          obtain ⟨a3, c3, hv3, hps3⟩ := ps_own (v := v') HV1.out (by rw [hmk]; exact hown') hb1
          rw [hmk] at hv3
          subst hv3
          have hla1 := HL.out.later hb1
          have HS1 := hid (sum_word a3 c3 _ w1 hla1 hps3 (by rw [HFZ.out, HZN.out]; omega))
          rw [hmk, HFZ.out] at HS1
          have HB1 := hid hb1
          clear hown' hps3 hla1 hb1 HV1 HFZ
          generalize m ++ [z.drop p] = mm at *
          have hq := eq25 (digest z) (digest_length _)
          have hg := guard25
          have HSO := hid (fun (w : World) (h1 : Below W.heap.size W w) => sum_one b cap z w (HL.out.later h1) (by rw [HZN.out]; exact HRZ.out.later h1) (by rw [HZN.out]; omega) w.heap.size rfl)
          have HOF := hid (fun (w : World) (h1 : Below W.heap.size W w) => of_ref b cap z w (by rw [HZN.out]; exact HRZ.out.later h1) (by rw [HZN.out]; omega))
          rw [HZN.out] at HSO HOF
          generalize digest z = dg at *
          go_wp2_with fail
          go_at_call 10
          refine HS1.out.mono ?_
          rintro _ w2 ⟨rfl, hb2⟩
          have HB2 := hid (Bn HB1.out hb2)
          clear hb2 HS1
          go_wp2_with fail
          go_at_call 10
          refine (HSO.out w2 HB2.out).mono ?_
          rintro _ w3 ⟨rfl, hb3⟩
          have HB3 := hid (Bn HB2.out hb3)
          clear hb3
          go_wp2_with fail
          go_at_call 10
          refine (HSO.out w3 HB3.out).mono ?_
          rintro _ w4 ⟨rfl, hb4⟩
          have HB4 := hid (Bn HB3.out hb4)
          clear hb4
          go_wp2_with fail
          go_at_call 27
          refine (HOF.out w4 HB4.out).mono ?_
          rintro _ w5 ⟨rfl, hb5⟩
          have HB5 := hid (Bn HB4.out hb5)
          clear hb5
          go_wp2_with fail
          go_at_call 12
          refine (alive_any w5 (HL.out.later HB5.out)).mono ?_
          rintro _ w6 ⟨rfl, hb6⟩
          have HB6 := hid (Bn HB5.out hb6)
          clear hb6
          go_wp2
          go_ret
          exact ⟨rfl, HB6.out⟩
      · have hkn : ¬ (k : Int) < (cn : Int) := by omega
        obtain ⟨a1, c1, hv1, hr1⟩ := mid_part (w := W) (a := b) (cap := cap) (zs := z) (by rw [HZN.out]; exact HRZ.out) p (n - p) (by rw [HZN.out]; omega)
        have L1 := slice_rest b n cap p hpz
        rw [show p + (n - p) = n from by omega] at hv1
        rw [hv1] at L1
        have hfull : (z.drop p).take (n - p) = z.drop p := List.take_of_length_le (by rw [List.length_drop, HZN.out]; exact Nat.le_refl _)
        rw [hfull] at hr1
        have hV1 := hV.snoc hr1
        have hflz := end_flat m z p hfl
        have HV1 := hid hV1
        have HFZ := hid hflz
        clear hV hr1 hv1 hfl hfull hV1 hflz
        go_wp2_with (at_builtin; refine wpList_append_own _ rfl _ _ 22 rfl W.heap.size 35 i0 (.slice none 0 0) 1 24 Tryd.underlying22 hi hz0 hz1 hz2 rfl (by decide) _ _ _ rfl (hown.alloc _) ⟨wr.heap.size, 0, none⟩ 1 1 [.slice a1 (n - p) c1] rfl rfl (row_new wr _) (row_cell _ _ _) (by unfold maxLen; omega) (by omega) (by simp; omega) ?_)
        intro v' w1 hown' hgrow _
        have hb1 := (hbel.alloc hszr _).grown hgrow (by simp; omega) (fun j hj => (hown.lt j hj).1)
        clear hown hgrow
        have hmk : (m ++ [z.drop p]).length = k + 1 := by rw [← HV1.out.len]; simp [hvl]
        obtain ⟨a3, c3, hv3, hps3⟩ := ps_own (v := v') HV1.out (by rw [hmk]; exact hown') hb1
        rw [hmk] at hv3
        subst hv3
        have hla1 := HL.out.later hb1
        have HS1 := hid (sum_word a3 c3 _ w1 hla1 hps3 (by rw [HFZ.out, HZN.out]; omega))
        rw [hmk, HFZ.out] at HS1
        have HB1 := hid hb1
        clear hown' hps3 hla1 hb1 HV1 HFZ
        generalize m ++ [z.drop p] = mm at *
        have hq := eq25 (digest z) (digest_length _)
        have hg := guard25
        have HSO := hid (fun (w : World) (h1 : Below W.heap.size W w) => sum_one b cap z w (HL.out.later h1) (by rw [HZN.out]; exact HRZ.out.later h1) (by rw [HZN.out]; omega) w.heap.size rfl)
        have HOF := hid (fun (w : World) (h1 : Below W.heap.size W w) => of_ref b cap z w (by rw [HZN.out]; exact HRZ.out.later h1) (by rw [HZN.out]; omega))
        rw [HZN.out] at HSO HOF
        generalize digest z = dg at *
        go_wp2_with fail
        go_at_call 10
        refine HS1.out.mono ?_
        rintro _ w2 ⟨rfl, hb2⟩
        have HB2 := hid (Bn HB1.out hb2)
        clear hb2 HS1
        go_wp2_with fail
        go_at_call 10
        refine (HSO.out w2 HB2.out).mono ?_
        rintro _ w3 ⟨rfl, hb3⟩
        have HB3 := hid (Bn HB2.out hb3)
        clear hb3
        go_wp2_with fail
        go_at_call 10
        refine (HSO.out w3 HB3.out).mono ?_
        rintro _ w4 ⟨rfl, hb4⟩
        have HB4 := hid (Bn HB3.out hb4)
        clear hb4
        go_wp2_with fail
        go_at_call 27
        refine (HOF.out w4 HB4.out).mono ?_
        rintro _ w5 ⟨rfl, hb5⟩
        have HB5 := hid (Bn HB4.out hb5)
        clear hb5
        go_wp2_with fail
        go_at_call 12
        refine (alive_any w5 (HL.out.later HB5.out)).mono ?_
        rintro _ w6 ⟨rfl, hb6⟩
        have HB6 := hid (Bn HB5.out hb6)
        clear hb6
        go_wp2
        go_ret
        exact ⟨rfl, HB6.out⟩
  · have h6' : ¬ (600 : Int) < (ys.length : Int) := by omega
    have HRZ0 := hid hr
    clear hr
    generalize hyn : ys.length = n at *
    have HZN := hid hyn
    have HRZ : Hid (Rd W (.slice b n cap) b cap ys) := HRZ0.out
    clear hyn HRZ0
    have hn6 : n ≤ 600 := by omega
    have hnc : n ≤ cap := by omega
    generalize ys = z at *
    go_enter Tryd.func7, Tryd.ntmps7
    go_wp2_with fail
    go_loopw [5, 6, 7] (fun v pv iv wr => ∃ (k p : Nat) (vals : List Value) (m : List (List Nat)), k ≤ 200 ∧ p ≤ n ∧ iv = .int .i64 k ∧ pv = .int .i64 p ∧ Vals W vals m ∧ vals.length = k ∧ m.flatten = z.take p ∧ wr.ownsRow W.heap.size 35 1 v k vals ∧ Below W.heap.size W wr) (fun _ _ i _ => 200 - (intOf i).toNat)
    case atStart => exact ⟨0, 0, [], [], by omega, by omega, rfl, rfl, ⟨rfl, fun j hj => by simp at hj⟩, rfl, by simp, World.ownsRow_nil _ _ _ _, Below.refl _ _⟩
    case round =>
      obtain ⟨k, p, vals, m, hk, hpz, rfl, rfl, hV, hvl, hfl, hown, hbel⟩ := hrel
      have hszr := hbel.size
      by_cases hkc : k < cn
      · by_cases hk2 : k < 200
        · have hkn : (k : Int) < (cn : Int) := by omega
          have hk2' : (k : Int) < 200 := by omega
          obtain ⟨cb, off, rfl, hbw, hc⟩ := HRC.out.cells (by have := HCN.out; omega)
          have hck : wr.cell? ⟨cb, off + k, none⟩ = some (.int .u8 ((cs.getD k 0 : Nat) : Int)) := (hbel.cell (p := ⟨cb, off + k, none⟩) hbw).trans (hc k (by have := HCN.out; omega))
          have hcu := HRC.out.hi k
          generalize cs.getD k 0 = cu at *
          clear hc
          by_cases hm : n - p < cu % 70
          · obtain ⟨q, hq⟩ : ∃ q, q = n - p := ⟨_, rfl⟩
            have hqi2 : min ((cu : Int) % 70) ((n : Int) - (p : Int)) = (q : Int) := by omega
            have hpn : p + q ≤ n := by omega
            clear hq hm
            obtain ⟨a1, c1, hv1, hr1⟩ := mid_part (w := W) (a := b) (cap := cap) (zs := z) (by rw [HZN.out]; exact HRZ.out) p q (by rw [HZN.out]; exact hpn)
            have L1 := slice_mid b n cap p q (by omega)
            rw [hv1] at L1
            have HV1 := hid (hV.snoc hr1)
            have HFL1 : Hid ((m ++ [(z.drop p).take q]).flatten = z.take (p + q)) := by
              show _ = _
              rw [List.flatten_append, List.flatten_singleton, hfl, List.take_add]
            clear hV hr1 hv1 hfl
            go_wp2_with (at_builtin; refine wpList_append_own _ rfl _ _ 22 rfl W.heap.size 35 i0 (.slice none 0 0) 1 24 Tryd.underlying22 hi hz0 hz1 hz2 rfl (by decide) _ _ _ rfl (hown.alloc _) ⟨wr.heap.size, 0, none⟩ 1 1 [.slice a1 q c1] rfl rfl (row_new wr _) (row_cell _ _ _) (by unfold maxLen; omega) (by omega) (by simp; omega) ?_)
            intro v' w1 hown' hgrow _
            have hb1 := (hbel.alloc hszr _).grown hgrow (by simp; omega) (fun j hj => (hown.lt j hj).1)
            clear hown hgrow
            go_wp2
            exact ⟨⟨k + 1, p + q, _, _, by omega, hpn, by go_num, by go_num, HV1.out, by simp [hvl], HFL1.out, hown', hb1⟩, by simp [intOf]; omega⟩
          · obtain ⟨q, hq⟩ : ∃ q, q = cu % 70 := ⟨_, rfl⟩
            have hqi2 : min ((cu : Int) % 70) ((n : Int) - (p : Int)) = (q : Int) := by omega
            have hpn : p + q ≤ n := by omega
            clear hq hm
            obtain ⟨a1, c1, hv1, hr1⟩ := mid_part (w := W) (a := b) (cap := cap) (zs := z) (by rw [HZN.out]; exact HRZ.out) p q (by rw [HZN.out]; exact hpn)
            have L1 := slice_mid b n cap p q (by omega)
            rw [hv1] at L1
            have HV1 := hid (hV.snoc hr1)
            have HFL1 : Hid ((m ++ [(z.drop p).take q]).flatten = z.take (p + q)) := by
              show _ = _
              rw [List.flatten_append, List.flatten_singleton, hfl, List.take_add]
            clear hV hr1 hv1 hfl
            go_wp2_with (at_builtin; refine wpList_append_own _ rfl _ _ 22 rfl W.heap.size 35 i0 (.slice none 0 0) 1 24 Tryd.underlying22 hi hz0 hz1 hz2 rfl (by decide) _ _ _ rfl (hown.alloc _) ⟨wr.heap.size, 0, none⟩ 1 1 [.slice a1 q c1] rfl rfl (row_new wr _) (row_cell _ _ _) (by unfold maxLen; omega) (by omega) (by simp; omega) ?_)
            intro v' w1 hown' hgrow _
            have hb1 := (hbel.alloc hszr _).grown hgrow (by simp; omega) (fun j hj => (hown.lt j hj).1)
            clear hown hgrow
            go_wp2
            exact ⟨⟨k + 1, p + q, _, _, by omega, hpn, by go_num, by go_num, HV1.out, by simp [hvl], HFL1.out, hown', hb1⟩, by simp [intOf]; omega⟩
        · have hkn : (k : Int) < (cn : Int) := by omega
          have hk2' : ¬ (k : Int) < 200 := by omega
          obtain ⟨a1, c1, hv1, hr1⟩ := mid_part (w := W) (a := b) (cap := cap) (zs := z) (by rw [HZN.out]; exact HRZ.out) p (n - p) (by rw [HZN.out]; omega)
          have L1 := slice_rest b n cap p hpz
          rw [show p + (n - p) = n from by omega] at hv1
          rw [hv1] at L1
          have hfull : (z.drop p).take (n - p) = z.drop p := List.take_of_length_le (by rw [List.length_drop, HZN.out]; exact Nat.le_refl _)
          rw [hfull] at hr1
          have hV1 := hV.snoc hr1
          have hflz := end_flat m z p hfl
          have HV1 := hid hV1
          have HFZ := hid hflz
          clear hV hr1 hv1 hfl hfull hV1 hflz
          go_wp2_with (at_builtin; refine wpList_append_own _ rfl _ _ 22 rfl W.heap.size 35 i0 (.slice none 0 0) 1 24 Tryd.underlying22 hi hz0 hz1 hz2 rfl (by decide) _ _ _ rfl (hown.alloc _) ⟨wr.heap.size, 0, none⟩ 1 1 [.slice a1 (n - p) c1] rfl rfl (row_new wr _) (row_cell _ _ _) (by unfold maxLen; omega) (by omega) (by simp; omega) ?_)
          intro v' w1 hown' hgrow _
          have hb1 := (hbel.alloc hszr _).grown hgrow (by simp; omega) (fun j hj => (hown.lt j hj).1)
          clear hown hgrow
          have hmk : (m ++ [z.drop p]).length = k + 1 := by rw [← HV1.out.len]; simp [hvl]
          obtain ⟨a3, c3, hv3, hps3⟩ := ps_own (v := v') HV1.out (by rw [hmk]; exact hown') hb1
          rw [hmk] at hv3
          subst hv3
          have hla1 := HL.out.later hb1
          have HS1 := hid (sum_word a3 c3 _ w1 hla1 hps3 (by rw [HFZ.out, HZN.out]; omega))
          rw [hmk, HFZ.out] at HS1
          have HB1 := hid hb1
          clear hown' hps3 hla1 hb1 HV1 HFZ
          generalize m ++ [z.drop p] = mm at *
          have hq := eq25 (digest z) (digest_length _)
          have hg := guard25
          have HSO := hid (fun (w : World) (h1 : Below W.heap.size W w) => sum_one b cap z w (HL.out.later h1) (by rw [HZN.out]; exact HRZ.out.later h1) (by rw [HZN.out]; omega) w.heap.size rfl)
          have HOF := hid (fun (w : World) (h1 : Below W.heap.size W w) => of_ref b cap z w (by rw [HZN.out]; exact HRZ.out.later h1) (by rw [HZN.out]; omega))
          rw [HZN.out] at HSO HOF
          generalize digest z = dg at *
          go_wp2_with fail
          go_at_call 10
          refine HS1.out.mono ?_
          rintro _ w2 ⟨rfl, hb2⟩
          have HB2 := hid (Bn HB1.out hb2)
          clear hb2 HS1
          go_wp2_with fail
          go_at_call 10
          refine (HSO.out w2 HB2.out).mono ?_
          rintro _ w3 ⟨rfl, hb3⟩
          have HB3 := hid (Bn HB2.out hb3)
          clear hb3
          go_wp2_with fail
          go_at_call 10
          refine (HSO.out w3 HB3.out).mono ?_
          rintro _ w4 ⟨rfl, hb4⟩
          have HB4 := hid (Bn HB3.out hb4)
          clear hb4
          go_wp2_with fail
          go_at_call 27
          refine (HOF.out w4 HB4.out).mono ?_
          rintro _ w5 ⟨rfl, hb5⟩
          have HB5 := hid (Bn HB4.out hb5)
          clear hb5
          go_wp2_with fail
          go_at_call 12
          refine (alive_any w5 (HL.out.later HB5.out)).mono ?_
          rintro _ w6 ⟨rfl, hb6⟩
          have HB6 := hid (Bn HB5.out hb6)
          clear hb6
          go_wp2
          go_ret
          exact ⟨rfl, HB6.out⟩
      · have hkn : ¬ (k : Int) < (cn : Int) := by omega
        obtain ⟨a1, c1, hv1, hr1⟩ := mid_part (w := W) (a := b) (cap := cap) (zs := z) (by rw [HZN.out]; exact HRZ.out) p (n - p) (by rw [HZN.out]; omega)
        have L1 := slice_rest b n cap p hpz
        rw [show p + (n - p) = n from by omega] at hv1
        rw [hv1] at L1
        have hfull : (z.drop p).take (n - p) = z.drop p := List.take_of_length_le (by rw [List.length_drop, HZN.out]; exact Nat.le_refl _)
        rw [hfull] at hr1
        have hV1 := hV.snoc hr1
        have hflz := end_flat m z p hfl
        have HV1 := hid hV1
        have HFZ := hid hflz
        clear hV hr1 hv1 hfl hfull hV1 hflz
        go_wp2_with (at_builtin; refine wpList_append_own _ rfl _ _ 22 rfl W.heap.size 35 i0 (.slice none 0 0) 1 24 Tryd.underlying22 hi hz0 hz1 hz2 rfl (by decide) _ _ _ rfl (hown.alloc _) ⟨wr.heap.size, 0, none⟩ 1 1 [.slice a1 (n - p) c1] rfl rfl (row_new wr _) (row_cell _ _ _) (by unfold maxLen; omega) (by omega) (by simp; omega) ?_)
        intro v' w1 hown' hgrow _
        have hb1 := (hbel.alloc hszr _).grown hgrow (by simp; omega) (fun j hj => (hown.lt j hj).1)
        clear hown hgrow
        have hmk : (m ++ [z.drop p]).length = k + 1 := by rw [← HV1.out.len]; simp [hvl]
        obtain ⟨a3, c3, hv3, hps3⟩ := ps_own (v := v') HV1.out (by rw [hmk]; exact hown') hb1
        rw [hmk] at hv3
        subst hv3
        have hla1 := HL.out.later hb1
        have HS1 := hid (sum_word a3 c3 _ w1 hla1 hps3 (by rw [HFZ.out, HZN.out]; omega))
        rw [hmk, HFZ.out] at HS1
        have HB1 := hid hb1
        clear hown' hps3 hla1 hb1 HV1 HFZ
        generalize m ++ [z.drop p] = mm at *
        have hq := eq25 (digest z) (digest_length _)
        have hg := guard25
        have HSO := hid (fun (w : World) (h1 : Below W.heap.size W w) => sum_one b cap z w (HL.out.later h1) (by rw [HZN.out]; exact HRZ.out.later h1) (by rw [HZN.out]; omega) w.heap.size rfl)
        have HOF := hid (fun (w : World) (h1 : Below W.heap.size W w) => of_ref b cap z w (by rw [HZN.out]; exact HRZ.out.later h1) (by rw [HZN.out]; omega))
        rw [HZN.out] at HSO HOF
        generalize digest z = dg at *
        go_wp2_with fail
        go_at_call 10
        refine HS1.out.mono ?_
        rintro _ w2 ⟨rfl, hb2⟩
        have HB2 := hid (Bn HB1.out hb2)
        clear hb2 HS1
        go_wp2_with fail
        go_at_call 10
        refine (HSO.out w2 HB2.out).mono ?_
        rintro _ w3 ⟨rfl, hb3⟩
        have HB3 := hid (Bn HB2.out hb3)
        clear hb3
        go_wp2_with fail
        go_at_call 10
        refine (HSO.out w3 HB3.out).mono ?_
        rintro _ w4 ⟨rfl, hb4⟩
        have HB4 := hid (Bn HB3.out hb4)
        clear hb4
        go_wp2_with fail
        go_at_call 27
        refine (HOF.out w4 HB4.out).mono ?_
        rintro _ w5 ⟨rfl, hb5⟩
        have HB5 := hid (Bn HB4.out hb5)
        clear hb5
        go_wp2_with fail
        go_at_call 12
        refine (alive_any w5 (HL.out.later HB5.out)).mono ?_
        rintro _ w6 ⟨rfl, hb6⟩
        have HB6 := hid (Bn HB5.out hb6)
        clear hb6
        go_wp2
        go_ret
        exact ⟨rfl, HB6.out⟩

set_option maxRecDepth 100000 in
theorem lifted (os : Os) (started : os.Started) (H : Type) (enc : TypeId × Value → H) :
    ReturnsInHanded {} Tryd.checked os 7 .any (fun w args => (Rows.shaCutsSpec.pre enc Tryd.prog Tryd.f7 [] false w args ∧ laidMetH Tryd.prog laidL w) ∧ sizedMet enc Tryd.prog Tryd.f7 (OpenSpec.ofChange Rows.shaCutsSpec) false w args)
      (Rows.shaCutsSpec.post enc Tryd.prog Tryd.f7 false true false false) := by
  refine returnsInHanded_of_change_and (C := Tryd.checked) (X := fun w _ => laidMetH Tryd.prog laidL w) (fun _ _ _ hh h => h.of_heap hh) own started (by kernel_rfl) Tryd.func7
    (ChangeSpec.witness_shaped (enc := enc) (C := Tryd.checked) (os := os) (X := fun w _ => laidMetH Tryd.prog laidL w) false (World.doorLaid Tryd.prog 400 os) #[.slice none 0 0, .slice none 0 0] 8 rfl (World.shaped_of_RefB (by kernel_rfl) (by kernel_rfl)) (by kernel_rfl) (by kernel_rfl) (by kernel_rfl) (door_met os _)) ?_
  intro W base args ds gs before hval0 hW _ _ hL _
  have hval : ∀ (j : Nat) t v, Tryd.f7.params[j]? = some t → args[j]? = some v → Value.okWide Tryd.prog W .any base t v := hval0
  have hW' := hW
  obtain ⟨p, q, hA0, hV, rfl, _, _⟩ := hW
  have hA : DataW.TrodAll enc Tryd.prog W 0 (fun _ => true) true Tryd.f7.params.toList args.toList ds p := hA0
  rw [Tryd.params7] at hA hval
  obtain ⟨v0, vs0, d0, ds0, p0, q0, hargs, rfl, rfl, h0, r0⟩ := trodAll_cons hA
  obtain ⟨v1, vs1, d1, ds1, p1, q1, rfl, rfl, rfl, h1, r1⟩ := trodAll_cons r0
  obtain ⟨rfl, rfl, rfl⟩ := trodAll_nil r1
  obtain rfl : args = #[v0, v1] := by cases args; simp_all
  obtain ⟨rfl, rfl⟩ := trodVars_none hV
  have hlaid := of_laid hL
  clear hA0
  simp only [List.append_nil] at hW'
  have hlt0 : ∀ x ∈ p0, x.block < W.heap.size := fun x hx => hW'.lt x (by simp [hx])
  have hk0 := h0
  obtain ⟨a0, cap0, zs0, rfl, hr0⟩ := open_rd (hval 0 35 v0 rfl rfl) h0 hlt0
  have hlt1 : ∀ x ∈ p1, x.block < W.heap.size := fun x hx => hW'.lt x (by simp [hx])
  have hk1 := h1
  obtain ⟨a1, cap1, zs1, rfl, hr1⟩ := open_rd (hval 1 35 v1 rfl rfl) h1 hlt1
  clear hval0
  refine (walk a0 cap0 zs0 a1 cap1 zs1 W hlaid hr0 hr1).mono fun e W' ⟨he, hb⟩ => ?_
  subst he
  exact ⟨_, rfl, _, _, _, [] ++ [], _, [], hW', trodAll_cons_mk (shut_bool Tryd.underlying4 _) trodAll_mk0, (trodAll_cons_mk (Below.trod Tryd.laidOut (by kernel_rfl) (of_decide_eq_true (by kernel_rfl)) hk0 hb hlt0) (trodAll_cons_mk (Below.trod Tryd.laidOut (by kernel_rfl) (of_decide_eq_true (by kernel_rfl)) hk1 hb hlt1) trodAll_mk0)), rfl, hb.frame _, fun h => by cases h⟩

theorem over : Rows.shaCutsRow.holds Tryd.pinned (OpenSpec.ofChange Rows.shaCutsSpec) :=
  OpenClaim.holds_of_wide 7 Tryd.f7 rfl rfl rfl rfl rfl rfl rfl ⟨rfl, rfl, rfl, rfl, rfl⟩ rfl rfl rfl rfl rfl (by kernel_rfl) Tryd.func7 (by kernel_rfl)
    (of_decide_eq_true (by kernel_rfl)) (by unfold Func.isWrapper; first | (rw [if_pos (by decide +kernel)]; kernel_rfl) | (rw [if_neg (by decide +kernel)]; exact ⟨rfl, rfl⟩))
    (fun os started H enc _ => lifted os started H enc)

theorem card : Rows.ShaCutsCardSaid :=
  Claim7.holds_tied_plain_at .later [] [.data, .data] true (true, "6c6f4a323530e6db23c53d62cf6eb094d8017c5b4fd6273f756ed505cd0c3c11") false
    over (fun _ h => by cases h) (by kernel_rfl) (fun _ h => by cases h) shaCuts_row_tie rfl ⟨rfl, rfl⟩ (by kernel_rfl) rfl
    (fun f fn hf hfn => by
      obtain rfl : f = 7 := Option.some.inj ((show Tryd.prog.funcNamed "saltern/salternlaw03.ShaCuts" = some 7 by kernel_rfl).symm.trans hf) |>.symm
      obtain rfl : fn = Tryd.f7 := (Option.some.inj (Tryd.func7.symm.trans hfn)).symm
      exact ⟨by kernel_rfl, fun j t ht => by
        rw [Tryd.params7] at ht
        have hm : t ∈ [35, 35] := by simpa using Array.mem_of_getElem? ht
        have hall : ([35, 35].all fun u => !Tryd.prog.wantsStandIn u) = true := by kernel_rfl
        exact (show Tryd.prog.wantsStandIn t = false by simpa using List.all_eq_true.1 hall t hm)⟩)
    (by kernel_rfl)

end Go.Proofs.YtkehhlbbnlnbcaaDoor.shaCuts
namespace Go.Proofs.YtkehhlbbnlnbcaaDoor
theorem shaCuts_holds : Rows.ShaCutsCardSaid := shaCuts.card
#print axioms shaCuts_holds
end Go.Proofs.YtkehhlbbnlnbcaaDoor
