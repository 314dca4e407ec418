/-
  The contracts of the document's block and xored.
-/
import Derived.Test.YtgnjicpmfpgdeaaDoorShJc
namespace Go.Proofs.YtgnjicpmfpgdeaaDoor.Sh
open Go.RowKit Sha

theorem xorL_take (x : Nat) (l : List Nat) (k : Nat) (h : k < l.length) : xorL x (l.take (k + 1)) = xorL x (l.take k) ++ [l.getD k 0 ^^^ x] := by
  have d : l.getD k 0 = l[k] := by rw [List.getD, List.getElem?_eq_getElem h, Option.getD_some]
  rw [List.take_succ_eq_append_getElem h, xorL, xorL, List.map_append, d]
  rfl

set_option maxHeartbeats 800000 in
theorem xored_ref (a : Option Addr) (cap : Nat) (l : List Nat) (x : Nat) (w : World) (hr : Rd w (.slice a l.length cap) a cap l) (hx : x < 256) (hbd : l.length ≤ 100000) :
    Calls Tryd.prog 70 #[.slice a l.length cap, .int .u8 (x : Int)] w fun e w' => ∃ v, e = .returned v ∧ w'.ownsRow w.heap.size 5 1 v l.length (V (xorL x l)) ∧ Below w.heap.size w w' := by
  obtain ⟨i0, hi, hz0, hz1, hz2⟩ := info_parts Tryd.info5
  have HR := hid hr
  have HX := hid (xorL_take x l)
  clear hr
  generalize hln : l.length = n at *
  have HLN := hid hln
  clear hln
  go_enter Tryd.func70, Tryd.ntmps70
  go_wp2_with fail
  go_loopw [5, 6] (fun v i wr => ∃ k : Nat, k ≤ n ∧ i = .int .i64 k ∧ wr.ownsRow w.heap.size 5 1 v k (V (xorL x (l.take k))) ∧ Below w.heap.size w wr) (fun _ i _ => n - (intOf i).toNat)
  case atStart => exact ⟨0, by omega, rfl, World.ownsRow_nil _ _ _ _, Below.refl _ _⟩
  case round =>
    obtain ⟨k, hk, rfl, hown, hbel⟩ := hrel
    have hsz := hbel.size
    by_cases hlt : k < n
    · have hkn : (k : Int) < (n : Int) := by omega
      obtain ⟨b, off, rfl, hbw, hc⟩ := HR.out.cells (by rw [HLN.out]; omega)
      have hck : wr.cell? ⟨b, off + k, none⟩ = some (.int .u8 ((l.getD k 0 : Nat) : Int)) := (hbel.cell (p := ⟨b, off + k, none⟩) hbw).trans (hc k (by rw [HLN.out]; exact hlt))
      have hy := HR.out.hi k
      have hxb := u8_xor_nat (l.getD k 0) x hy hx
      have HT := hid (HX.out k hlt)
      clear hc
      generalize l.getD k 0 = y at *
      go_wp2_with (at_builtin; refine wpList_append_own _ rfl _ _ 22 rfl w.heap.size 5 i0 (.int .u8 0) 1 1 Tryd.underlying22 hi hz0 hz1 hz2 rfl (by decide) _ _ _ rfl (hown.alloc _) ⟨wr.heap.size, 0, none⟩ 1 1 [.int .u8 ((y ^^^ x : Nat) : Int)] rfl rfl (one_new wr _) (one_cell _) (by unfold maxLen; omega) (by omega) (by simp; omega) ?_)
      intro v' w2 hown' hgrow _
      have hb2 := (hbel.alloc hsz _).grown hgrow (by simp; omega) (fun j hj => (hown.lt j hj).1)
      have R : w2.ownsRow w.heap.size 5 1 v' (k + 1) (V (xorL x (l.take (k + 1)))) := by
        rw [HT.out, ← V_snoc]
        exact hown'
      clear hown' hgrow hown
      go_wp2
      exact ⟨⟨k + 1, by omega, by go_num, R, hb2⟩, by simp [intOf]; omega⟩
    · obtain rfl : k = n := by omega
      have hkn : ¬ (k : Int) < (k : Int) := by omega
      have htk : l.take k = l := List.take_of_length_le (by rw [HLN.out]; exact Nat.le_refl _)
      rw [htk] at hown
      go_wp2
      go_ret
      exact ⟨_, rfl, hown, hbel⟩

/- block_ref -/
set_option maxHeartbeats 1600000 in
set_option maxRecDepth 100000 in
theorem block_ref (a : Option Addr) (cap : Nat) (zs : List Nat) (w : World) (hr : Rd w (.slice a zs.length cap) a cap zs) (hbd : zs.length ≤ 100000) :
    Calls Tryd.prog 69 #[.slice a zs.length cap] w fun e w' => ∃ v, e = .returned v ∧ w'.ownsRow w.heap.size 5 1 v 64 (V (blockL zs)) ∧ Below w.heap.size w w' := by
  obtain ⟨i0, hi, hz0, hz1, hz2⟩ := info_parts Tryd.info5
  have hown1 := World.ownsRow_lit (base := w.heap.size) (e := 5) (size := 1) w #[] 0 (Nat.le_refl _) (by unfold maxLen; omega) rfl
  have hb1 := bel_alloc w (.cells #[] 5)
  have s1 : (w.alloc (.cells #[] 5)).heap.size = w.heap.size + 1 := by simp
  have hr1 := hr.later hb1
  have hroom := hr.room
  have hmost := hr.most
  unfold maxLen at hmost
  have HR := hid hr
  clear hr
  go_enter Tryd.func69, Tryd.ntmps69
  go_wp2_with (at_builtin; refine app_any _ rfl _ _ rfl w.heap.size _ [] rfl hown1 a cap zs rfl hr1 (by simp; omega) (by omega) ?_)
  intro v2 w2 hown2 hgrow2
  have hz2' := hgrow2.size
  have hb2 : Below w.heap.size w w2 := hb1.grown hgrow2 (by omega) (fun j hj => (hown1.lt j hj).1)
  have HO := hid hown2
  have HB0 := hid hb2
  clear hown1 hgrow2 hown2 hb2 hr1 hb1
  by_cases h64 : 64 < zs.length
  · have h64' : (64 : Int) < (zs.length : Int) := by omega
    have hk : Sha.keyOf zs = digest zs := if_pos h64
    have HBL : Hid (blockL zs = digest zs ++ List.replicate (64 - (digest zs).length) 0) := by
      show _ = _
      rw [blockL, hk]
    have HOF := hid (of_ref a cap zs w2 (HR.out.later HB0.out) hbd)
    have hDl := digest_len zs
    have HDT := hid (digest_lt zs)
    clear hk HO
    generalize digest zs = K at *
    go_wp2_with fail
    go_at_call 83
    refine HOF.out.mono ?_
    rintro _ w3 ⟨rfl, hb3⟩
    obtain ⟨q4, f4, z4⟩ := put_new w3 K 38 w3.heap.size rfl
    have hn3 := heap_new w3 (.cells (arr .u8 z32) 38)
    have hB4 := Bn HB0.out (Bn hb3 q4)
    have hsd : (arr .u8 K).size = 32 := by rw [arr_size, hDl]
    have hrd := Rd.block 32 hDl f4 (by decide) HDT.out
    have hown5 := World.ownsRow_lit (base := w.heap.size) (e := 5) (size := 1) ((w3.alloc (.cells (arr .u8 z32) 38)).setRow w3.heap.size (arr .u8 K)) #[] 0 hB4.size (by unfold maxLen; omega) rfl
    rw [z4] at hown5
    have hb5 := bel_alloc ((w3.alloc (.cells (arr .u8 z32) 38)).setRow w3.heap.size (arr .u8 K)) (.cells #[] 5)
    have hr5 : Rd (((w3.alloc (.cells (arr .u8 z32) 38)).setRow w3.heap.size (arr .u8 K)).alloc (.cells #[] 5)) (.slice (some ⟨w3.heap.size, 0, none⟩) K.length 32) (some ⟨w3.heap.size, 0, none⟩) 32 K := by rw [hDl]; exact hrd.later hb5
    have hB5 := Bn hB4 hb5
    have hK : K.length ≤ 64 := by omega
    have hz5 := hB5.size
    have hz5b : (((w3.alloc (.cells (arr .u8 z32) 38)).setRow w3.heap.size (arr .u8 K)).alloc (.cells #[] 5)).heap.size = w3.heap.size + 1 + 1 := by simp
    clear hrd hb5 hB4 q4 f4 HOF hb3 HB0
    go_wp2_with (first
      | (refine wpList_alloc_at rfl 38 rfl (some 4) rfl (arr .u8 z32) Tryd.zero38 w3.heap.size rfl ?_)
      | (refine wpList_store_rowTo rfl 38 _ _ rfl rfl w3.heap.size (arr .u8 K) rfl rfl 38 _ hn3 (by rw [hsd]; exact Tryd.size38) (by rw [hsd]; rfl) (arr_one _ _) ?_)
      | (at_builtin; refine app_any _ rfl _ _ rfl w.heap.size _ [] rfl hown5 _ 32 K (by rw [hDl]; rfl) hr5 (by simp; omega) hz5 ?_))
    intro v6 w6 hown6 hgrow6
    have hb6 : Below w.heap.size w w6 := hB5.grown hgrow6 hz5 (fun j hj => (hown5.lt j hj).1)
    have HO : Hid (w6.ownsRow w.heap.size 5 1 v6 K.length (V K)) := by
      show _
      rw [hDl]; exact hown6
    have HB0 := hid hb6
    clear hown6 hgrow6 hown5 hr5 hb6 hB5 hDl hsd hn3
    go_wp2_with fail
    go_loopw [3] (fun v wr => ∃ z : Nat, K.length + z ≤ 64 ∧ wr.ownsRow w.heap.size 5 1 v (K.length + z) (V (K ++ List.replicate z 0)) ∧ Below w.heap.size w wr) (fun v _ => 64 - slen v)
    case atStart => exact ⟨0, hK, by rw [List.replicate_zero, List.append_nil]; exact HO.out, HB0.out⟩
    case round =>
      obtain ⟨q, hq, hown, hbel⟩ := hrel
      have hsz := hbel.size
      have hsl := slen_own hown
      obtain ⟨sa, sc, hsv⟩ := own_slice hown
      subst hsv
      by_cases hlt : K.length + q < 64
      · have hlt' : ((K.length : Int) + (q : Int)) < 64 := by omega
        go_wp2_with (at_builtin; refine wpList_append_own _ rfl _ _ 22 rfl w.heap.size 5 i0 (.int .u8 0) 1 1 Tryd.underlying22 hi hz0 hz1 hz2 rfl (by decide) _ _ _ rfl (hown.alloc _) ⟨wr.heap.size, 0, none⟩ 1 1 [.int .u8 0] rfl rfl (one_new wr _) (one_cell _) (by unfold maxLen; omega) (by omega) (by simp; omega) ?_)
        intro v' w2 hown' hgrow _
        have hb2 := (hbel.alloc hsz _).grown hgrow (by simp; omega) (fun j hj => (hown.lt j hj).1)
        have R : w2.ownsRow w.heap.size 5 1 v' (K.length + (q + 1)) (V (K ++ List.replicate (q + 1) 0)) := by
          rw [List.replicate_succ', ← List.append_assoc, ← V_snoc]
          exact hown'
        have hs1 := slen_own R
        clear hown' hgrow hown
        go_wp2
        refine ⟨⟨q + 1, by omega, R, hb2⟩, ?_⟩
        rw [hs1]
        show 64 - (K.length + (q + 1)) < 64 - (K.length + q)
        omega
      · have hlt' : ¬ ((K.length : Int) + (q : Int)) < 64 := by omega
        have R : wr.ownsRow w.heap.size 5 1 (.slice sa (K.length + q) sc) 64 (V (blockL zs)) := by
          rw [HBL.out, show 64 - K.length = q from by omega]
          have := hown
          rw [show K.length + q = 64 from by omega] at this ⊢
          exact this
        clear hown
        go_wp2
        go_ret
        exact ⟨_, rfl, R, hbel⟩
  · have h64' : ¬ (64 : Int) < (zs.length : Int) := by omega
    have hk : Sha.keyOf zs = zs := if_neg h64
    have HBL : Hid (blockL zs = zs ++ List.replicate (64 - zs.length) 0) := by
      show _ = _
      rw [blockL, hk]
    have hK : zs.length ≤ 64 := by omega
    clear hk
    go_wp2_with fail
    go_loopw [3] (fun v wr => ∃ z : Nat, zs.length + z ≤ 64 ∧ wr.ownsRow w.heap.size 5 1 v (zs.length + z) (V (zs ++ List.replicate z 0)) ∧ Below w.heap.size w wr) (fun v _ => 64 - slen v)
    case atStart => exact ⟨0, hK, by rw [List.replicate_zero, List.append_nil]; exact HO.out, HB0.out⟩
    case round =>
      obtain ⟨q, hq, hown, hbel⟩ := hrel
      have hsz := hbel.size
      have hsl := slen_own hown
      obtain ⟨sa, sc, hsv⟩ := own_slice hown
      subst hsv
      by_cases hlt : zs.length + q < 64
      · have hlt' : ((zs.length : Int) + (q : Int)) < 64 := by omega
        go_wp2_with (at_builtin; refine wpList_append_own _ rfl _ _ 22 rfl w.heap.size 5 i0 (.int .u8 0) 1 1 Tryd.underlying22 hi hz0 hz1 hz2 rfl (by decide) _ _ _ rfl (hown.alloc _) ⟨wr.heap.size, 0, none⟩ 1 1 [.int .u8 0] rfl rfl (one_new wr _) (one_cell _) (by unfold maxLen; omega) (by omega) (by simp; omega) ?_)
        intro v' w2 hown' hgrow _
        have hb2 := (hbel.alloc hsz _).grown hgrow (by simp; omega) (fun j hj => (hown.lt j hj).1)
        have R : w2.ownsRow w.heap.size 5 1 v' (zs.length + (q + 1)) (V (zs ++ List.replicate (q + 1) 0)) := by
          rw [List.replicate_succ', ← List.append_assoc, ← V_snoc]
          exact hown'
        have hs1 := slen_own R
        clear hown' hgrow hown
        go_wp2
        refine ⟨⟨q + 1, by omega, R, hb2⟩, ?_⟩
        rw [hs1]
        show 64 - (zs.length + (q + 1)) < 64 - (zs.length + q)
        omega
      · have hlt' : ¬ ((zs.length : Int) + (q : Int)) < 64 := by omega
        have R : wr.ownsRow w.heap.size 5 1 (.slice sa (zs.length + q) sc) 64 (V (blockL zs)) := by
          rw [HBL.out, show 64 - zs.length = q from by omega]
          have := hown
          rw [show zs.length + q = 64 from by omega] at this ⊢
          exact this
        clear hown
        go_wp2
        go_ret
        exact ⟨_, rfl, R, hbel⟩
end Go.Proofs.YtgnjicpmfpgdeaaDoor.Sh
