/-
  MacKeys: for every key and all bytes, a key of fewer than 64 bytes with a byte 0 behind seals alike, and a longer one as its digest does; where the program's tables are as its text lays them.
-/
import Derived.Test.YtkipepodgmfbnaaDoorCut
import Derived.Test.YtkipepodgmfbnaaDoorSkip
namespace Go.Proofs.YtkipepodgmfbnaaDoor.macKeys
open Go.ChangeShapes Go.WideShapes Go.ChangeAt Go.RowKit Sha

theorem sum_one' (a : Option Addr) (cap : Nat) (key : List Nat) (b : Option Addr) (capb : Nat) (z : List Nat) (w : World) (hl : Laid w) (hr : Rd w (.slice a key.length cap) a cap key) (hrb : Rd w (.slice b z.length capb) b capb z) (hk : key.length ≤ 3000) (hz : z.length ≤ 3000) (g : Nat) (hg : g = w.heap.size) :
    Calls Tryd.prog 10 #[.slice a key.length cap, .slice (some ⟨g, 0, none⟩) 1 1] (w.alloc (.cells #[.slice b z.length capb] 22)) fun e w' => e = .returned (.agg (arr .u8 (hmac key z))) ∧ Below w.heap.size w w' := by
  have hb := bel_alloc w (.cells #[.slice b z.length capb] 22)
  have h := macSum_word a cap key ⟨g, 0, none⟩ 1 [z] (w.alloc (.cells #[.slice b z.length capb] 22)) (hl.later hb) (hr.later hb) (by omega) (Ps.one hrb g hg) (by simp) (by simp) (by simp; omega)
  rw [show [z].flatten = z from by simp] at h
  exact h.mono (fun e w' h => ⟨h.1, Bn hb h.2⟩)

theorem sum_ps (a : Option Addr) (cap : Nat) (key : List Nat) (ad : Addr) (z : List Nat) (w : World) (hl : Laid w) (hr : Rd w (.slice a key.length cap) a cap key) (hp : Ps w (some ad) 1 [z]) (hk : key.length ≤ 3000) (hz : z.length ≤ 3000) :
    Calls Tryd.prog 10 #[.slice a key.length cap, .slice (some ad) 1 1] w fun e w' => e = .returned (.agg (arr .u8 (hmac key z))) ∧ Below w.heap.size w w' := by
  have h := macSum_word a cap key ad 1 [z] w hl hr (by omega) hp (by simp) (by simp) (by simp; omega)
  rw [show [z].flatten = z from by simp] at h
  exact h

theorem hmac_short (key msg : List Nat) (h : key.length < 64) : hmac (key ++ [0]) msg = hmac key msg := by unfold hmac; rw [block_short key h]
theorem hmac_long (key msg : List Nat) (h : 64 < key.length) : hmac (digest key) msg = hmac key msg := by unfold hmac; rw [block_long key h]
theorem one_new' (w : World) (x : Int) : ∀ (j : Nat) (u : Value), [Value.int .u8 x][j]? = some u → (w.alloc (.cells #[Value.int .u8 x] 5)).cell? (Addr.add ⟨w.heap.size, 0, none⟩ j) = some u := by
  intro j u h
  match j, h with
  | 0, h => simp at h; subst h; simp [Addr.add]

set_option maxHeartbeats 3200000 in
set_option maxRecDepth 100000 in
theorem walk (a : Option Addr) (cap : Nat) (ks : List Nat) (b : Option Addr) (capb : Nat) (zs : List Nat) (W : World) (hl : Laid W) (hr : Rd W (.slice a ks.length cap) a cap ks) (hrb : Rd W (.slice b zs.length capb) b capb zs) :
    Calls Tryd.prog 8 #[.slice a ks.length cap, .slice b zs.length capb] W fun e w' => e = .returned (.bool true) ∧ Below W.heap.size W w' := by
  obtain ⟨i0, hi, hz0, hz1, hz2⟩ := info_parts Tryd.info5
  have HAW := hid (awake_any W hl)
  have HC1 := hid (fun (w : World) (h : Below W.heap.size W w) => cut_row a cap ks w (hr.later h))
  have HC2 := hid (fun (w : World) (h : Below W.heap.size W w) => cut_row b capb zs w (hrb.later h))
  have HR := hid (hr.take 2000)
  have HRB := hid (hrb.take 2000)
  have hkl := take_len ks
  have hzl := take_len zs
  have HL := hid hl
  clear hr hrb hl
  generalize ks.take 2000 = key at *
  generalize zs.take 2000 = z at *
  have HS1 := hid (fun (w : World) (h : Below W.heap.size W w) (g : Nat) (hg : g = w.heap.size) => sum_one' a cap key b capb z w (HL.out.later h) (HR.out.later h) (HRB.out.later h) (by omega) (by omega) g hg)
  have hq := eq25 (hmac key z) (hmac_length _ _)
  have hg := guard25
  have hroom := HR.out.room
  have hmost := HR.out.most
  unfold maxLen at hmost
  go_enter Tryd.func8, Tryd.ntmps8
  go_wp2_with fail
  go_at_call 14
  refine HAW.out.mono ?_
  rintro _ w1 ⟨rfl, hb1⟩
  have HB1 := hid hb1
  clear hb1 HAW
  go_wp2_with fail
  go_at_call 9
  refine (HC1.out w1 HB1.out).mono ?_
  rintro _ w2 ⟨rfl, hw⟩
  obtain rfl := hw.symm
  clear hw
  go_wp2_with fail
  go_at_call 9
  refine (HC2.out w1 HB1.out).mono ?_
  rintro _ w2 ⟨rfl, hw⟩
  obtain rfl := hw.symm
  clear hw HC1 HC2
  by_cases h64 : key.length < 64
  · have h64' : (key.length : Int) < 64 := by omega
    have HHS := hid (hmac_short key z h64)
    go_wp2_with fail
    go_at_call 10
    refine (HS1.out w1 HB1.out w1.heap.size rfl).mono ?_
    rintro _ w2 ⟨rfl, hb2⟩
    have hB2 := Bn HB1.out hb2
    have hown := World.ownsRow_lit (base := w2.heap.size) (e := 5) (size := 1) w2 #[] 0 (Nat.le_refl _) (by unfold maxLen; omega) rfl
    have hb3 := bel_alloc w2 (.cells #[] 5)
    have s3 : (w2.alloc (.cells #[] 5)).heap.size = w2.heap.size + 1 := by simp
    have hr3 := HR.out.later (Bn hB2 hb3)
    have HB3 := hid (Bn hB2 hb3)
    go_wp2_with (at_builtin; refine app_any _ rfl _ _ rfl w2.heap.size _ [] rfl hown a cap key rfl hr3 (by simp; omega) (by omega) ?_)
    intro v4 w4 hown4 hgrow4
    have hz4 := hgrow4.size
    have hb4 : Below w2.heap.size w2 w4 := (hb3.grown hgrow4 (by omega) (fun j hj => (hown.lt j hj).1))
    have hb5 := hb4.alloc hb4.size (.cells #[.int .u8 0] 5)
    have hs5 : (w4.alloc (.cells #[.int .u8 0] 5)).heap.size = w4.heap.size + 1 := by simp
    have hz5 := hb4.size
    clear hown hgrow4
    go_wp2_with (at_builtin; refine wpList_append_own _ rfl _ _ 22 rfl w2.heap.size 5 i0 (.int .u8 0) 1 1 Tryd.underlying22 hi hz0 hz1 hz2 rfl (by decide) _ _ _ rfl (hown4.alloc _) ⟨w4.heap.size, 0, none⟩ 1 1 [.int .u8 0] rfl rfl (one_new' w4 0) (one_cell _) (by unfold maxLen; omega) (by omega) (by omega) ?_)
    intro v6 w6 hown6 hgrow6 _
    have hb6 := hb5.grown hgrow6 (by omega) (fun j hj => ((hown4.alloc (.cells #[.int .u8 0] 5)).lt j hj).1)
    have R : w6.ownsRow w2.heap.size 5 1 v6 (key ++ [0]).length (V (key ++ [0])) := by
      rw [List.length_append, show V (key ++ [0]) = V key ++ [.int .u8 0] from by simp [V]]
      exact hown6
    obtain ⟨g6, c6, hv6, _, hrd6⟩ := rd_own R (by simp) (getD_app _ _ HR.out.hi (by intro j; match j with | 0 => decide | j + 1 => simp))
    have hkl1 : (key ++ [0]).length ≤ 3000 := by simp; omega
    have HB6 := hid (Bn hB2 hb6)
    have HR6 := hid hrd6
    have HS6 := hid (sum_one' (some ⟨g6, 0, none⟩) c6 (key ++ [0]) b capb z w6 (HL.out.later HB6.out) (by rw [hv6] at hrd6; exact hrd6) (HRB.out.later HB6.out) hkl1 (by omega) w6.heap.size rfl)
    rw [HHS.out] at HS6
    subst hv6
    clear hown4 hown6 hgrow6 R hrd6 hb6 hb5 hb4 hr3 hb3 hb2 hB2 HR6 HS1
    generalize (key ++ [0]).length = kk at *
    generalize hmac key z = MM at *
    go_wp2_with fail
    go_at_call 10
    refine HS6.out.mono ?_
    rintro _ w7 ⟨rfl, hb7⟩
    have HB7 := hid (Bn HB6.out hb7)
    clear hb7
    go_wp2
    go_ret
    exact ⟨rfl, HB7.out⟩
  · have h64' : ¬ (key.length : Int) < 64 := by omega
    have HOF := hid (of_ref a cap key w1 (HR.out.later HB1.out) (by omega))
    go_wp2_with fail
    go_at_call 24
    refine HOF.out.mono ?_
    rintro _ w2 ⟨rfl, hb2⟩
    obtain ⟨q3, f3, z3⟩ := put_new w2 (digest key) 25 w2.heap.size rfl
    have hn2 := heap_new w2 (.cells (arr .u8 z32) 25)
    have HB3 := hid (Bn HB1.out (Bn hb2 q3))
    have hrd := Rd.block 32 (digest_len key) f3 (by decide) (digest_lt key)
    have HRD := hid hrd
    have hsd : (arr .u8 (digest key)).size = 32 := by rw [arr_size, digest_len]
    have HHL : Hid (64 < key.length → hmac (digest key) z = hmac key z) := fun h => hmac_long key z h
    have HDL := hid (digest_len key)
    clear hrd hb2 q3 f3 HS1
    generalize digest key = dk at *
    go_wp2_with (first
      | (refine wpList_alloc_at rfl 25 rfl (some 5) rfl (arr .u8 z32) Tryd.zero25 w2.heap.size rfl ?_)
      | (refine wpList_store_rowTo rfl 25 _ _ rfl rfl w2.heap.size (arr .u8 dk) rfl rfl 25 _ hn2 (by rw [hsd]; exact Tryd.size25) (by rw [hsd]; rfl) (arr_one _ _) ?_))
    generalize (w2.alloc (.cells (arr .u8 z32) 25)).setRow w2.heap.size (arr .u8 dk) = w3 at *
    refine wp_region_held_drew (S := fun w' => Below w3.heap.size w3 w') (by as_aux_lemma => kernel_rfl) (Below.refl _ _).drew (fun hS => ?_)
    generalize w3.drew = wD at *
    by_cases he : key.length = 64
    · have he' : ((key.length : Int) == 64) = true := by rw [beq_iff_eq]; omega
      refine Ord.take (i := 0) (d := 30) (v := ?v0) rfl rfl (by as_aux_lemma => kernel_rfl) (by as_aux_lemma => kernel_rfl) (by as_aux_lemma => kernel_rfl) (fun _ _ _ h => h) (by rfl) ?h0 (by assumption) ?_
      case h0 => intro w hSw; go_simp; try with_reducible rfl
      simp only [List.setIfInBounds_toArray, List.set_cons_zero, List.set_cons_succ]
      refine Ord.take (i := 1) (d := 31) (v := ?v1) rfl rfl (by as_aux_lemma => kernel_rfl) (by as_aux_lemma => kernel_rfl) (by as_aux_lemma => kernel_rfl) (fun _ _ _ h => h) (by rfl) ?h1 (by assumption) ?_
      case h1 => intro w hSw; go_simp; try with_reducible rfl
      simp only [List.setIfInBounds_toArray, List.set_cons_zero, List.set_cons_succ]
      refine Ord.take (i := 2) (d := 32) (v := .bool true) rfl rfl (by as_aux_lemma => kernel_rfl) (by as_aux_lemma => kernel_rfl) (by as_aux_lemma => kernel_rfl) (fun _ _ _ h => h) (by rfl) ?h2 (by assumption) ?_
      case h2 => intro w hSw; go_simp; try with_reducible rfl
      simp only [List.setIfInBounds_toArray, List.set_cons_zero, List.set_cons_succ]
      refine Ord.take (i := 3) (d := 33) (v := ?v3) rfl rfl (by as_aux_lemma => kernel_rfl) (by as_aux_lemma => kernel_rfl) (by as_aux_lemma => kernel_rfl) (fun _ _ _ h => h) (by rfl) ?h3 (by assumption) ?_
      case h3 => intro w hSw; go_simp; try with_reducible rfl
      simp only [List.setIfInBounds_toArray, List.set_cons_zero, List.set_cons_succ]
      refine Ord.skip (i := 4) (d := 34) rfl rfl (by as_aux_lemma => kernel_rfl) (by as_aux_lemma => kernel_rfl) (by as_aux_lemma => kernel_rfl) (fun _ _ _ h => h) (by rfl) (by assumption) ?_
      simp only [List.setIfInBounds_toArray, List.set_cons_zero, List.set_cons_succ]
      refine Ord.skip (i := 5) (d := 35) rfl rfl (by as_aux_lemma => kernel_rfl) (by as_aux_lemma => kernel_rfl) (by as_aux_lemma => kernel_rfl) (fun _ _ _ h => h) (by rfl) (by assumption) ?_
      simp only [List.setIfInBounds_toArray, List.set_cons_zero, List.set_cons_succ]
      refine Ord.skip (i := 6) (d := 36) rfl rfl (by as_aux_lemma => kernel_rfl) (by as_aux_lemma => kernel_rfl) (by as_aux_lemma => kernel_rfl) (fun _ _ _ h => h) (by rfl) (by assumption) ?_
      simp only [List.setIfInBounds_toArray, List.set_cons_zero, List.set_cons_succ]
      refine Ord.skip (i := 7) (d := 37) rfl rfl (by as_aux_lemma => kernel_rfl) (by as_aux_lemma => kernel_rfl) (by as_aux_lemma => kernel_rfl) (fun _ _ _ h => h) (by rfl) (by assumption) ?_
      simp only [List.setIfInBounds_toArray, List.set_cons_zero, List.set_cons_succ]
      refine Ord.skip (i := 8) (d := 38) rfl rfl (by as_aux_lemma => kernel_rfl) (by as_aux_lemma => kernel_rfl) (by as_aux_lemma => kernel_rfl) (fun _ _ _ h => h) (by rfl) (by assumption) ?_
      simp only [List.setIfInBounds_toArray, List.set_cons_zero, List.set_cons_succ]
      refine Ord.skip (i := 9) (d := 39) rfl rfl (by as_aux_lemma => kernel_rfl) (by as_aux_lemma => kernel_rfl) (by as_aux_lemma => kernel_rfl) (fun _ _ _ h => h) (by rfl) (by assumption) ?_
      simp only [List.setIfInBounds_toArray, List.set_cons_zero, List.set_cons_succ]
      refine Ord.skip (i := 10) (d := 40) rfl rfl (by as_aux_lemma => kernel_rfl) (by as_aux_lemma => kernel_rfl) (by as_aux_lemma => kernel_rfl) (fun _ _ _ h => h) (by rfl) (by assumption) ?_
      simp only [List.setIfInBounds_toArray, List.set_cons_zero, List.set_cons_succ]
      refine Ord.skip (i := 11) (d := 41) rfl rfl (by as_aux_lemma => kernel_rfl) (by as_aux_lemma => kernel_rfl) (by as_aux_lemma => kernel_rfl) (fun _ _ _ h => h) (by rfl) (by assumption) ?_
      simp only [List.setIfInBounds_toArray, List.set_cons_zero, List.set_cons_succ]
      refine Ord.skip (i := 12) (d := 42) rfl rfl (by as_aux_lemma => kernel_rfl) (by as_aux_lemma => kernel_rfl) (by as_aux_lemma => kernel_rfl) (fun _ _ _ h => h) (by rfl) (by assumption) ?_
      simp only [List.setIfInBounds_toArray, List.set_cons_zero, List.set_cons_succ]
      refine Ord.take (i := 13) (d := 43) (v := .bool true) rfl rfl (by as_aux_lemma => kernel_rfl) (by as_aux_lemma => kernel_rfl) (by as_aux_lemma => kernel_rfl) (fun _ _ _ h => h) (by rfl) ?h13 (by assumption) ?_
      case h13 => intro w hSw; go_simp; try with_reducible rfl
      simp only [List.setIfInBounds_toArray, List.set_cons_zero, List.set_cons_succ]
      refine Ord.take (i := 14) (d := 4) (v := .bool true) rfl rfl (by as_aux_lemma => kernel_rfl) (by as_aux_lemma => kernel_rfl) (by as_aux_lemma => kernel_rfl) (fun _ _ _ h => h) (by rfl) ?h14 (by assumption) ?_
      case h14 => intro w hSw; go_simp; try with_reducible rfl
      simp only [List.setIfInBounds_toArray, List.set_cons_zero, List.set_cons_succ]
      refine wpAnyH_done (by as_aux_lemma => kernel_rfl) ?_ _
      have HE := hid (Bn HB3.out hS)
      clear hS
      go_wp2
      go_ret
      exact ⟨rfl, HE.out⟩
    · have he' : ((key.length : Int) == 64) = false := by rw [beq_eq_false_iff_ne]; omega
      have HHL2 := hid (HHL.out (by omega))
      refine Ord.take (i := 0) (d := 30) (v := ?v0b) rfl rfl (by as_aux_lemma => kernel_rfl) (by as_aux_lemma => kernel_rfl) (by as_aux_lemma => kernel_rfl) (fun _ _ _ h => h) (by rfl) ?h0 (by assumption) ?_
      case h0 => intro w hSw; go_simp; try with_reducible rfl
      simp only [List.setIfInBounds_toArray, List.set_cons_zero, List.set_cons_succ]
      refine Ord.take (i := 1) (d := 31) (v := ?v1b) rfl rfl (by as_aux_lemma => kernel_rfl) (by as_aux_lemma => kernel_rfl) (by as_aux_lemma => kernel_rfl) (fun _ _ _ h => h) (by rfl) ?h1 (by assumption) ?_
      case h1 => intro w hSw; go_simp; try with_reducible rfl
      simp only [List.setIfInBounds_toArray, List.set_cons_zero, List.set_cons_succ]
      refine Ord.take (i := 2) (d := 32) (v := .bool false) rfl rfl (by as_aux_lemma => kernel_rfl) (by as_aux_lemma => kernel_rfl) (by as_aux_lemma => kernel_rfl) (fun _ _ _ h => h) (by rfl) ?h2 (by assumption) ?_
      case h2 => intro w hSw; go_simp; try with_reducible rfl
      simp only [List.setIfInBounds_toArray, List.set_cons_zero, List.set_cons_succ]
      refine Ord.take (i := 3) (d := 33) (v := ?v3b) rfl rfl (by as_aux_lemma => kernel_rfl) (by as_aux_lemma => kernel_rfl) (by as_aux_lemma => kernel_rfl) (fun _ _ _ h => h) (by rfl) ?h3 (by assumption) ?_
      case h3 => intro w hSw; go_simp; try with_reducible rfl
      simp only [List.setIfInBounds_toArray, List.set_cons_zero, List.set_cons_succ]
      refine Ord.take (i := 4) (d := 34) (v := ?v4b) rfl rfl (by as_aux_lemma => kernel_rfl) (by as_aux_lemma => kernel_rfl) (by as_aux_lemma => kernel_rfl) (fun _ _ _ h => h) (by rfl) ?h4 (by assumption) ?_
      case h4 => intro w hSw; go_simp; try with_reducible rfl
      simp only [List.setIfInBounds_toArray, List.set_cons_zero, List.set_cons_succ]
      refine Ord.take (i := 5) (d := 35) (v := ?v5b) rfl rfl (by as_aux_lemma => kernel_rfl) (by as_aux_lemma => kernel_rfl) (by as_aux_lemma => kernel_rfl) (fun _ _ _ h => h) (by rfl) ?h5 (by assumption) ?_
      case h5 => intro w hSw; go_simp; try with_reducible rfl
      simp only [List.setIfInBounds_toArray, List.set_cons_zero, List.set_cons_succ]
      refine Ord.take (i := 8) (d := 38) (v := .slice (some ⟨w2.heap.size, 0, none⟩) 32 32) rfl rfl (by as_aux_lemma => kernel_rfl) (by as_aux_lemma => kernel_rfl) (by as_aux_lemma => kernel_rfl) (fun _ _ _ h => h) (by rfl) ?h8 (by assumption) ?_
      case h8 => intro w hSw; go_simp; try with_reducible rfl
      simp only [List.setIfInBounds_toArray, List.set_cons_zero, List.set_cons_succ]
      refine Ord.take (i := 9) (d := 39) (v := ?v9b) rfl rfl (by as_aux_lemma => kernel_rfl) (by as_aux_lemma => kernel_rfl) (by as_aux_lemma => kernel_rfl) (fun _ _ _ h => h) (by rfl) ?h9 (by assumption) ?_
      case h9 => intro w hSw; go_simp; try with_reducible rfl
      simp only [List.setIfInBounds_toArray, List.set_cons_zero, List.set_cons_succ]
      refine wpAnyH_ready (rs := [6, 10]) (by as_aux_lemma => kernel_rfl) (by simp) (AllReadyH.cons rfl (fun K hK => ?_) (AllReadyH.cons rfl (fun K hK => ?_) AllReadyH.nil))
      · go_simp
        have hb1 := bel_alloc wD (.cells #[.slice b z.length capb] 22)
        have hp1 := Ps.one (HRB.out.later (Bn HB3.out hS)) wD.heap.size rfl
        have hS1 := Bn hS hb1
        refine hK.out _ _ hS1 (fun _ => ?_)
        clear hK K
        generalize wD.alloc (.cells #[.slice b z.length capb] 22) = x1 at *
        refine wpAnyH_ready (rs := [7, 10]) (by as_aux_lemma => kernel_rfl) (by simp) (AllReadyH.cons rfl (fun K hK => ?_) (AllReadyH.cons rfl (fun K hK => ?_) AllReadyH.nil))
        · have hc2 := sum_ps a cap key ⟨wD.heap.size, 0, none⟩ z x1 (HL.out.later (Bn HB3.out hS1)) (HR.out.later (Bn HB3.out hS1)) hp1 (by omega) (by omega)
          go_simp
          refine hc2.mono ?_
          rintro _ x2 ⟨rfl, hb2⟩
          have hS2 := Bn hS1 hb2
          have hq2 := hp1.later hb2
          clear hc2
          refine hK.out _ _ hS2 (fun _ => ?_)
          clear hK K
          refine wpAnyH_ready (rs := [10]) (by as_aux_lemma => kernel_rfl) (by simp) (AllReadyH.cons rfl (fun K hK => ?_) AllReadyH.nil)
          go_simp
          have hb3 := bel_alloc x2 (.cells #[.slice b z.length capb] 22)
          have hp3 := Ps.one (HRB.out.later (Bn HB3.out hS2)) x2.heap.size rfl
          have hS3 := Bn hS2 hb3
          have hq3 := hq2.later hb3
          refine hK.out _ _ hS3 (fun _ => ?_)
          clear hK K
          generalize x2.alloc (.cells #[.slice b z.length capb] 22) = x3 at *
          refine wpAnyH_ready (rs := [11]) (by as_aux_lemma => kernel_rfl) (by simp) (AllReadyH.cons rfl (fun K hK => ?_) AllReadyH.nil)
          have hc4 := sum_ps (some ⟨w2.heap.size, 0, none⟩) 32 dk ⟨x2.heap.size, 0, none⟩ z x3 (HL.out.later (Bn HB3.out hS3)) (by rw [HDL.out]; exact HRD.out.later hS3) hp3 (by rw [HDL.out]; omega) (by omega)
          rw [HHL2.out, HDL.out] at hc4
          go_simp
          refine hc4.mono ?_
          rintro _ x4 ⟨rfl, hb4⟩
          have hS4 := Bn hS3 hb4
          have hq4 := hq3.later hb4
          have hr4 := hp3.later hb4
          clear hc4
          refine hK.out _ _ hS4 (fun _ => ?_)
          clear hK K
          refine Ord.take (i := 12) (d := 42) (v := .bool true) rfl rfl (by as_aux_lemma => kernel_rfl) (by as_aux_lemma => kernel_rfl) (by as_aux_lemma => kernel_rfl) (fun _ _ _ h => h) (by rfl) ?h12 (by assumption) ?_
          case h12 => exact fun w _ => run_eql_op rfl rfl rfl hg (hq w)
          simp only [List.setIfInBounds_toArray, List.set_cons_zero, List.set_cons_succ]
          refine Ord.take (i := 13) (d := 43) (v := .bool true) rfl rfl (by as_aux_lemma => kernel_rfl) (by as_aux_lemma => kernel_rfl) (by as_aux_lemma => kernel_rfl) (fun _ _ _ h => h) (by rfl) ?h13 (by assumption) ?_
          case h13 => intro w hSw; go_simp; try with_reducible rfl
          simp only [List.setIfInBounds_toArray, List.set_cons_zero, List.set_cons_succ]
          refine Ord.take (i := 14) (d := 4) (v := .bool true) rfl rfl (by as_aux_lemma => kernel_rfl) (by as_aux_lemma => kernel_rfl) (by as_aux_lemma => kernel_rfl) (fun _ _ _ h => h) (by rfl) ?h14 (by assumption) ?_
          case h14 => intro w hSw; go_simp; try with_reducible rfl
          simp only [List.setIfInBounds_toArray, List.set_cons_zero, List.set_cons_succ]
          refine wpAnyH_done (by as_aux_lemma => kernel_rfl) ?_ _
          have HE := hid (Bn HB3.out hS4)
          clear hS
          go_wp2
          go_ret
          exact ⟨rfl, HE.out⟩
        · go_simp
          have hb5 := bel_alloc x1 (.cells #[.slice b z.length capb] 22)
          have hp5 := Ps.one (HRB.out.later (Bn HB3.out hS1)) x1.heap.size rfl
          have hS5 := Bn hS1 hb5
          have hq5 := hp1.later hb5
          refine hK.out _ _ hS5 (fun _ => ?_)
          clear hK K
          generalize x1.alloc (.cells #[.slice b z.length capb] 22) = x5 at *
          refine wpAnyH_ready (rs := [7]) (by as_aux_lemma => kernel_rfl) (by simp) (AllReadyH.cons rfl (fun K hK => ?_) AllReadyH.nil)
          have hc6 := sum_ps a cap key ⟨wD.heap.size, 0, none⟩ z x5 (HL.out.later (Bn HB3.out hS5)) (HR.out.later (Bn HB3.out hS5)) hq5 (by omega) (by omega)
          go_simp
          refine hc6.mono ?_
          rintro _ x6 ⟨rfl, hb6⟩
          have hS6 := Bn hS5 hb6
          have hq6 := hq5.later hb6
          have hr6 := hp5.later hb6
          clear hc6
          refine hK.out _ _ hS6 (fun _ => ?_)
          clear hK K
          refine wpAnyH_ready (rs := [11]) (by as_aux_lemma => kernel_rfl) (by simp) (AllReadyH.cons rfl (fun K hK => ?_) AllReadyH.nil)
          have hc7 := sum_ps (some ⟨w2.heap.size, 0, none⟩) 32 dk ⟨x1.heap.size, 0, none⟩ z x6 (HL.out.later (Bn HB3.out hS6)) (by rw [HDL.out]; exact HRD.out.later hS6) hr6 (by rw [HDL.out]; omega) (by omega)
          rw [HHL2.out, HDL.out] at hc7
          go_simp
          refine hc7.mono ?_
          rintro _ x7 ⟨rfl, hb7⟩
          have hS7 := Bn hS6 hb7
          have hq7 := hq6.later hb7
          have hr7 := hr6.later hb7
          clear hc7
          refine hK.out _ _ hS7 (fun _ => ?_)
          clear hK K
          refine Ord.take (i := 12) (d := 42) (v := .bool true) rfl rfl (by as_aux_lemma => kernel_rfl) (by as_aux_lemma => kernel_rfl) (by as_aux_lemma => kernel_rfl) (fun _ _ _ h => h) (by rfl) ?h12 (by assumption) ?_
          case h12 => exact fun w _ => run_eql_op rfl rfl rfl hg (hq w)
          simp only [List.setIfInBounds_toArray, List.set_cons_zero, List.set_cons_succ]
          refine Ord.take (i := 13) (d := 43) (v := .bool true) rfl rfl (by as_aux_lemma => kernel_rfl) (by as_aux_lemma => kernel_rfl) (by as_aux_lemma => kernel_rfl) (fun _ _ _ h => h) (by rfl) ?h13 (by assumption) ?_
          case h13 => intro w hSw; go_simp; try with_reducible rfl
          simp only [List.setIfInBounds_toArray, List.set_cons_zero, List.set_cons_succ]
          refine Ord.take (i := 14) (d := 4) (v := .bool true) rfl rfl (by as_aux_lemma => kernel_rfl) (by as_aux_lemma => kernel_rfl) (by as_aux_lemma => kernel_rfl) (fun _ _ _ h => h) (by rfl) ?h14 (by assumption) ?_
          case h14 => intro w hSw; go_simp; try with_reducible rfl
          simp only [List.setIfInBounds_toArray, List.set_cons_zero, List.set_cons_succ]
          refine wpAnyH_done (by as_aux_lemma => kernel_rfl) ?_ _
          have HE := hid (Bn HB3.out hS7)
          clear hS
          go_wp2
          go_ret
          exact ⟨rfl, HE.out⟩
      · go_simp
        have hb8 := bel_alloc wD (.cells #[.slice b z.length capb] 22)
        have hp8 := Ps.one (HRB.out.later (Bn HB3.out hS)) wD.heap.size rfl
        have hS8 := Bn hS hb8
        refine hK.out _ _ hS8 (fun _ => ?_)
        clear hK K
        generalize wD.alloc (.cells #[.slice b z.length capb] 22) = x8 at *
        refine wpAnyH_ready (rs := [6]) (by as_aux_lemma => kernel_rfl) (by simp) (AllReadyH.cons rfl (fun K hK => ?_) AllReadyH.nil)
        go_simp
        have hb9 := bel_alloc x8 (.cells #[.slice b z.length capb] 22)
        have hp9 := Ps.one (HRB.out.later (Bn HB3.out hS8)) x8.heap.size rfl
        have hS9 := Bn hS8 hb9
        have hr9 := hp8.later hb9
        refine hK.out _ _ hS9 (fun _ => ?_)
        clear hK K
        generalize x8.alloc (.cells #[.slice b z.length capb] 22) = x9 at *
        refine wpAnyH_ready (rs := [7]) (by as_aux_lemma => kernel_rfl) (by simp) (AllReadyH.cons rfl (fun K hK => ?_) AllReadyH.nil)
        have hc10 := sum_ps a cap key ⟨x8.heap.size, 0, none⟩ z x9 (HL.out.later (Bn HB3.out hS9)) (HR.out.later (Bn HB3.out hS9)) hp9 (by omega) (by omega)
        go_simp
        refine hc10.mono ?_
        rintro _ x10 ⟨rfl, hb10⟩
        have hS10 := Bn hS9 hb10
        have hq10 := hp9.later hb10
        have hr10 := hr9.later hb10
        clear hc10
        refine hK.out _ _ hS10 (fun _ => ?_)
        clear hK K
        refine wpAnyH_ready (rs := [11]) (by as_aux_lemma => kernel_rfl) (by simp) (AllReadyH.cons rfl (fun K hK => ?_) AllReadyH.nil)
        have hc11 := sum_ps (some ⟨w2.heap.size, 0, none⟩) 32 dk ⟨wD.heap.size, 0, none⟩ z x10 (HL.out.later (Bn HB3.out hS10)) (by rw [HDL.out]; exact HRD.out.later hS10) hr10 (by rw [HDL.out]; omega) (by omega)
        rw [HHL2.out, HDL.out] at hc11
        go_simp
        refine hc11.mono ?_
        rintro _ x11 ⟨rfl, hb11⟩
        have hS11 := Bn hS10 hb11
        have hq11 := hq10.later hb11
        have hr11 := hr10.later hb11
        clear hc11
        refine hK.out _ _ hS11 (fun _ => ?_)
        clear hK K
        refine Ord.take (i := 12) (d := 42) (v := .bool true) rfl rfl (by as_aux_lemma => kernel_rfl) (by as_aux_lemma => kernel_rfl) (by as_aux_lemma => kernel_rfl) (fun _ _ _ h => h) (by rfl) ?h12 (by assumption) ?_
        case h12 => exact fun w _ => run_eql_op rfl rfl rfl hg (hq w)
        simp only [List.setIfInBounds_toArray, List.set_cons_zero, List.set_cons_succ]
        refine Ord.take (i := 13) (d := 43) (v := .bool true) rfl rfl (by as_aux_lemma => kernel_rfl) (by as_aux_lemma => kernel_rfl) (by as_aux_lemma => kernel_rfl) (fun _ _ _ h => h) (by rfl) ?h13 (by assumption) ?_
        case h13 => intro w hSw; go_simp; try with_reducible rfl
        simp only [List.setIfInBounds_toArray, List.set_cons_zero, List.set_cons_succ]
        refine Ord.take (i := 14) (d := 4) (v := .bool true) rfl rfl (by as_aux_lemma => kernel_rfl) (by as_aux_lemma => kernel_rfl) (by as_aux_lemma => kernel_rfl) (fun _ _ _ h => h) (by rfl) ?h14 (by assumption) ?_
        case h14 => intro w hSw; go_simp; try with_reducible rfl
        simp only [List.setIfInBounds_toArray, List.set_cons_zero, List.set_cons_succ]
        refine wpAnyH_done (by as_aux_lemma => kernel_rfl) ?_ _
        have HE := hid (Bn HB3.out hS11)
        clear hS
        go_wp2
        go_ret
        exact ⟨rfl, HE.out⟩

set_option maxRecDepth 100000 in
theorem lifted (os : Os) (started : os.Started) (H : Type) (enc : TypeId × Value → H) :
    ReturnsInHanded {} Tryd.checked os 8 .any (fun w args => (Rows.macKeysSpec.pre enc Tryd.prog Tryd.f8 [] false w args ∧ laidMetH Tryd.prog laidL w) ∧ sizedMet enc Tryd.prog Tryd.f8 (OpenSpec.ofChange Rows.macKeysSpec) false w args)
      (Rows.macKeysSpec.post enc Tryd.prog Tryd.f8 false true false false) := by
  refine returnsInHanded_of_change_and (C := Tryd.checked) (X := fun w _ => laidMetH Tryd.prog laidL w) (fun _ _ _ hh h => h.of_heap hh) own started (by kernel_rfl) Tryd.func8
    (ChangeSpec.witness_shaped (enc := enc) (C := Tryd.checked) (os := os) (X := fun w _ => laidMetH Tryd.prog laidL w) false (World.doorLaid Tryd.prog 400 os) #[.slice none 0 0, .slice none 0 0] 8 rfl (World.shaped_of_RefB (by kernel_rfl) (by kernel_rfl)) (by kernel_rfl) (by kernel_rfl) (by kernel_rfl) (door_met os _)) ?_
  intro W base args ds gs before hval0 hW _ _ hL _
  have hval : ∀ (j : Nat) t v, Tryd.f8.params[j]? = some t → args[j]? = some v → Value.okWide Tryd.prog W .any base t v := hval0
  have hW' := hW
  obtain ⟨p, q, hA0, hV, rfl, _, _⟩ := hW
  have hA : DataW.TrodAll enc Tryd.prog W 0 (fun _ => true) true Tryd.f8.params.toList args.toList ds p := hA0
  rw [Tryd.params8] at hA hval
  obtain ⟨v0, vs0, d0, ds0, p0, q0, hargs, rfl, rfl, h0, r0⟩ := trodAll_cons hA
  obtain ⟨v1, vs1, d1, ds1, p1, q1, rfl, rfl, rfl, h1, r1⟩ := trodAll_cons r0
  obtain ⟨rfl, rfl, rfl⟩ := trodAll_nil r1
  obtain rfl : args = #[v0, v1] := by cases args; simp_all
  obtain ⟨rfl, rfl⟩ := trodVars_none hV
  have hlaid := of_laid hL
  clear hA0
  simp only [List.append_nil] at hW'
  have hlt0 : ∀ x ∈ p0, x.block < W.heap.size := fun x hx => hW'.lt x (by simp [hx])
  have hk0 := h0
  obtain ⟨a0, cap0, zs0, rfl, hr0⟩ := open_rd (hval 0 22 v0 rfl rfl) h0 hlt0
  have hlt1 : ∀ x ∈ p1, x.block < W.heap.size := fun x hx => hW'.lt x (by simp [hx])
  have hk1 := h1
  obtain ⟨a1, cap1, zs1, rfl, hr1⟩ := open_rd (hval 1 22 v1 rfl rfl) h1 hlt1
  clear hval0
  refine (walk a0 cap0 zs0 a1 cap1 zs1 W hlaid hr0 hr1).mono fun e W' ⟨he, hb⟩ => ?_
  subst he
  exact ⟨_, rfl, _, _, _, [] ++ [], _, [], hW', trodAll_cons_mk (shut_bool Tryd.underlying4 _) trodAll_mk0, (trodAll_cons_mk (Below.trod Tryd.laidOut (by kernel_rfl) (of_decide_eq_true (by kernel_rfl)) hk0 hb hlt0) (trodAll_cons_mk (Below.trod Tryd.laidOut (by kernel_rfl) (of_decide_eq_true (by kernel_rfl)) hk1 hb hlt1) trodAll_mk0)), rfl, hb.frame _, fun h => by cases h⟩

theorem over : Rows.macKeysRow.holds Tryd.pinned (OpenSpec.ofChange Rows.macKeysSpec) :=
  OpenClaim.holds_of_wide 8 Tryd.f8 rfl rfl rfl rfl rfl rfl rfl ⟨rfl, rfl, rfl, rfl, rfl⟩ rfl rfl rfl rfl rfl (by kernel_rfl) Tryd.func8 (by kernel_rfl)
    (of_decide_eq_true (by kernel_rfl)) (by unfold Func.isWrapper; first | (rw [if_pos (by decide +kernel)]; kernel_rfl) | (rw [if_neg (by decide +kernel)]; exact ⟨rfl, rfl⟩))
    (fun os started H enc _ => lifted os started H enc)

theorem card : Rows.MacKeysCardSaid :=
  Claim7.holds_tied_plain_at .later [] [.data, .data] true (true, "2cc0e993b3b64b7b1edc58afe05f57fbf6a628b0274488cf50cfbb3c249229ab") false
    over (fun _ h => by cases h) (by kernel_rfl) (fun _ h => by cases h) macKeys_row_tie rfl ⟨rfl, rfl⟩ (by kernel_rfl) rfl
    (fun f fn hf hfn => by
      obtain rfl : f = 8 := Option.some.inj ((show Tryd.prog.funcNamed "saltern/salternlaw04.MacKeys" = some 8 by kernel_rfl).symm.trans hf) |>.symm
      obtain rfl : fn = Tryd.f8 := (Option.some.inj (Tryd.func8.symm.trans hfn)).symm
      exact ⟨by kernel_rfl, fun j t ht => by
        rw [Tryd.params8] at ht
        have hm : t ∈ [22, 22] := by simpa using Array.mem_of_getElem? ht
        have hall : ([22, 22].all fun u => !Tryd.prog.wantsStandIn u) = true := by kernel_rfl
        exact (show Tryd.prog.wantsStandIn t = false by simpa using List.all_eq_true.1 hall t hm)⟩)
    (by kernel_rfl)

end Go.Proofs.YtkipepodgmfbnaaDoor.macKeys
namespace Go.Proofs.YtkipepodgmfbnaaDoor
theorem macKeys_holds : Rows.MacKeysCardSaid := macKeys.card
#print axioms macKeys_holds
end Go.Proofs.YtkipepodgmfbnaaDoor
