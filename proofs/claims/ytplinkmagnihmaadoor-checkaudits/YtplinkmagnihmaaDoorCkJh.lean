/-
  Both Audits say the same. The document's Audit.
-/
import Derived.Test.YtplinkmagnihmaaDoorCkJg
import Derived.Test.YtplinkmagnihmaaDoorCkJf
namespace Go.Proofs.YtplinkmagnihmaaDoor
open Go.ChangeShapes Go.WideShapes Go.ChangeAt Go.RowKit Go.Deep Go.Lib

/-- What the document's Audit answers. -/
def DR (key : List Nat) (l : List Rec) (ms : List Mrk) (f : Int × Int × Int) : Prop :=
  (¬ (wlk hdZ l 0).2.2 = 0 ∧ f = (1, ((wlk hdZ l 0).2.1 : Int), 0)) ∨ ((wlk hdZ l 0).2.2 = 0 ∧ D2 key l ms ms.length f)
set_option maxHeartbeats 12800000 in
set_option maxRecDepth 100000 in
theorem daudit_word (ka : Option Addr) (kc : Nat) (key : List Nat) (ra : Option Addr) (rc : Nat) (l : List Rec) (ma : Option Addr) (mc : Nat) (ms : List Mrk) (w : World) (hk : Sh.Rd w (.slice ka key.length kc) ka kc key) (hkf : key.length ≤ 100000)
    (hr : Rr w ra rc l) (hn : ∀ r ∈ l, r.ps.length ≤ 1000) (hm : Rw 67 mkV mkZ w ma mc ms) (hok : ∀ m ∈ ms, MOk m) (hmf : ms.length ≤ 90000) :
    Calls Tryd.prog 17 #[.slice ka key.length kc, .slice ra l.length rc, .slice ma ms.length mc] w fun e w' => (∃ f, e = .returned (.agg (fnV f).toArray) ∧ DR key l ms f) ∧ Below w.heap.size w w' := by
  have hmroom := hm.room
  have hmmost := hm.most
  unfold maxLen at hmmost
  have hroom := hr.room
  have hmost := hr.most
  unfold maxLen at hmost
  have HM := hid hm
  have HOK := hid hok
  have HWK := hid (fun V (hV : Below w.heap.size w V) => (show Calls Tryd.prog 22 #[.agg #[.int .i64 0, .int .i64 0, .int .u8 0, .int .u8 0, .int .u8 0, .int .u8 0, .int .u8 0, .int .u8 0, .int .u8 0, .int .u8 0, .int .u8 0, .int .u8 0, .int .u8 0, .int .u8 0, .int .u8 0, .int .u8 0, .int .u8 0, .int .u8 0, .int .u8 0, .int .u8 0, .int .u8 0, .int .u8 0, .int .u8 0, .int .u8 0, .int .u8 0, .int .u8 0, .int .u8 0, .int .u8 0, .int .u8 0, .int .u8 0, .int .u8 0, .int .u8 0, .int .u8 0, .int .u8 0], .slice ra l.length rc] V (fun e w' => e = .returned (.tuple #[.agg (hdV (wlk hdZ l 0).1).toArray, .int .i64 ((wlk hdZ l 0).2.1 : Int), .int .i64 (wlk hdZ l 0).2.2]) ∧ Below V.heap.size V w') from dwalk_word hdZ ra rc l V rfl (hr.later hV) hn))
  have HSE := hid (fun V (hV : Below w.heap.size w V) i (hi : i < ms.length) => dsealed_word ka kc key (ms.getD i mkZ) V (hk.later hV) hkf (mk_get hi hok))
  have HHA := hid (fun V (hV : Below w.heap.size w V) i (hi : i < ms.length) => dhas_word (ms.getD i mkZ).2.1 ra rc l V (mk_get hi hok).hd.len (hr.later hV) hn)
  have HXL := hid (wlk_len l hdZ 0 rfl)
  have HZ40 := hid Tryd.zero40
  have HZ27 := hid Tryd.zero27
  obtain ⟨mn, hmn⟩ : ∃ n, n = ms.length := ⟨_, rfl⟩
  obtain ⟨len, hle⟩ : ∃ n, n = l.length := ⟨_, rfl⟩
  obtain ⟨kn, hkn⟩ : ∃ n, n = key.length := ⟨_, rfl⟩
  obtain ⟨G, hG⟩ : ∃ G, G = w.heap.size := ⟨_, rfl⟩
  have HMN := hid hmn
  have HLN := hid hle
  have HGQ := hid hG
  obtain ⟨PP, hPP⟩ : ∃ PP : Int × Int × Int → Prop, PP = DR key l ms := ⟨_, rfl⟩
  have HPP := hid hPP
  rw [← hPP]
  unfold DR at hPP
  rw [← hmn] at hPP
  have HPD := hid hPP
  rw [← hmn] at hmroom hmf HSE HHA
  rw [← hle] at hroom HWK HHA
  rw [← hkn] at hkf HSE
  rw [← hmn, ← hle, ← hkn]
  clear hk hr hn hm hok hmn hle hkn hG hPP
  obtain ⟨X, hX⟩ : ∃ X, X = (wlk hdZ l 0).1 := ⟨_, rfl⟩
  obtain ⟨E, hE⟩ : ∃ E, E = (wlk hdZ l 0).2.2 := ⟨_, rfl⟩
  obtain ⟨K0, hK0⟩ : ∃ K0, K0 = (wlk hdZ l 0).2.1 := ⟨_, rfl⟩
  rw [← hX, ← hE, ← hK0] at HWK
  rw [← hE, ← hK0] at HPD
  rw [← hX] at HXL
  clear hX hE hK0
  have HXV := hid (hdV_len HXL.out)
  go_enter Tryd.func17, Tryd.ntmps17
  go_wp2_with (first | refine wpList_alloc_W rfl 40 rfl (some 6) rfl _ HZ40.out G HGQ.out ?_ | fail)
  intro V1 HG1 HBl1 HS1
  have HB1 : Hid (Below w.heap.size w V1) := by show Below _ _ _; rw [← HGQ.out]; exact HBl1.out
  clear HBl1 HS1
  go_wp2_with fail
  refine (HWK.out V1 HB1.out).mono ?_
  rintro _ V2 ⟨rfl, hb2⟩
  have HB2 := hid (Bn HB1.out hb2)
  have HG2 := hid (blk_later HG1.out hb2)
  obtain ⟨g2, hg2⟩ : ∃ g2, g2 = V2.heap.size := ⟨_, rfl⟩
  have HGB := hid hg2
  clear hb2 hg2 HB1 HG1 HWK
  go_wp2_with (first | refine wpList_alloc_W rfl 27 rfl (some 7) rfl _ HZ27.out g2 HGB.out ?_ | fail)
  intro V3 HG3 HB3 HS3
  go_wp2_with (first | refine wpList_store_W rfl 27 _ _ rfl rfl g2 (hdV X).toArray rfl rfl 27 _ HG3.out (by rw [List.size_toArray, HXV.out]; exact Tryd.size27) (by simp only [List.size_toArray, HXV.out]; rfl) (all_oneCell_toArray (show ∀ u ∈ hdV X, u.oneCell' = true from hdL_one _ _ _)) ?_ | fail)
  intro V4 HG4 HGR4 HS4
  have HB4' : Hid (Below V2.heap.size V2 V4) := by
    show Below _ _ _
    rw [← HGB.out]
    exact HB3.out.trans (bel_grown HGR4.out (Nat.le_refl _) (by rw [HGB.out]; exact HB3.out.size))
  have HB4 := hid (Bn HB2.out HB4'.out)
  have HG5 := hid (blk_later HG2.out HB4'.out)
  clear HG3 HB3 HS3 HG4 HGR4 HS4 HB4' HGB HB2 HG2
  by_cases hE : E = 0
  · have HPE : Hid (∀ f, D2 key l ms mn f → PP f) := fun f hf => by rw [HPD.out]; exact .inr ⟨hE, hf⟩
    clear HPD
    go_wp2
    go_loopw [10] (fun x10 wr => ∃ i : Nat, i ≤ mn ∧ x10 = .int .i64 (i : Int) ∧ Hid (Below w.heap.size w wr) ∧ Hid (wr.heap[G]? = some (.cells (fnV (0, 0, 0)).toArray 40)) ∧ Hid (∀ j, j < i → ¬ unS key ms j)) (fun x10 _ => mn - (RowKit.intOf x10).toNat)
    case atStart => exact ⟨0, by omega, rfl, HB4.out, HG5.out, fun j hj => absurd hj (Nat.not_lt_zero _)⟩
    case round =>
      obtain ⟨i, hi, rfl, HBI, HGI, HNI⟩ := hrel
      clear HB4 HG5
      by_cases hlt : i < mn
      · have hiz : (i : Int) < (mn : Int) := by omega
        obtain ⟨b, off, rfl, hbw, hc⟩ := HM.out.cells (by rw [← HMN.out]; omega)
        have hrg := hc i (by rw [← HMN.out]; exact hlt)
        have HRG := hid (range_later hrg HBI.out hbw)
        have HMV := hid (mkV_len (mk_get (n := i) (by rw [← HMN.out]; exact hlt) HOK.out))
        have HCA := hid (HSE.out wr HBI.out i hlt)
        obtain ⟨q, hq⟩ : ∃ q, q = sealedB key (ms.getD i mkZ) := ⟨_, rfl⟩
        rw [← hq] at HCA
        have HQ := hid hq
        clear hrg hc hbw hq
        go_wp2_with (first | refine wpList_load_P rfl 45 _ rfl b (off + i * 67) rfl (mkV (ms.getD i mkZ)) _ HRG.out Tryd.underlying45 rfl (by rw [HMV.out]; exact Tryd.size45) ?_ | fail)
        refine HCA.out.mono ?_
        rintro _ W5 ⟨rfl, hb5⟩
        have HB5 := hid (Bn HBI.out hb5)
        have HG5 := hid (blk_later HGI.out hb5)
        clear hb5 HCA HRG HMV
        cases q
        · have HAU : Hid (PP (2, (i : Int), 0)) := HPE.out _ (.inl ⟨i, hlt, rfl, HQ.out.symm, HNI.out⟩)
          go_wp2_with (first | refine wpList_store_W rfl 40 _ _ rfl rfl G (fnV (2, (i : Int), 0)).toArray rfl rfl 40 _ HG5.out Tryd.size40c rfl (fnV_one _) ?_ | fail)
          intro V5 HG6 HGR5 HS5
          have HB6 : Hid (Below w.heap.size w V5) := HB5.out.trans (bel_grown HGR5.out (by rw [HGQ.out]; exact Nat.le_refl _) HB5.out.size)
          go_wp2
          refine bodyPost_ret (results_cell_row (ty := 40) rfl _ _ _ _ _ _ _ rfl HG6.out Tryd.underlying40 rfl Tryd.size40) rfl ?_
          exact ⟨⟨_, rfl, HAU.out⟩, HB6.out⟩
        · have HNJ : Hid (∀ j, j < i + 1 → ¬ unS key ms j) := below_succ HNI.out (fun e => by unfold unS at e; rw [← HQ.out] at e; cases e)
          go_wp2
          go_round
          case rel => exact ⟨i + 1, by omega, by go_num, HB5.out, HG5.out, HNJ.out⟩
          case measure => simp [RowKit.intOf]; omega
      · have hie : i = mn := by omega
        have hiz : ¬ (i : Int) < (mn : Int) := by omega
        rw [hie] at HNI
        clear hie
        go_wp2
        go_loopw [11] (fun x11 wr => ∃ k : Nat, k ≤ mn ∧ x11 = .int .i64 (k : Int) ∧ Hid (Below w.heap.size w wr) ∧ Hid (wr.heap[G]? = some (.cells (fnV (0, 0, 0)).toArray 40)) ∧ Hid (∀ k', k' < k → ∀ j', j' < k' → ¬ clash ms j' k')) (fun x11 _ => mn - (RowKit.intOf x11).toNat)
        case atStart => exact ⟨0, by omega, rfl, HBI.out, HGI.out, fun j hj => absurd hj (Nat.not_lt_zero _)⟩
        case round =>
          clear HBI HGI
          obtain ⟨k, hk, rfl, HBK, HGK, HNK⟩ := hrel
          by_cases hlt : k < mn
          · have hkz : (k : Int) < (mn : Int) := by omega
            go_wp2
            go_loopw [12] (fun x12 wr => ∃ j : Nat, j ≤ k ∧ x12 = .int .i64 (j : Int) ∧ Hid (Below w.heap.size w wr) ∧ Hid (wr.heap[G]? = some (.cells (fnV (0, 0, 0)).toArray 40)) ∧ Hid (∀ j', j' < j → ¬ clash ms j' k)) (fun x12 _ => k - (RowKit.intOf x12).toNat)
            case atStart => exact ⟨0, by omega, rfl, HBK.out, HGK.out, fun j hj => absurd hj (Nat.not_lt_zero _)⟩
            case round =>
              obtain ⟨j, hj, rfl, HBJ, HGJ, HNJ⟩ := hrel
              clear HBK HGK
              by_cases hltj : j < k
              · have hjz : (j : Int) < (k : Int) := by omega
                have hjm : j < mn := by omega
                have hjn : (j : Int) < (mn : Int) := by omega
                obtain ⟨b, off, rfl, hbw, hc⟩ := HM.out.cells (by rw [← HMN.out]; omega)
                have HRJ := hid (fun V (hV : Below wr.heap.size wr V) => range_later (range_later (hc j (by rw [← HMN.out]; omega)) HBJ.out hbw) hV (Nat.lt_of_lt_of_le hbw HBJ.out.size))
                have HMJ := hid (mk_get (n := j) (by rw [← HMN.out]; omega) HOK.out)
                have HRK := hid (fun V (hV : Below wr.heap.size wr V) => range_later (range_later (hc k (by rw [← HMN.out]; omega)) HBJ.out hbw) hV (Nat.lt_of_lt_of_le hbw HBJ.out.size))
                have HMK := hid (mk_get (n := k) (by rw [← HMN.out]; omega) HOK.out)
                obtain ⟨mj, hmj⟩ : ∃ mj, mj = ms.getD j mkZ := ⟨_, rfl⟩
                obtain ⟨mk, hmk⟩ : ∃ mk, mk = ms.getD k mkZ := ⟨_, rfl⟩
                rw [← hmj] at HRJ HMJ
                rw [← hmk] at HRK HMK
                have HJE := hid hmj
                have HKE := hid hmk
                have HJH := hid HMJ.out.hd.len
                have HKH := hid HMK.out.hd.len
                have HJL := hid (hdV_len HJH.out)
                have HKL := hid (hdV_len HKH.out)
                clear hmj hmk hc hbw
                go_wp2_with fail
                by_cases heq : mj.2.1.1 = mk.2.1.1
                · have HQE := hid (fun V => eq55 mj.2.1 mk.2.1 HJH.out HKH.out V)
                  obtain ⟨q, hq⟩ : ∃ q, q = decide (mj.2.1 = mk.2.1) := ⟨_, rfl⟩
                  rw [← hq] at HQE
                  have HQ := hid hq
                  have HEQ : Hid (mj.2.1.1 = mk.2.1.1) := heq
                  clear hq heq
                  refine wp_region_held_drew (S := fun X => Below wr.heap.size wr X) (by kernel_rfl) (Below.refl _ _).drew (fun hS_v0 => ?_)
                  have hd_v0 : Below wr.heap.size wr wr.drew := (Below.refl _ _).drew
                  generalize wr.drew = v0 at *
                  simp only [List.size_toArray, List.length_cons, List.length_nil, Nat.reduceAdd]
                  clear hd_v0
                  refine Ord.take (i := 0) (d := 52) (v := ?vP0) rfl rfl (by as_aux_lemma => kernel_rfl) (by as_aux_lemma => kernel_rfl) (by as_aux_lemma => kernel_rfl) (fun _ _ _ h => h) (by rfl) ?hP0 (by assumption) ?_
                  case hP0 => intro wx hSw; go_simp; try with_reducible rfl
                  try simp only [List.setIfInBounds_toArray, List.set_cons_zero, List.set_cons_succ]
                  refine Ord.take (i := 1) (d := 53) (v := ?vP1) rfl rfl (by as_aux_lemma => kernel_rfl) (by as_aux_lemma => kernel_rfl) (by as_aux_lemma => kernel_rfl) (fun _ _ _ h => h) (by rfl) ?hP1 (by assumption) ?_
                  case hP1 => intro wx hSw; go_simp; try with_reducible rfl
                  try simp only [List.setIfInBounds_toArray, List.set_cons_zero, List.set_cons_succ]
                  refine Ord.take (i := 2) (d := 54) (v := ?vP2) rfl rfl (by as_aux_lemma => kernel_rfl) (by as_aux_lemma => kernel_rfl) (by as_aux_lemma => kernel_rfl) (fun _ _ _ h => h) (by rfl) ?hP2 (by assumption) ?_
                  case hP2 => intro wx hSw; go_simp; try with_reducible rfl
                  try simp only [List.setIfInBounds_toArray, List.set_cons_zero, List.set_cons_succ]
                  refine Ord.take (i := 3) (d := 55) (v := ?vP3) rfl rfl (by as_aux_lemma => kernel_rfl) (by as_aux_lemma => kernel_rfl) (by as_aux_lemma => kernel_rfl) (fun _ _ _ h => h) (by rfl) ?hP3 (by assumption) ?_
                  case hP3 => intro wx hSw; go_simp; try with_reducible rfl
                  try simp only [List.setIfInBounds_toArray, List.set_cons_zero, List.set_cons_succ]
                  refine Ord.take (i := 4) (d := 56) (v := ?vP4) rfl rfl (by as_aux_lemma => kernel_rfl) (by as_aux_lemma => kernel_rfl) (by as_aux_lemma => kernel_rfl) (fun _ _ _ h => h) (by rfl) ?hP4 (by assumption) ?_
                  case hP4 => intro wx hSw; go_simp; try with_reducible rfl
                  try simp only [List.setIfInBounds_toArray, List.set_cons_zero, List.set_cons_succ]
                  refine Ord.take (i := 5) (d := 57) (v := .int .i64 mj.2.1.1) rfl rfl (by as_aux_lemma => kernel_rfl) (by as_aux_lemma => kernel_rfl) (by as_aux_lemma => kernel_rfl) (fun _ _ _ h => h) (by rfl) ?hP5 (by assumption) ?_
                  case hP5 => intro wx hSw; have hc := hd_seq (mk_hd (HRJ.out _ hSw)); go_simp; try with_reducible rfl
                  try simp only [List.setIfInBounds_toArray, List.set_cons_zero, List.set_cons_succ]
                  refine Ord.take (i := 6) (d := 58) (v := ?vP6) rfl rfl (by as_aux_lemma => kernel_rfl) (by as_aux_lemma => kernel_rfl) (by as_aux_lemma => kernel_rfl) (fun _ _ _ h => h) (by rfl) ?hP6 (by assumption) ?_
                  case hP6 => intro wx hSw; go_simp; try with_reducible rfl
                  try simp only [List.setIfInBounds_toArray, List.set_cons_zero, List.set_cons_succ]
                  refine Ord.take (i := 7) (d := 59) (v := ?vP7) rfl rfl (by as_aux_lemma => kernel_rfl) (by as_aux_lemma => kernel_rfl) (by as_aux_lemma => kernel_rfl) (fun _ _ _ h => h) (by rfl) ?hP7 (by assumption) ?_
                  case hP7 => intro wx hSw; go_simp; try with_reducible rfl
                  try simp only [List.setIfInBounds_toArray, List.set_cons_zero, List.set_cons_succ]
                  refine Ord.take (i := 8) (d := 60) (v := ?vP8) rfl rfl (by as_aux_lemma => kernel_rfl) (by as_aux_lemma => kernel_rfl) (by as_aux_lemma => kernel_rfl) (fun _ _ _ h => h) (by rfl) ?hP8 (by assumption) ?_
                  case hP8 => intro wx hSw; go_simp; try with_reducible rfl
                  try simp only [List.setIfInBounds_toArray, List.set_cons_zero, List.set_cons_succ]
                  refine Ord.take (i := 9) (d := 61) (v := ?vP9) rfl rfl (by as_aux_lemma => kernel_rfl) (by as_aux_lemma => kernel_rfl) (by as_aux_lemma => kernel_rfl) (fun _ _ _ h => h) (by rfl) ?hP9 (by assumption) ?_
                  case hP9 => intro wx hSw; go_simp; try with_reducible rfl
                  try simp only [List.setIfInBounds_toArray, List.set_cons_zero, List.set_cons_succ]
                  refine Ord.take (i := 10) (d := 62) (v := ?vP10) rfl rfl (by as_aux_lemma => kernel_rfl) (by as_aux_lemma => kernel_rfl) (by as_aux_lemma => kernel_rfl) (fun _ _ _ h => h) (by rfl) ?hP10 (by assumption) ?_
                  case hP10 => intro wx hSw; go_simp; try with_reducible rfl
                  try simp only [List.setIfInBounds_toArray, List.set_cons_zero, List.set_cons_succ]
                  refine Ord.take (i := 11) (d := 63) (v := .int .i64 mk.2.1.1) rfl rfl (by as_aux_lemma => kernel_rfl) (by as_aux_lemma => kernel_rfl) (by as_aux_lemma => kernel_rfl) (fun _ _ _ h => h) (by rfl) ?hP11 (by assumption) ?_
                  case hP11 => intro wx hSw; have hc := hd_seq (mk_hd (HRK.out _ hSw)); go_simp; try with_reducible rfl
                  try simp only [List.setIfInBounds_toArray, List.set_cons_zero, List.set_cons_succ]
                  refine Ord.take (i := 12) (d := 64) (v := .bool true) rfl rfl (by as_aux_lemma => kernel_rfl) (by as_aux_lemma => kernel_rfl) (by as_aux_lemma => kernel_rfl) (fun _ _ _ h => h) (by rfl) ?hP12 (by assumption) ?_
                  case hP12 => intro wx hSw; have hq := HEQ.out; go_simp; try with_reducible rfl
                  try simp only [List.setIfInBounds_toArray, List.set_cons_zero, List.set_cons_succ]
                  refine Ord.take (i := 13) (d := 65) (v := .bool true) rfl rfl (by as_aux_lemma => kernel_rfl) (by as_aux_lemma => kernel_rfl) (by as_aux_lemma => kernel_rfl) (fun _ _ _ h => h) (by rfl) ?hP13 (by assumption) ?_
                  case hP13 => intro wx hSw; go_simp; try with_reducible rfl
                  try simp only [List.setIfInBounds_toArray, List.set_cons_zero, List.set_cons_succ]
                  refine Ord.take (i := 14) (d := 66) (v := ?vP14) rfl rfl (by as_aux_lemma => kernel_rfl) (by as_aux_lemma => kernel_rfl) (by as_aux_lemma => kernel_rfl) (fun _ _ _ h => h) (by rfl) ?hP14 (by assumption) ?_
                  case hP14 => intro wx hSw; go_simp; try with_reducible rfl
                  try simp only [List.setIfInBounds_toArray, List.set_cons_zero, List.set_cons_succ]
                  refine Ord.take (i := 15) (d := 67) (v := ?vP15) rfl rfl (by as_aux_lemma => kernel_rfl) (by as_aux_lemma => kernel_rfl) (by as_aux_lemma => kernel_rfl) (fun _ _ _ h => h) (by rfl) ?hP15 (by assumption) ?_
                  case hP15 => intro wx hSw; go_simp; try with_reducible rfl
                  try simp only [List.setIfInBounds_toArray, List.set_cons_zero, List.set_cons_succ]
                  refine Ord.take (i := 16) (d := 68) (v := ?vP16) rfl rfl (by as_aux_lemma => kernel_rfl) (by as_aux_lemma => kernel_rfl) (by as_aux_lemma => kernel_rfl) (fun _ _ _ h => h) (by rfl) ?hP16 (by assumption) ?_
                  case hP16 => intro wx hSw; go_simp; try with_reducible rfl
                  try simp only [List.setIfInBounds_toArray, List.set_cons_zero, List.set_cons_succ]
                  refine Ord.take (i := 17) (d := 69) (v := ?vP17) rfl rfl (by as_aux_lemma => kernel_rfl) (by as_aux_lemma => kernel_rfl) (by as_aux_lemma => kernel_rfl) (fun _ _ _ h => h) (by rfl) ?hP17 (by assumption) ?_
                  case hP17 => intro wx hSw; go_simp; try with_reducible rfl
                  try simp only [List.setIfInBounds_toArray, List.set_cons_zero, List.set_cons_succ]
                  refine Ord.take (i := 18) (d := 70) (v := .agg (hdV mj.2.1).toArray) rfl rfl (by as_aux_lemma => kernel_rfl) (by as_aux_lemma => kernel_rfl) (by as_aux_lemma => kernel_rfl) (fun _ _ _ h => h) (by rfl) ?hP18 (by assumption) ?_
                  case hP18 => intro wx hSw; exact exec_load 27 (.tmp 69) rfl b (off + j * 67 + 1) rfl (run_loadVar_mid wx b (off + j * 67 + 1) 27 (hdV mj.2.1) _ (mk_hd (HRJ.out _ hSw)) Tryd.underlying27 rfl (by rw [HJL.out]; exact Tryd.size27))
                  try simp only [List.setIfInBounds_toArray, List.set_cons_zero, List.set_cons_succ]
                  refine Ord.take (i := 19) (d := 71) (v := ?vP19) rfl rfl (by as_aux_lemma => kernel_rfl) (by as_aux_lemma => kernel_rfl) (by as_aux_lemma => kernel_rfl) (fun _ _ _ h => h) (by rfl) ?hP19 (by assumption) ?_
                  case hP19 => intro wx hSw; go_simp; try with_reducible rfl
                  try simp only [List.setIfInBounds_toArray, List.set_cons_zero, List.set_cons_succ]
                  refine Ord.take (i := 20) (d := 72) (v := ?vP20) rfl rfl (by as_aux_lemma => kernel_rfl) (by as_aux_lemma => kernel_rfl) (by as_aux_lemma => kernel_rfl) (fun _ _ _ h => h) (by rfl) ?hP20 (by assumption) ?_
                  case hP20 => intro wx hSw; go_simp; try with_reducible rfl
                  try simp only [List.setIfInBounds_toArray, List.set_cons_zero, List.set_cons_succ]
                  refine Ord.take (i := 21) (d := 73) (v := ?vP21) rfl rfl (by as_aux_lemma => kernel_rfl) (by as_aux_lemma => kernel_rfl) (by as_aux_lemma => kernel_rfl) (fun _ _ _ h => h) (by rfl) ?hP21 (by assumption) ?_
                  case hP21 => intro wx hSw; go_simp; try with_reducible rfl
                  try simp only [List.setIfInBounds_toArray, List.set_cons_zero, List.set_cons_succ]
                  refine Ord.take (i := 22) (d := 74) (v := ?vP22) rfl rfl (by as_aux_lemma => kernel_rfl) (by as_aux_lemma => kernel_rfl) (by as_aux_lemma => kernel_rfl) (fun _ _ _ h => h) (by rfl) ?hP22 (by assumption) ?_
                  case hP22 => intro wx hSw; go_simp; try with_reducible rfl
                  try simp only [List.setIfInBounds_toArray, List.set_cons_zero, List.set_cons_succ]
                  refine Ord.take (i := 23) (d := 75) (v := .agg (hdV mk.2.1).toArray) rfl rfl (by as_aux_lemma => kernel_rfl) (by as_aux_lemma => kernel_rfl) (by as_aux_lemma => kernel_rfl) (fun _ _ _ h => h) (by rfl) ?hP23 (by assumption) ?_
                  case hP23 => intro wx hSw; exact exec_load 27 (.tmp 74) rfl b (off + k * 67 + 1) rfl (run_loadVar_mid wx b (off + k * 67 + 1) 27 (hdV mk.2.1) _ (mk_hd (HRK.out _ hSw)) Tryd.underlying27 rfl (by rw [HKL.out]; exact Tryd.size27))
                  try simp only [List.setIfInBounds_toArray, List.set_cons_zero, List.set_cons_succ]
                  refine Ord.take (i := 24) (d := 76) (v := .bool (!q)) rfl rfl (by as_aux_lemma => kernel_rfl) (by as_aux_lemma => kernel_rfl) (by as_aux_lemma => kernel_rfl) (fun _ _ _ h => h) (by rfl) ?hP24 (by assumption) ?_
                  case hP24 => intro wx hSw; exact run_neq_op rfl rfl rfl guard55 (HQE.out _)
                  try simp only [List.setIfInBounds_toArray, List.set_cons_zero, List.set_cons_succ]
                  refine Ord.take (i := 25) (d := 77) (v := .bool (!q)) rfl rfl (by as_aux_lemma => kernel_rfl) (by as_aux_lemma => kernel_rfl) (by as_aux_lemma => kernel_rfl) (fun _ _ _ h => h) (by rfl) ?hP25 (by assumption) ?_
                  case hP25 => intro wx hSw; go_simp; try with_reducible rfl
                  try simp only [List.setIfInBounds_toArray, List.set_cons_zero, List.set_cons_succ]
                  refine wpAnyH_done (by as_aux_lemma => kernel_rfl) ?_ _
                  have HB5 := hid (Bn HBJ.out hS_v0)
                  have HG5 := hid (blk_later HGJ.out hS_v0)
                  clear hS_v0 HRJ HRK
                  cases q
                  · have HCL : Hid (clash ms j k) := ⟨by rw [← HJE.out, ← HKE.out]; exact HEQ.out, by rw [← HJE.out, ← HKE.out]; exact of_decide_eq_false HQ.out.symm⟩
                    have HAU : Hid (PP (3, (j : Int), (k : Int))) := HPE.out _ (.inr ⟨HNI.out, .inl ⟨j, k, hltj, hlt, rfl, HCL.out, HNK.out, HNJ.out⟩⟩)
                    go_wp2_with (first | refine wpList_store_W rfl 40 _ _ rfl rfl G (fnV (3, (j : Int), (k : Int))).toArray rfl rfl 40 _ HG5.out Tryd.size40c rfl (fnV_one _) ?_ | fail)
                    intro V5 HG6 HGR5 HS5
                    have HB6 : Hid (Below w.heap.size w V5) := HB5.out.trans (bel_grown HGR5.out (by rw [HGQ.out]; exact Nat.le_refl _) HB5.out.size)
                    go_wp2
                    refine bodyPost_ret (results_cell_row (ty := 40) rfl _ _ _ _ _ _ _ rfl HG6.out Tryd.underlying40 rfl Tryd.size40) rfl ?_
                    exact ⟨⟨_, rfl, HAU.out⟩, HB6.out⟩
                  · have HNN : Hid (∀ j', j' < j + 1 → ¬ clash ms j' k) := below_succ HNJ.out (fun e => e.2 (by rw [← HJE.out, ← HKE.out]; exact of_decide_eq_true HQ.out.symm))
                    go_wp2
                    go_round
                    case rel => exact ⟨j + 1, by omega, by go_num, HB5.out, HG5.out, HNN.out⟩
                    case measure => simp [RowKit.intOf]; omega
                · have HEQ : Hid (¬ mj.2.1.1 = mk.2.1.1) := heq
                  clear heq
                  refine wp_region_held_drew (S := fun X => Below wr.heap.size wr X) (by kernel_rfl) (Below.refl _ _).drew (fun hS_v0 => ?_)
                  have hd_v0 : Below wr.heap.size wr wr.drew := (Below.refl _ _).drew
                  generalize wr.drew = v0 at *
                  simp only [List.size_toArray, List.length_cons, List.length_nil, Nat.reduceAdd]
                  clear hd_v0
                  refine Ord.take (i := 0) (d := 52) (v := ?vN0) rfl rfl (by as_aux_lemma => kernel_rfl) (by as_aux_lemma => kernel_rfl) (by as_aux_lemma => kernel_rfl) (fun _ _ _ h => h) (by rfl) ?hN0 (by assumption) ?_
                  case hN0 => intro wx hSw; go_simp; try with_reducible rfl
                  try simp only [List.setIfInBounds_toArray, List.set_cons_zero, List.set_cons_succ]
                  refine Ord.take (i := 1) (d := 53) (v := ?vN1) rfl rfl (by as_aux_lemma => kernel_rfl) (by as_aux_lemma => kernel_rfl) (by as_aux_lemma => kernel_rfl) (fun _ _ _ h => h) (by rfl) ?hN1 (by assumption) ?_
                  case hN1 => intro wx hSw; go_simp; try with_reducible rfl
                  try simp only [List.setIfInBounds_toArray, List.set_cons_zero, List.set_cons_succ]
                  refine Ord.take (i := 2) (d := 54) (v := ?vN2) rfl rfl (by as_aux_lemma => kernel_rfl) (by as_aux_lemma => kernel_rfl) (by as_aux_lemma => kernel_rfl) (fun _ _ _ h => h) (by rfl) ?hN2 (by assumption) ?_
                  case hN2 => intro wx hSw; go_simp; try with_reducible rfl
                  try simp only [List.setIfInBounds_toArray, List.set_cons_zero, List.set_cons_succ]
                  refine Ord.take (i := 3) (d := 55) (v := ?vN3) rfl rfl (by as_aux_lemma => kernel_rfl) (by as_aux_lemma => kernel_rfl) (by as_aux_lemma => kernel_rfl) (fun _ _ _ h => h) (by rfl) ?hN3 (by assumption) ?_
                  case hN3 => intro wx hSw; go_simp; try with_reducible rfl
                  try simp only [List.setIfInBounds_toArray, List.set_cons_zero, List.set_cons_succ]
                  refine Ord.take (i := 4) (d := 56) (v := ?vN4) rfl rfl (by as_aux_lemma => kernel_rfl) (by as_aux_lemma => kernel_rfl) (by as_aux_lemma => kernel_rfl) (fun _ _ _ h => h) (by rfl) ?hN4 (by assumption) ?_
                  case hN4 => intro wx hSw; go_simp; try with_reducible rfl
                  try simp only [List.setIfInBounds_toArray, List.set_cons_zero, List.set_cons_succ]
                  refine Ord.take (i := 5) (d := 57) (v := .int .i64 mj.2.1.1) rfl rfl (by as_aux_lemma => kernel_rfl) (by as_aux_lemma => kernel_rfl) (by as_aux_lemma => kernel_rfl) (fun _ _ _ h => h) (by rfl) ?hN5 (by assumption) ?_
                  case hN5 => intro wx hSw; have hc := hd_seq (mk_hd (HRJ.out _ hSw)); go_simp; try with_reducible rfl
                  try simp only [List.setIfInBounds_toArray, List.set_cons_zero, List.set_cons_succ]
                  refine Ord.take (i := 6) (d := 58) (v := ?vN6) rfl rfl (by as_aux_lemma => kernel_rfl) (by as_aux_lemma => kernel_rfl) (by as_aux_lemma => kernel_rfl) (fun _ _ _ h => h) (by rfl) ?hN6 (by assumption) ?_
                  case hN6 => intro wx hSw; go_simp; try with_reducible rfl
                  try simp only [List.setIfInBounds_toArray, List.set_cons_zero, List.set_cons_succ]
                  refine Ord.take (i := 7) (d := 59) (v := ?vN7) rfl rfl (by as_aux_lemma => kernel_rfl) (by as_aux_lemma => kernel_rfl) (by as_aux_lemma => kernel_rfl) (fun _ _ _ h => h) (by rfl) ?hN7 (by assumption) ?_
                  case hN7 => intro wx hSw; go_simp; try with_reducible rfl
                  try simp only [List.setIfInBounds_toArray, List.set_cons_zero, List.set_cons_succ]
                  refine Ord.take (i := 8) (d := 60) (v := ?vN8) rfl rfl (by as_aux_lemma => kernel_rfl) (by as_aux_lemma => kernel_rfl) (by as_aux_lemma => kernel_rfl) (fun _ _ _ h => h) (by rfl) ?hN8 (by assumption) ?_
                  case hN8 => intro wx hSw; go_simp; try with_reducible rfl
                  try simp only [List.setIfInBounds_toArray, List.set_cons_zero, List.set_cons_succ]
                  refine Ord.take (i := 9) (d := 61) (v := ?vN9) rfl rfl (by as_aux_lemma => kernel_rfl) (by as_aux_lemma => kernel_rfl) (by as_aux_lemma => kernel_rfl) (fun _ _ _ h => h) (by rfl) ?hN9 (by assumption) ?_
                  case hN9 => intro wx hSw; go_simp; try with_reducible rfl
                  try simp only [List.setIfInBounds_toArray, List.set_cons_zero, List.set_cons_succ]
                  refine Ord.take (i := 10) (d := 62) (v := ?vN10) rfl rfl (by as_aux_lemma => kernel_rfl) (by as_aux_lemma => kernel_rfl) (by as_aux_lemma => kernel_rfl) (fun _ _ _ h => h) (by rfl) ?hN10 (by assumption) ?_
                  case hN10 => intro wx hSw; go_simp; try with_reducible rfl
                  try simp only [List.setIfInBounds_toArray, List.set_cons_zero, List.set_cons_succ]
                  refine Ord.take (i := 11) (d := 63) (v := .int .i64 mk.2.1.1) rfl rfl (by as_aux_lemma => kernel_rfl) (by as_aux_lemma => kernel_rfl) (by as_aux_lemma => kernel_rfl) (fun _ _ _ h => h) (by rfl) ?hN11 (by assumption) ?_
                  case hN11 => intro wx hSw; have hc := hd_seq (mk_hd (HRK.out _ hSw)); go_simp; try with_reducible rfl
                  try simp only [List.setIfInBounds_toArray, List.set_cons_zero, List.set_cons_succ]
                  refine Ord.take (i := 12) (d := 64) (v := .bool false) rfl rfl (by as_aux_lemma => kernel_rfl) (by as_aux_lemma => kernel_rfl) (by as_aux_lemma => kernel_rfl) (fun _ _ _ h => h) (by rfl) ?hN12 (by assumption) ?_
                  case hN12 => intro wx hSw; have hq := HEQ.out; go_simp; try with_reducible rfl
                  try simp only [List.setIfInBounds_toArray, List.set_cons_zero, List.set_cons_succ]
                  refine Ord.take (i := 13) (d := 65) (v := .bool false) rfl rfl (by as_aux_lemma => kernel_rfl) (by as_aux_lemma => kernel_rfl) (by as_aux_lemma => kernel_rfl) (fun _ _ _ h => h) (by rfl) ?hN13 (by assumption) ?_
                  case hN13 => intro wx hSw; go_simp; try with_reducible rfl
                  try simp only [List.setIfInBounds_toArray, List.set_cons_zero, List.set_cons_succ]
                  refine Ord.skip (i := 14) (d := 66) rfl rfl (by as_aux_lemma => kernel_rfl) (by as_aux_lemma => kernel_rfl) (by as_aux_lemma => kernel_rfl) (fun _ _ _ h => h) (by rfl) (by assumption) ?_
                  simp only [List.setIfInBounds_toArray, List.set_cons_zero, List.set_cons_succ]
                  refine Ord.skip (i := 15) (d := 67) rfl rfl (by as_aux_lemma => kernel_rfl) (by as_aux_lemma => kernel_rfl) (by as_aux_lemma => kernel_rfl) (fun _ _ _ h => h) (by rfl) (by assumption) ?_
                  simp only [List.setIfInBounds_toArray, List.set_cons_zero, List.set_cons_succ]
                  refine Ord.skip (i := 16) (d := 68) rfl rfl (by as_aux_lemma => kernel_rfl) (by as_aux_lemma => kernel_rfl) (by as_aux_lemma => kernel_rfl) (fun _ _ _ h => h) (by rfl) (by assumption) ?_
                  simp only [List.setIfInBounds_toArray, List.set_cons_zero, List.set_cons_succ]
                  refine Ord.skip (i := 17) (d := 69) rfl rfl (by as_aux_lemma => kernel_rfl) (by as_aux_lemma => kernel_rfl) (by as_aux_lemma => kernel_rfl) (fun _ _ _ h => h) (by rfl) (by assumption) ?_
                  simp only [List.setIfInBounds_toArray, List.set_cons_zero, List.set_cons_succ]
                  refine Ord.skip (i := 18) (d := 70) rfl rfl (by as_aux_lemma => kernel_rfl) (by as_aux_lemma => kernel_rfl) (by as_aux_lemma => kernel_rfl) (fun _ _ _ h => h) (by rfl) (by assumption) ?_
                  simp only [List.setIfInBounds_toArray, List.set_cons_zero, List.set_cons_succ]
                  refine Ord.skip (i := 19) (d := 71) rfl rfl (by as_aux_lemma => kernel_rfl) (by as_aux_lemma => kernel_rfl) (by as_aux_lemma => kernel_rfl) (fun _ _ _ h => h) (by rfl) (by assumption) ?_
                  simp only [List.setIfInBounds_toArray, List.set_cons_zero, List.set_cons_succ]
                  refine Ord.skip (i := 20) (d := 72) rfl rfl (by as_aux_lemma => kernel_rfl) (by as_aux_lemma => kernel_rfl) (by as_aux_lemma => kernel_rfl) (fun _ _ _ h => h) (by rfl) (by assumption) ?_
                  simp only [List.setIfInBounds_toArray, List.set_cons_zero, List.set_cons_succ]
                  refine Ord.skip (i := 21) (d := 73) rfl rfl (by as_aux_lemma => kernel_rfl) (by as_aux_lemma => kernel_rfl) (by as_aux_lemma => kernel_rfl) (fun _ _ _ h => h) (by rfl) (by assumption) ?_
                  simp only [List.setIfInBounds_toArray, List.set_cons_zero, List.set_cons_succ]
                  refine Ord.skip (i := 22) (d := 74) rfl rfl (by as_aux_lemma => kernel_rfl) (by as_aux_lemma => kernel_rfl) (by as_aux_lemma => kernel_rfl) (fun _ _ _ h => h) (by rfl) (by assumption) ?_
                  simp only [List.setIfInBounds_toArray, List.set_cons_zero, List.set_cons_succ]
                  refine Ord.skip (i := 23) (d := 75) rfl rfl (by as_aux_lemma => kernel_rfl) (by as_aux_lemma => kernel_rfl) (by as_aux_lemma => kernel_rfl) (fun _ _ _ h => h) (by rfl) (by assumption) ?_
                  simp only [List.setIfInBounds_toArray, List.set_cons_zero, List.set_cons_succ]
                  refine Ord.skip (i := 24) (d := 76) rfl rfl (by as_aux_lemma => kernel_rfl) (by as_aux_lemma => kernel_rfl) (by as_aux_lemma => kernel_rfl) (fun _ _ _ h => h) (by rfl) (by assumption) ?_
                  simp only [List.setIfInBounds_toArray, List.set_cons_zero, List.set_cons_succ]
                  refine Ord.take (i := 25) (d := 77) (v := .bool false) rfl rfl (by as_aux_lemma => kernel_rfl) (by as_aux_lemma => kernel_rfl) (by as_aux_lemma => kernel_rfl) (fun _ _ _ h => h) (by rfl) ?hN25 (by assumption) ?_
                  case hN25 => intro wx hSw; go_simp; try with_reducible rfl
                  try simp only [List.setIfInBounds_toArray, List.set_cons_zero, List.set_cons_succ]
                  refine wpAnyH_done (by as_aux_lemma => kernel_rfl) ?_ _
                  have HB5 := hid (Bn HBJ.out hS_v0)
                  have HG5 := hid (blk_later HGJ.out hS_v0)
                  clear hS_v0 HRJ HRK
                  have HNN : Hid (∀ j', j' < j + 1 → ¬ clash ms j' k) := below_succ HNJ.out (fun e => HEQ.out (by rw [HJE.out, HKE.out]; exact e.1))
                  go_wp2
                  go_round
                  case rel => exact ⟨j + 1, by omega, by go_num, HB5.out, HG5.out, HNN.out⟩
                  case measure => simp [RowKit.intOf]; omega
              · have hje : j = k := by omega
                have hjz : ¬ (j : Int) < (k : Int) := by omega
                rw [hje] at HNJ
                have HNN : Hid (∀ k', k' < k + 1 → ∀ j', j' < k' → ¬ clash ms j' k') := below_succ HNK.out HNJ.out
                clear hje
                go_wp2
                go_round
                case rel => exact ⟨k + 1, by omega, by go_num, HBJ.out, HGJ.out, HNN.out⟩
                case measure => simp [RowKit.intOf]; omega
          · have hke : k = mn := by omega
            have hkz : ¬ (k : Int) < (mn : Int) := by omega
            rw [hke] at HNK
            clear hke
            go_wp2
            go_loopw [13] (fun x13 wr => ∃ i : Nat, i ≤ mn ∧ x13 = .int .i64 (i : Int) ∧ Hid (Below w.heap.size w wr) ∧ Hid (wr.heap[G]? = some (.cells (fnV (0, 0, 0)).toArray 40)) ∧ Hid (∀ j, j < i → ¬ lieM l ms j)) (fun x13 _ => mn - (RowKit.intOf x13).toNat)
            case atStart => exact ⟨0, by omega, rfl, HBK.out, HGK.out, fun j hj => absurd hj (Nat.not_lt_zero _)⟩
            case round =>
              clear HBK HGK
              obtain ⟨i, hi, rfl, HBJ, HGJ, HNJ⟩ := hrel
              by_cases hlt : i < mn
              · have hiz : (i : Int) < (mn : Int) := by omega
                obtain ⟨b, off, rfl, hbw, hc⟩ := HM.out.cells (by rw [← HMN.out]; omega)
                have HRI : Hid (wr.rangeAt b (off + i * 67) (mkV (ms.getD i mkZ))) := range_later (hc i (by rw [← HMN.out]; omega)) HBJ.out hbw
                have c1 := hd_seq (mk_hd HRI.out)
                have HHL := hid (hdV_len (mk_get (n := i) (by rw [← HMN.out]; omega) HOK.out).hd.len)
                obtain ⟨s, hs⟩ : ∃ s, s = (ms.getD i mkZ).2.1.1 := ⟨_, rfl⟩
                rw [← hs] at c1
                have HS := hid hs
                clear hc hbw hs
                have HCA := hid (HHA.out wr HBJ.out i hlt)
                by_cases hsq : s ≤ (len : Int)
                · have HLE := hid hsq
                  obtain ⟨q, hq⟩ : ∃ q, q = dhasB l (ms.getD i mkZ).2.1 := ⟨_, rfl⟩
                  rw [← hq] at HCA
                  have HQ := hid hq
                  clear hq
                  go_wp2_with (first | refine wpList_load_g rfl 27 _ rfl b (off + i * 67 + 1) rfl (hdV (ms.getD i mkZ).2.1) _ (mk_hd HRI.out) Tryd.underlying27 rfl (by rw [HHL.out]; exact Tryd.size27) ?_ | fail)
                  refine HCA.out.mono ?_
                  rintro _ W5 ⟨rfl, hb5⟩
                  have HB5 := hid (Bn HBJ.out hb5)
                  have HG5 := hid (blk_later HGJ.out hb5)
                  clear hb5 HCA HRI HHL c1
                  cases q
                  · have HLI : Hid (lieM l ms i) := ⟨by rw [← HS.out, ← HLN.out]; exact HLE.out, HQ.out.symm⟩
                    have HAU : Hid (PP (4, (i : Int), 0)) := HPE.out _ (.inr ⟨HNI.out, .inr ⟨HNK.out, .inl ⟨i, hlt, rfl, HLI.out, HNJ.out⟩⟩⟩)
                    go_wp2_with (first | refine wpList_store_W rfl 40 _ _ rfl rfl G (fnV (4, (i : Int), 0)).toArray rfl rfl 40 _ HG5.out Tryd.size40c rfl (fnV_one _) ?_ | fail)
                    intro V5 HG6 HGR5 HS5
                    have HB6 : Hid (Below w.heap.size w V5) := HB5.out.trans (bel_grown HGR5.out (by rw [HGQ.out]; exact Nat.le_refl _) HB5.out.size)
                    go_wp2
                    refine bodyPost_ret (results_cell_row (ty := 40) rfl _ _ _ _ _ _ _ rfl HG6.out Tryd.underlying40 rfl Tryd.size40) rfl ?_
                    exact ⟨⟨_, rfl, HAU.out⟩, HB6.out⟩
                  · have HNN : Hid (∀ j, j < i + 1 → ¬ lieM l ms j) := below_succ HNJ.out (fun e => by have := e.2; rw [← HQ.out] at this; cases this)
                    go_wp2
                    go_round
                    case rel => exact ⟨i + 1, by omega, by go_num, HB5.out, HG5.out, HNN.out⟩
                    case measure => simp [RowKit.intOf]; omega
                · have HNN : Hid (∀ j, j < i + 1 → ¬ lieM l ms j) := below_succ HNJ.out (fun e => hsq (by have := e.1; rw [← HS.out, ← HLN.out] at this; exact this))
                  clear HCA HRI HHL
                  go_wp2
                  go_round
                  case rel => exact ⟨i + 1, by omega, by go_num, HBJ.out, HGJ.out, HNN.out⟩
                  case measure => simp [RowKit.intOf]; omega
              · have hie : i = mn := by omega
                have hiz : ¬ (i : Int) < (mn : Int) := by omega
                rw [hie] at HNJ
                clear hie
                have HNL := HNJ
                have HBK := HBJ
                have HGK := HGJ
                clear HNJ HBJ HGJ
                go_wp2
                go_loopw [14] (fun x14 wr => ∃ i : Nat, i ≤ mn ∧ x14 = .int .i64 (i : Int) ∧ Hid (Below w.heap.size w wr) ∧ Hid (wr.heap[G]? = some (.cells (fnV (0, 0, 0)).toArray 40)) ∧ Hid (∀ j, j < i → ¬ ahd l ms j)) (fun x14 _ => mn - (RowKit.intOf x14).toNat)
                case atStart => exact ⟨0, by omega, rfl, HBK.out, HGK.out, fun j hj => absurd hj (Nat.not_lt_zero _)⟩
                case round =>
                  clear HBK HGK
                  obtain ⟨i, hi, rfl, HBJ, HGJ, HNJ⟩ := hrel
                  by_cases hlt : i < mn
                  · have hiz : (i : Int) < (mn : Int) := by omega
                    obtain ⟨b, off, rfl, hbw, hc⟩ := HM.out.cells (by rw [← HMN.out]; omega)
                    have HRI : Hid (wr.rangeAt b (off + i * 67) (mkV (ms.getD i mkZ))) := range_later (hc i (by rw [← HMN.out]; omega)) HBJ.out hbw
                    have c1 := hd_seq (mk_hd HRI.out)
                    have HHL := hid (hdV_len (mk_get (n := i) (by rw [← HMN.out]; omega) HOK.out).hd.len)
                    obtain ⟨s, hs⟩ : ∃ s, s = (ms.getD i mkZ).2.1.1 := ⟨_, rfl⟩
                    rw [← hs] at c1
                    have HS := hid hs
                    clear hc hbw hs
                    clear HRI HHL
                    by_cases hsq : (len : Int) < s
                    · have HLI : Hid (ahd l ms i) := by show _ < _; rw [← HS.out, ← HLN.out]; exact hsq
                      have HB5 := HBJ
                      have HG5 := HGJ
                      have HAU : Hid (PP (5, (i : Int), 0)) := HPE.out _ (.inr ⟨HNI.out, .inr ⟨HNK.out, .inr ⟨HNL.out, .inl ⟨i, hlt, rfl, HLI.out, HNJ.out⟩⟩⟩⟩)
                      go_wp2_with (first | refine wpList_store_W rfl 40 _ _ rfl rfl G (fnV (5, (i : Int), 0)).toArray rfl rfl 40 _ HG5.out Tryd.size40c rfl (fnV_one _) ?_ | fail)
                      intro V5 HG6 HGR5 HS5
                      have HB6 : Hid (Below w.heap.size w V5) := HB5.out.trans (bel_grown HGR5.out (by rw [HGQ.out]; exact Nat.le_refl _) HB5.out.size)
                      go_wp2
                      refine bodyPost_ret (results_cell_row (ty := 40) rfl _ _ _ _ _ _ _ rfl HG6.out Tryd.underlying40 rfl Tryd.size40) rfl ?_
                      exact ⟨⟨_, rfl, HAU.out⟩, HB6.out⟩
                    · have HNN : Hid (∀ j, j < i + 1 → ¬ ahd l ms j) := below_succ HNJ.out (fun e => hsq (by have e' : _ < _ := e; rw [← HS.out, ← HLN.out] at e'; exact e'))
                      go_wp2
                      go_round
                      case rel => exact ⟨i + 1, by omega, by go_num, HBJ.out, HGJ.out, HNN.out⟩
                      case measure => simp [RowKit.intOf]; omega
                  · have hie : i = mn := by omega
                    have hiz : ¬ (i : Int) < (mn : Int) := by omega
                    rw [hie] at HNJ
                    clear hie
                    have HB5 := HBJ
                    have HG5 := HGJ
                    have HAU : Hid (PP (6, 0, 0)) := HPE.out _ (.inr ⟨HNI.out, .inr ⟨HNK.out, .inr ⟨HNL.out, .inr ⟨HNJ.out, rfl⟩⟩⟩⟩)
                    go_wp2_with (first | refine wpList_store_W rfl 40 _ _ rfl rfl G (fnV (6, 0, 0)).toArray rfl rfl 40 _ HG5.out Tryd.size40c rfl (fnV_one _) ?_ | fail)
                    intro V5 HG6 HGR5 HS5
                    have HB6 : Hid (Below w.heap.size w V5) := HB5.out.trans (bel_grown HGR5.out (by rw [HGQ.out]; exact Nat.le_refl _) HB5.out.size)
                    go_wp2
                    refine bodyPost_ret (results_cell_row (ty := 40) rfl _ _ _ _ _ _ _ rfl HG6.out Tryd.underlying40 rfl Tryd.size40) rfl ?_
                    exact ⟨⟨_, rfl, HAU.out⟩, HB6.out⟩
  · have HAU : Hid (PP (1, (K0 : Int), 0)) := by show PP _; rw [HPD.out]; exact .inl ⟨hE, rfl⟩
    go_wp2_with (first | refine wpList_store_W rfl 40 _ _ rfl rfl G (fnV (1, (K0 : Int), 0)).toArray rfl rfl 40 _ HG5.out Tryd.size40c rfl (fnV_one _) ?_ | fail)
    intro V5 HG6 HGR5 HS5
    have HB5 : Hid (Below w.heap.size w V5) := HB4.out.trans (bel_grown HGR5.out (by rw [HGQ.out]; exact Nat.le_refl _) HB4.out.size)
    go_wp2
    refine bodyPost_ret (results_cell_row (ty := 40) rfl _ _ _ _ _ _ _ rfl HG6.out Tryd.underlying40 rfl Tryd.size40) rfl ?_
    exact ⟨⟨_, rfl, HAU.out⟩, HB5.out⟩
end Go.Proofs.YtplinkmagnihmaaDoor
namespace Go.Proofs.YtplinkmagnihmaaDoor
open Go.ChangeShapes Go.WideShapes Go.ChangeAt Go.RowKit Go.Deep Go.Lib

theorem first_one {P : Nat → Prop} {i j : Nat} (hi : P i) (hib : ∀ k, k < i → ¬ P k) (hj : P j) (hjb : ∀ k, k < j → ¬ P k) : i = j := by
  rcases Nat.lt_trichotomy i j with h | h | h
  · exact absurd hi (hjb i h)
  · exact h
  · exact absurd hj (hib j h)
theorem D5_one {l : List Rec} {ms : List Mrk} {n : Nat} {f g : Int × Int × Int} (hf : D5 l ms n f) (hg : D5 l ms n g) : f = g := by
  rcases hf with ⟨i, hi, rfl, h1, h2⟩ | ⟨h1, rfl⟩ <;> rcases hg with ⟨j, hj, rfl, h3, h4⟩ | ⟨h3, rfl⟩
  · rw [first_one (P := ahd l ms) h1 h2 h3 h4]
  · exact absurd h1 (h3 i hi)
  · exact absurd h3 (h1 j hj)
  · rfl
theorem D4_one {l : List Rec} {ms : List Mrk} {n : Nat} {f g : Int × Int × Int} (hf : D4 l ms n f) (hg : D4 l ms n g) : f = g := by
  rcases hf with ⟨i, hi, rfl, h1, h2⟩ | ⟨h1, hf⟩ <;> rcases hg with ⟨j, hj, rfl, h3, h4⟩ | ⟨h3, hg⟩
  · rw [first_one (P := lieM l ms) h1 h2 h3 h4]
  · exact absurd h1 (h3 i hi)
  · exact absurd h3 (h1 j hj)
  · exact D5_one hf hg
theorem D3_one {l : List Rec} {ms : List Mrk} {n : Nat} {f g : Int × Int × Int} (hf : D3 l ms n f) (hg : D3 l ms n g) : f = g := by
  rcases hf with ⟨j, k, hjk, hk, rfl, h1, h2, h3⟩ | ⟨h1, hf⟩ <;> rcases hg with ⟨j', k', hjk', hk', rfl, h1', h2', h3'⟩ | ⟨h1', hg⟩
  · have hkk : k = k' := by
      rcases Nat.lt_trichotomy k k' with h | h | h
      · exact absurd h1 (h2' k h j hjk)
      · exact h
      · exact absurd h1' (h2 k' h j' hjk')
    subst hkk
    rw [first_one (P := fun x => clash ms x k) h1 h3 h1' h3']
  · exact absurd h1 (h1' k hk j hjk)
  · exact absurd h1' (h1 k' hk' j' hjk')
  · exact D4_one hf hg
theorem D2_one {key : List Nat} {l : List Rec} {ms : List Mrk} {n : Nat} {f g : Int × Int × Int} (hf : D2 key l ms n f) (hg : D2 key l ms n g) : f = g := by
  rcases hf with ⟨i, hi, rfl, h1, h2⟩ | ⟨h1, hf⟩ <;> rcases hg with ⟨j, hj, rfl, h3, h4⟩ | ⟨h3, hg⟩
  · rw [first_one (P := unS key ms) h1 h2 h3 h4]
  · exact absurd h1 (h3 i hi)
  · exact absurd h3 (h1 j hj)
  · exact D3_one hf hg
/-- Check's Audit is the document's. -/
theorem aud_one {key : List Nat} {l : List Rec} {ms : List Mrk} {f : Int × Int × Int} (h : DR key l ms f) : f = audR key l ms := by
  have hw := hs_wlk l hdZ 0
  unfold audR
  rcases h with ⟨he, rfl⟩ | ⟨he, hd⟩
  · have := hw.2 he
    rw [if_neg (by omega), show (((hsL hdZ l).length : Int) - 1) = ((wlk hdZ l 0).2.1 : Int) from by omega]
  · rw [if_pos (hw.1 he)]
    exact D2_one hd (D2_aud (hw.1 he) ms.length (Nat.le_refl _))
end Go.Proofs.YtplinkmagnihmaaDoor
