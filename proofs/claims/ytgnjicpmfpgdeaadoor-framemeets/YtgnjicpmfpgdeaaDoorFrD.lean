/-
  The key that seals what a site sends; frame's Seal.
-/
import Derived.Test.YtgnjicpmfpgdeaaDoorFrW
namespace Go.Proofs.YtgnjicpmfpgdeaaDoor
open Go.ChangeShapes Go.WideShapes Go.ChangeAt Go.RowKit Go.Deep Go.Lib

def frameS : ByteArray := ⟨#[102, 114, 97, 109, 101]⟩
/-- The key of a site's frames. -/
def keyF (key : List Nat) (fr : Int) : List Nat := Sh.Sha.hmac key (Sh.purposeL frameS fr.toNat)
theorem keyF_len (key : List Nat) (fr : Int) : (keyF key fr).length = 32 := Sh.Sha.hmac_length _ _
theorem keyF_lt (key : List Nat) (fr : Int) : ∀ j, (keyF key fr).getD j 0 < 256 := fun j => Sh.digest_lt _ j
theorem arr_one (l : List Nat) : (Sh.arr .u8 l).all (·.oneCell') = true := Sh.arr_one _ _
theorem arr_size (l : List Nat) : (Sh.arr .u8 l).size = l.length := by simp [Sh.arr]
set_option maxHeartbeats 3200000 in
set_option maxRecDepth 100000 in
theorem keyOf_word (a : Option Addr) (cap : Nat) (key : List Nat) (fr : Int) (w : World) (hL : Sh.Laid w) (hr : Sh.Rd w (.slice a key.length cap) a cap key) (hk : key.length ≤ 100000) (h : 0 ≤ fr ∧ fr ≤ 1) :
    Calls Tryd.prog 24 #[.slice a key.length cap, .int .i64 fr] w fun e w' => e = .returned (.agg (Sh.arr .u8 (keyF key fr))) ∧ Below w.heap.size w w' := by
  obtain ⟨n, rfl⟩ := Int.eq_ofNat_of_zero_le h.1
  have hn : n ≤ 1 := by omega
  have HD := hid (fun V (hV : Below w.heap.size w V) => Sh.derive_word a cap key frameS n V (hL.later hV) (hr.later hV) hk (by decide) (by omega))
  change Hid (∀ V, Below w.heap.size w V → Calls Tryd.prog 35 #[.slice a key.length cap, .string ⟨#[102, 114, 97, 109, 101]⟩, .int .u64 (n : Int)] V fun e w' => e = .returned (.agg (Sh.arr .u8 (keyF key (n : Int)))) ∧ Below V.heap.size V w') at HD
  have HKL := hid (keyF_len key (n : Int))
  have HZ := hid Sh.Tryd.zero39
  obtain ⟨D, hDD⟩ : ∃ D, D = keyF key (n : Int) := ⟨_, rfl⟩
  rw [← hDD] at HD HKL ⊢
  generalize key.length = kn at *
  clear hL hr hk h hDD
  have hw : IntKind.u64.wrap (n : Int) = (n : Int) := by rw [IntKind.wrap_u64]; omega
  go_enter Tryd.func24, Tryd.ntmps24
  go_wp2_with (first | refine wpList_alloc_W rfl 39 rfl (some 4) rfl (Sh.arr .u8 Sh.z32) HZ.out w.heap.size rfl ?_ | fail)
  intro V1 HG1 HB1 HS1
  go_wp2_with fail
  refine (HD.out V1 HB1.out).mono ?_
  rintro _ V2 ⟨rfl, hb2⟩
  have HB2 := hid (HB1.out.trans (hb2.mono HB1.out.size))
  have HG2 := hid (blk_later HG1.out hb2)
  clear hb2 HD HG1 HB1 HS1
  go_wp2_with (first | refine wpList_store_W rfl 39 _ _ rfl rfl w.heap.size (Sh.arr .u8 D) rfl rfl 39 _ HG2.out (by rw [arr_size, HKL.out]; exact Sh.Tryd.size39') (by rw [arr_size, arr_size, HKL.out]; rfl) (arr_one _) ?_ | fail)
  intro V3 HG3 HGR3 HS3
  have HB3 := hid (HB2.out.trans (bel_grown HGR3.out (Nat.le_refl _) HB2.out.size))
  go_wp2
  refine bodyPost_ret (results_cell_row (ty := 39) rfl _ _ _ _ _ _ _ rfl HG3.out Tryd.underlying39 rfl (by rw [arr_size, HKL.out]; exact Sh.Tryd.size39')) rfl ?_
  exact ⟨rfl, HB3.out⟩
/-- What sealing adds. -/
def sealF (key : List Nat) (f : Fr) : List Nat := nats (wrF f) ++ Sh.Sha.hmac (keyF key f.fr) (nats (wrF f))
set_option maxHeartbeats 12800000 in
set_option maxRecDepth 100000 in
theorem seal_word (a : Option Addr) (cap : Nat) (key : List Nat) (f : Fr) (w : World) (hL : Sh.Laid w) (hr : Sh.Rd w (.slice a key.length cap) a cap key) (hk : key.length ≤ 100000) (hf : Fv w f) (hn : f.a = none → f.cap = 0) (hbl : f.body.length ≤ 90000 ∨ mayF f = false) :
    Calls Tryd.prog 11 #[.slice a key.length cap, .agg f.cs.toArray] w fun e w' => ∃ v, e = .returned (.tuple #[v, .int .i64 (e180 (mayF f))]) ∧ Below w.heap.size w w' ∧ ((mayF f = false ∧ v = .slice none 0 0) ∨ (mayF f = true ∧ ∃ b c, v = .slice b (sealF key f).length c ∧ Sh.Rd w' (.slice b (sealF key f).length c) b c (sealF key f))) := by
  have HB1 := hid (bel_alc w (.cells f.cs.toArray 25))
  have hbx := heap_alc w (.cells f.cs.toArray 25)
  obtain ⟨W1, hW1⟩ : ∃ W1, W1 = w.alloc (.cells f.cs.toArray 25) := ⟨_, rfl⟩
  rw [← hW1] at HB1 hbx
  have HW1 := hid hW1
  have HR := hid (fun X (hX : Below W1.heap.size W1 X) => blk_range (blk_later hbx hX))
  have HR1 := hid (HR.out W1 (Below.refl _ _))
  have HCK := hid (fun V => check_word f V)
  have HLA := hid hL
  have HKR := hid hr
  have HFV := hid hf
  have HNN := hid hn
  have HBL := hid hbl
  have HKF := hid hk
  have HC0 := hid (Fr.c0 (HR.out W1 (Below.refl _ _)))
  clear hbx hW1 hf hn hL hr hk hbl
  obtain ⟨kn, hkn⟩ : ∃ n, n = key.length := ⟨_, rfl⟩
  have HKN := hid hkn
  rw [← hkn]
  clear hkn
  cases hq : mayF f
  · rw [hq] at HCK
    go_enter Tryd.func11, Tryd.ntmps11
    go_wp2_with (first | refine wpList_load_P rfl 25 _ rfl w.heap.size 0 rfl f.cs _ (by rw [← HW1.out]; exact HR1.out) Tryd.underlying25 rfl Tryd.size25 ?_ | fail)
    rw [← HW1.out]
    refine (HCK.out W1).mono ?_
    rintro _ W2 ⟨rfl, hb2⟩
    have HB2 := hid (Bn HB1.out hb2)
    have he : e180 false = 180 := rfl
    rw [he]
    clear hb2
    go_wp2
    go_ret2
    exact ⟨_, rfl, HB2.out, .inl ⟨by first | trivial | rfl, rfl⟩⟩
  · have HMM := hid hq
    rw [hq] at HCK
    have hmm := hq
    unfold mayF up at hmm
    simp only [Bool.and_eq_true, decide_eq_true_eq] at hmm
    have HFR := hid hmm.1
    have hb9 : f.body.length ≤ 90000 := by
      rcases HBL.out with h | h
      · exact h
      · rw [hq] at h; cases h
    have HLEN : Hid ((nats (wrF f)).length ≤ 100000) := by
      show _ ≤ _
      rw [nats_len]
      have := wrF_len f
      omega
    have HKW := hid (fun V (hV : Below w.heap.size w V) => keyOf_word a cap key f.fr V (HLA.out.later hV) (HKR.out.later hV) HKF.out HFR.out)
    have HWW := hid (fun V (hV : Below w.heap.size w V) => written_word f V (HFV.out.later hV) HNN.out HMM.out)
    rw [← HKN.out] at HKW
    have HKL := hid (keyF_len key f.fr)
    have HKT := hid (keyF_lt key f.fr)
    have HSE : Hid (sealF key f = nats (wrF f) ++ Sh.Sha.hmac (keyF key f.fr) (nats (wrF f))) := rfl
    have HST : Hid (∀ j, (sealF key f).getD j 0 < 256) := by
      show ∀ j, _
      refine (Sh.all_lt _).2 fun z hz => ?_
      unfold sealF at hz
      rcases List.mem_append.1 hz with hz | hz
      · unfold nats at hz
        obtain ⟨y, hy, rfl⟩ := List.mem_map.1 hz
        have hmm2 := HMM.out
        unfold mayF up at hmm2
        simp only [Bool.and_eq_true, decide_eq_true_eq] at hmm2
        have := wrF_u8 hmm2.1 hmm2.2.1 hmm2.2.2.2.1 hmm2.2.2.2.2.1 hmm2.2.2.2.2.2.1 (all_u8 HFV.out.row.fits) y hy
        omega
      · exact (Sh.all_lt _).1 (fun j => Sh.digest_lt _ j) z hz
    obtain ⟨SF, hSF⟩ : ∃ S, S = sealF key f := ⟨_, rfl⟩
    rw [← hSF] at HSE HST ⊢
    obtain ⟨KF, hKF⟩ : ∃ S, S = keyF key f.fr := ⟨_, rfl⟩
    rw [← hKF] at HKW HKL HKT HSE
    obtain ⟨Z, hZ⟩ : ∃ S, S = nats (wrF f) := ⟨_, rfl⟩
    rw [← hZ] at HWW HLEN HSE
    have HZ39 := hid Sh.Tryd.zero39
    clear hq hmm hb9 hSF hKF hZ
    go_enter Tryd.func11, Tryd.ntmps11
    go_wp2_with (first | refine wpList_load_P rfl 25 _ rfl w.heap.size 0 rfl f.cs _ (by rw [← HW1.out]; exact HR1.out) Tryd.underlying25 rfl Tryd.size25 ?_ | fail)
    rw [← HW1.out]
    refine (HCK.out W1).mono ?_
    rintro _ W2 ⟨rfl, hb2⟩
    have HB2 := hid (Bn HB1.out hb2)
    have he : e180 true = 0 := rfl
    rw [he]
    have c0 := Fr.c0 (HR.out W2 hb2)
    have HS2 := hid hb2
    clear hb2 HCK
    go_wp2_with fail
    refine (HKW.out W2 HB2.out).mono ?_
    rintro _ W3 ⟨rfl, hb3⟩
    have HB3 := hid (Bn HB2.out hb3)
    have HS3 := hid (Bn HS2.out hb3)
    obtain ⟨g, hg⟩ : ∃ g, g = W3.heap.size := ⟨_, rfl⟩
    have HGQ := hid hg
    clear hb3 hg HKW c0
    go_wp2_with (first | refine wpList_alloc_W rfl 39 rfl (some 7) rfl (Sh.arr .u8 Sh.z32) HZ39.out g HGQ.out ?_ | fail)
    intro V1 HG1 HBl1 HT1
    go_wp2_with (first | refine wpList_store_W rfl 39 _ _ rfl rfl g (Sh.arr .u8 KF) rfl rfl 39 _ HG1.out (by rw [arr_size, HKL.out]; exact Sh.Tryd.size39') (by rw [arr_size, arr_size, HKL.out]; rfl) (arr_one _) ?_ | fail)
    intro W4 HG4 HGR4 HT4
    have HB34 : Hid (Below W3.heap.size W3 W4) := by
      show Below _ _ _
      rw [← HGQ.out]
      exact HBl1.out.trans (bel_grown HGR4.out (Nat.le_refl _) (by rw [HGQ.out]; exact HBl1.out.size))
    have HB4 := hid (Bn HB3.out HB34.out)
    have HS4 := hid (Bn HS3.out HB34.out)
    clear HG1 HBl1 HT1 HGR4 HT4 HGQ HB34
    have HKR4 := hid (fun V (hV : Below W4.heap.size W4 V) => Sh.Rd.block 32 HKL.out (blk_later HG4.out hV) (by unfold maxLen; omega) HKT.out)
    have HRR4 := hid (fun V (hV : Below W4.heap.size W4 V) => HR.out V (Bn HS4.out hV))
    have HSL := hid (fun V (hV : Below W4.heap.size W4 V) b c (hrd : Sh.Rd V (.slice b Z.length c) b c Z) => (show Calls Tryd.prog 25 #[.slice (some ⟨g, 0, none⟩) 32 32, .slice b Z.length c] V fun e w' => ∃ x d, e = .returned (.slice x SF.length d) ∧ Sh.Rd w' (.slice x SF.length d) x d SF ∧ Below V.heap.size V w' from by
      have hk32 : KF.length ≤ 100000 := by rw [HKL.out]; decide
      have hkr := HKR4.out V hV
      rw [← HKL.out] at hkr
      have := Sh.seal_word (some ⟨g, 0, none⟩) KF.length KF b c Z V (HLA.out.later (Bn HB4.out hV)) hkr hrd hk32 HLEN.out
      rw [HKL.out] at this
      refine this.mono fun e w' ⟨v, he, ho, hbl⟩ => ?_
      rw [← HSE.out] at ho
      obtain ⟨x, d, hv, hrd2⟩ := Sh.rd_any ho rfl HST.out
      exact ⟨x, d, by rw [he, hv], hrd2, hbl⟩))
    go_wp2_with fail
    refine wp_region_held_drew (S := fun X => Below W4.heap.size W4 X) (by kernel_rfl) (Below.refl _ _).drew (fun hS_v0 => ?_)
    have hd_v0 : Below W4.heap.size W4 W4.drew := (Below.refl _ _).drew
    generalize W4.drew = v0 at *
    simp only [List.size_toArray, List.length_cons, List.length_nil, Nat.reduceAdd]
    clear hd_v0
    refine Ord.take (i := 0) (d := 17) (v := .slice (some ⟨g, 0, none⟩) 32 32) rfl rfl (by as_aux_lemma => kernel_rfl) (by as_aux_lemma => kernel_rfl) (by as_aux_lemma => kernel_rfl) (fun _ _ _ h => h) (by rfl) ?hS0 (by assumption) ?_
    case hS0 => intro wx hSw; go_simp; try with_reducible rfl
    try simp only [List.setIfInBounds_toArray, List.set_cons_zero, List.set_cons_succ]
    refine Ord.take (i := 1) (d := 18) (v := .agg f.cs.toArray) rfl rfl (by as_aux_lemma => kernel_rfl) (by as_aux_lemma => kernel_rfl) (by as_aux_lemma => kernel_rfl) (fun _ _ _ h => h) (by rfl) ?hS1 (by assumption) ?_
    case hS1 => intro wx hSw; exact exec_load 25 (.tmp 3) rfl w.heap.size 0 rfl (run_loadVar_mid wx w.heap.size 0 25 f.cs _ (HRR4.out _ hSw) Tryd.underlying25 rfl Tryd.size25)
    try simp only [List.setIfInBounds_toArray, List.set_cons_zero, List.set_cons_succ]
    refine wpAnyH_ready (rs := [2]) (by as_aux_lemma => kernel_rfl) (by simp) (AllReadyH.cons rfl (fun K hK => ?_) AllReadyH.nil)
    go_simp
    go_simp
    refine (HWW.out v0 (Bn HB4.out hS_v0)).mono ?_
    rintro _ v1 ⟨b, c, rfl, hrd, hb⟩
    have hS_v1 : Below W4.heap.size W4 v1 := Bn hS_v0 hb
    have HRD := hid hrd
    clear hb hrd
    refine hK.out _ _ hS_v1 (fun _ => ?_)
    clear hK K
    try simp only [List.setIfInBounds_toArray, List.set_cons_zero, List.set_cons_succ]
    try simp only [List.setIfInBounds_toArray, List.set_cons_zero, List.set_cons_succ]
    refine wpAnyH_ready (rs := [3]) (by as_aux_lemma => kernel_rfl) (by simp) (AllReadyH.cons rfl (fun K hK => ?_) AllReadyH.nil)
    go_simp
    go_simp
    refine (HSL.out v1 hS_v1 b c HRD.out).mono ?_
    rintro _ v2 ⟨x, d, rfl, hrd, hb⟩
    have hS_v2 : Below W4.heap.size W4 v2 := Bn hS_v1 hb
    have HRZ := hid hrd
    clear hb hrd
    refine hK.out _ _ hS_v2 (fun _ => ?_)
    clear hK K
    try simp only [List.setIfInBounds_toArray, List.set_cons_zero, List.set_cons_succ]
    try simp only [List.setIfInBounds_toArray, List.set_cons_zero, List.set_cons_succ]
    refine Ord.take (i := 4) (d := 4) (v := ?vS4) rfl rfl (by as_aux_lemma => kernel_rfl) (by as_aux_lemma => kernel_rfl) (by as_aux_lemma => kernel_rfl) (fun _ _ _ h => h) (by rfl) ?hS4 (by assumption) ?_
    case hS4 => intro wx hSw; go_simp; try with_reducible rfl
    try simp only [List.setIfInBounds_toArray, List.set_cons_zero, List.set_cons_succ]
    refine Ord.take (i := 5) (d := 5) (v := ?vS5) rfl rfl (by as_aux_lemma => kernel_rfl) (by as_aux_lemma => kernel_rfl) (by as_aux_lemma => kernel_rfl) (fun _ _ _ h => h) (by rfl) ?hS5 (by assumption) ?_
    case hS5 => intro wx hSw; go_simp; try with_reducible rfl
    try simp only [List.setIfInBounds_toArray, List.set_cons_zero, List.set_cons_succ]
    refine wpAnyH_done (by as_aux_lemma => kernel_rfl) ?_ _
    have HS9 := hid (Bn HB4.out hS_v2)
    clear hS_v0 hS_v1 hS_v2
    go_wp2
    go_ret2
    exact ⟨_, rfl, HS9.out, .inr ⟨by first | trivial | rfl, x, d, rfl, HRZ.out⟩⟩
end Go.Proofs.YtgnjicpmfpgdeaaDoor
