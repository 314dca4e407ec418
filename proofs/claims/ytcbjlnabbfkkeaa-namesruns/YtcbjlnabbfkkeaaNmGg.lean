/-
  The law's look (15): all that a namespace tells, and the document's.
-/
import Derived.Test.YtcbjlnabbfkkeaaNmGb
import Derived.Test.YtcbjlnabbfkkeaaNmGf
namespace Go.Proofs.Ytcbjlnabbfkkeaa
open Go.ChangeShapes Go.WideShapes Go.ChangeAt Go.RowKit Go.Deep Go.Lib

theorem same_ab (V : World) (NA NB : Nat) (A B : Fi) (hA : V.heap[NA]? = some (.cells A.cs.toArray 51)) (hB : V.heap[NB]? = some (.cells B.cs.toArray 51)) (rA : Rp V A.a A.cap A.ps) (rB : Rp V B.a B.cap B.ps) (hs : Sm A B) :
    Calls Try.prog 19 #[.slice (some ⟨NA, 0, none⟩) 1 1, .slice (some ⟨NB, 0, none⟩) 1 1] V fun e w' => e = .returned (.bool true) ∧ Below V.heap.size V w' := by
  refine (same_word [A] [B] (some ⟨NA, 0, none⟩) (some ⟨NB, 0, none⟩) 1 1 V (fs_one hA rA) (fs_one hB rB)).mono ?_
  rintro _ w' ⟨q, rfl, hq, hb⟩
  have : q = true := hq.2 ⟨rfl, fun i hi => by
    have hi0 : i = 0 := by simp at hi; exact hi
    subst hi0
    exact hs⟩
  subst this
  exact ⟨rfl, hb⟩
theorem Rel.fi {M : List Fl} {L : List Fi} (h : Rel M L) (y : List Int) : (∃ f ∈ M, ∃ p ∈ f.ps, p.1 = y) ↔ ∃ i ∈ L, ∃ p ∈ i.ps, p.1 = y := by
  constructor
  · rintro ⟨f, hf, p, hp, e⟩
    obtain ⟨i, hi, e2⟩ := h.lst.all f.path f (fnd_has h.apart f hf) (pre_empty _)
    obtain ⟨f2, h1, h2, _⟩ := h.lst.sound i hi
    rw [e2, fnd_has h.apart f hf] at h1
    injection h1 with h1
    subst h1
    exact ⟨i, hi, p, by rw [h2.2.2.2]; exact hp, e⟩
  · rintro ⟨i, hi, p, hp, e⟩
    obtain ⟨f, h1, h2, _⟩ := h.lst.sound i hi
    exact ⟨f, fnd_mem h1, p, by rw [← h2.2.2.2]; exact hp, e⟩
theorem Rel.few {M : List Fl} {L : List Fi} (h : Rel M L) (hL : ∀ i ∈ L, Iok i) : ∀ f ∈ M, f.ps.length ≤ 40 := fun f hf => by
  obtain ⟨i, hi, e2⟩ := h.lst.all f.path f (fnd_has h.apart f hf) (pre_empty _)
  obtain ⟨f2, h1, h2, _⟩ := h.lst.sound i hi
  rw [e2, fnd_has h.apart f hf] at h1
  injection h1 with h1
  subst h1
  rw [← h2.2.2.2]
  exact (hL i hi).few
theorem dst_fits {W : World} {d : Nat} {ad : Option Addr} {capd : Nat} {L : List Fi} (h : Dn W d ad capd L) (p : ByteArray) : Rp W (dstF L p).1.a (dstF L p).1.cap (dstF L p).1.ps := by
  by_cases h0 : (dstF L p).2 = 0
  · exact h.fs.ps _ (dst_mem h0)
  · have e : (dstF L p).1 = fiZ := by
      unfold dstF at h0 ⊢
      split
      · rfl
      · rename_i hc
        rw [if_neg hc] at h0
        exact absurd rfl h0
    rw [e]
    exact Rp.zero _
set_option maxHeartbeats 25600000 in
set_option maxRecDepth 100000 in
theorem look_word (W : World) (n g d : Nat) (M : List Fl) (B : Nat) (ad : Option Addr) (capd : Nat) (L : List Fi) (hN : Nm B W n g M) (hD : Dn W d ad capd L) (hR : Rel M L) (hI : ∀ i ∈ L, Iok i) (hL : L.length ≤ 1024) (q p : ByteArray) (hp : p.size ≤ maxLen) (f z : Int) (w1 : (Lit.int .i64 f).wf = true) (w2 : (Lit.int .i64 z).wf = true) :
    Calls Try.prog 15 #[.pointer (some ⟨n, 0, none⟩), .pointer (some ⟨d, 0, none⟩), .string q, .string p, .int .i64 f, .int .i64 z] W fun e w' => e = .returned (.bool true) ∧ Below W.heap.size W w' := by
  obtain ⟨i1, hi1, hy0, hy1, hy2⟩ := info_parts Try.info51
  have HY := hid Try.zero51
  have HNM0 := hid (fun X (hX : Below W.heap.size W X) => hN.later hX)
  have HDN0 := hid (fun X (hX : Below W.heap.size W X) => hD.later hX)
  have HREL := hid hR
  have HLE := hid hL
  have HIO := hid hI
  have HPP := hid hp
  have HPL40 : Hid (∀ i ∈ L, i.ps.length ≤ 40) := fun i hi => (hI i hi).few
  have HPM := hid (hR.few hI)
  have HONE : Hid (∀ A, RiseD A → (∀ y, y ∈ A ↔ ∃ f ∈ M, ∃ p ∈ f.ps, p.1 = y) → A = digL L) := fun A h1 h2 => dig_one (fun i hi p hp => ((hD.fs.ps i hi).fits p hp).len) h1 (fun y => (h2 y).trans (hR.fi y))
  obtain ⟨SO, hSO⟩ : ∃ SO, SO = (dsekO L p f z).2 := ⟨_, rfl⟩
  obtain ⟨SE, hSE⟩ : ∃ SE, SE = (dsekO L p f z).1 := ⟨_, rfl⟩
  have HSK : Hid (sekO M p f z = (SE, SO)) := by show _ = _; rw [hR.seek, hSO, hSE]
  have HDK : Hid (dsekO L p f z = (SE, SO)) := by show _ = _; rw [hSO, hSE]
  have HW1 := hid w1
  have HW2 := hid w2
  clear hN hD hR hL hI hp hSO hSE
  go_enter Try.func15, Try.ntmps15
  go_wp2_with fail
  refine (stat_st W n g M B (HNM0.out _ (Below.refl _ _)) p HPP.out).mono ?_
  rintro _ V1 ⟨i, x, rfl, hst, hri, _, hb1⟩
  have HST := hid (HREL.out.stat hst)
  have HRI1 := hid hri
  have HB1 := hid hb1
  obtain ⟨jF, hjF⟩ : ∃ jF, jF = (dstF L p).1 := ⟨_, rfl⟩
  obtain ⟨jx, hjx⟩ : ∃ jx, jx = (dstF L p).2 := ⟨_, rfl⟩
  have HJF := hid hjF
  rw [← hjF, ← hjx] at HST
  have hxj : x = jx := HST.out.2
  subst hxj
  have HSM : Hid (Sm i jF) := HST.out.1
  have HJX := hid hjx
  clear hst hri hb1 hjF hjx HST
  obtain ⟨N1, hN1⟩ : ∃ N, N = V1.heap.size := ⟨_, rfl⟩
  go_wp2_with (first | refine wpList_alloc_W rfl 51 rfl (some 13) rfl _ HY.out N1 hN1 ?_ | fail)
  intro V2 HG2 HB2 HS2
  go_wp2_with (first | refine wpList_store_W rfl 51 _ _ rfl rfl N1 i.cs.toArray rfl rfl 51 _ HG2.out Try.size51 rfl (Fi.one _) ?_ | fail)
  intro V3 HG3 HGR3 HS3
  have HB3 : Hid (Below V1.heap.size V1 V3) := by
    show Below _ _ _
    rw [← hN1]
    exact HB2.out.trans (bel_grown HGR3.out (Nat.le_refl _) (by rw [hN1]; exact HB2.out.size))
  have HBW3 := hid (Bn HB1.out HB3.out)
  have HRI3 := hid (HRI1.out.later HB3.out)
  clear HG2 HB2 HS2 HGR3 HS3 hN1 HRI1
  go_wp2_with fail
  refine (dstat_word V3 d ad capd L p (HDN0.out _ HBW3.out)).mono ?_
  rintro _ V4 ⟨rfl, hb4⟩
  rw [← HJF.out, ← HJX.out]
  have HB4' := hid hb4
  have HRJ4 : Hid (Rp V4 jF.a jF.cap jF.ps) := by
    show Rp _ _ _ _
    rw [HJF.out]
    exact dst_fits (HDN0.out _ (Bn HBW3.out hb4)) p
  have HG4 := hid (blk_later HG3.out hb4)
  have HRI4 := hid (HRI3.out.later hb4)
  have HBW4 := hid (Bn HBW3.out hb4)
  clear hb4 HG3 HRI3 HBW3
  obtain ⟨N2, hN2⟩ : ∃ N, N = V4.heap.size := ⟨_, rfl⟩
  go_wp2_with (first | refine wpList_alloc_W rfl 51 rfl (some 15) rfl _ HY.out N2 hN2 ?_ | fail)
  intro V5 HG5 HB5 HS5
  go_wp2_with (first | refine wpList_store_W rfl 51 _ _ rfl rfl N2 jF.cs.toArray rfl rfl 51 _ HG5.out Try.size51 rfl (Fi.one _) ?_ | fail)
  intro V6 HG6 HGR6 HS6
  have HB6 : Hid (Below V4.heap.size V4 V6) := by
    show Below _ _ _
    rw [← hN2]
    exact HB5.out.trans (bel_grown HGR6.out (Nat.le_refl _) (by rw [hN2]; exact HB5.out.size))
  have HBW6 := hid (Bn HBW4.out HB6.out)
  have HRI6 := hid (HRI4.out.later HB6.out)
  have HRJ6 := hid (HRJ4.out.later HB6.out)
  have HGI6 := hid (blk_later HG4.out HB6.out)
  clear HG5 HB5 HS5 HGR6 HS6 hN2 HRI4 HRJ4 HG4 HBW4
  go_wp2_with fail
  refine (seek_word V6 n g M B (HNM0.out _ HBW6.out) p HPP.out f z HW1.out HW2.out).mono ?_
  rintro _ V7 hsk
  rw [HSK.out] at hsk
  obtain ⟨xa, xc, rfl, hpx, _, hb7⟩ := hsk
  have HPX7 := hid hpx
  have HBW7 := hid (Bn HBW6.out hb7)
  have HRI7 := hid (HRI6.out.later hb7)
  have HRJ7 := hid (HRJ6.out.later hb7)
  have HGI7 := hid (blk_later HGI6.out hb7)
  have HGJ7 := hid (blk_later HG6.out hb7)
  clear hpx hb7 HRI6 HRJ6 HGI6 HG6 HBW6
  go_wp2_with fail
  refine (dseek_word V7 d ad capd L p f z (HDN0.out _ HBW7.out) HIO.out HW1.out HW2.out).mono ?_
  rintro _ W4 ⟨ya, yc, rfl, hpy, hpl, hb8⟩
  rw [HDK.out] at hpy hpl ⊢
  have HPL := hid hpl
  have HB4 := hid (Bn HBW7.out hb8)
  have HPX := hid (fun X (hX : Below W4.heap.size W4 X) => (HPX7.out.later hb8).later hX)
  have HPY := hid (fun X (hX : Below W4.heap.size W4 X) => hpy.later hX)
  have HRI := hid (fun X (hX : Below W4.heap.size W4 X) => (HRI7.out.later hb8).later hX)
  have HRJ := hid (fun X (hX : Below W4.heap.size W4 X) => (HRJ7.out.later hb8).later hX)
  have HL1 := hid (fun X (hX : Below W4.heap.size W4 X) => blk_range (blk_later (blk_later HGI7.out hb8) hX))
  have HL2 := hid (fun X (hX : Below W4.heap.size W4 X) => blk_range (blk_later (blk_later HGJ7.out hb8) hX))
  have HNM := hid (fun X (hX : Below W4.heap.size W4 X) => HNM0.out X (Bn HB4.out hX))
  have HDN := hid (fun X (hX : Below W4.heap.size W4 X) => HDN0.out X (Bn HB4.out hX))
  have HCD := hid (fun X (hX : Below W4.heap.size W4 X) => (Joins.cell_of_block (HDN.out X hX).blk 0).trans (show _ = some (Value.slice ad L.length capd) from rfl))
  clear hpy hpl hb8 HPX7 HRI7 HRJ7 HGI7 HGJ7 HBW7 HNM0 HDN0 HSK HDK HIO HJF HJX HPP HB1 HB3 HB6 HB4'
  go_wp2_with fail
  refine wp_region_held_drew (S := fun X => Below W4.heap.size W4 X) (by kernel_rfl) (Below.refl _ _).drew (fun hS_v0 => ?_)
  generalize W4.drew = v0 at *
  simp only [List.size_toArray, List.length_cons, List.length_nil, Nat.reduceAdd]
  refine Ord.take (i := 0) (d := 49) (v := .agg i.cs.toArray) rfl rfl (by as_aux_lemma => kernel_rfl) (by as_aux_lemma => kernel_rfl) (by as_aux_lemma => kernel_rfl) (fun _ _ _ h => h) (by rfl) ?hA0 (by assumption) ?_
  case hA0 => intro wx hSw; exact exec_load 51 (.tmp 13) rfl N1 0 rfl (run_loadVar_mid wx N1 0 51 i.cs _ (HL1.out _ hSw) Try.underlying51 rfl Try.size51)
  try simp only [List.setIfInBounds_toArray, List.set_cons_zero, List.set_cons_succ]
  refine Ord.take (i := 2) (d := 51) (v := .agg jF.cs.toArray) rfl rfl (by as_aux_lemma => kernel_rfl) (by as_aux_lemma => kernel_rfl) (by as_aux_lemma => kernel_rfl) (fun _ _ _ h => h) (by rfl) ?hA2 (by assumption) ?_
  case hA2 => intro wx hSw; exact exec_load 51 (.tmp 15) rfl N2 0 rfl (run_loadVar_mid wx N2 0 51 jF.cs _ (HL2.out _ hSw) Try.underlying51 rfl Try.size51)
  try simp only [List.setIfInBounds_toArray, List.set_cons_zero, List.set_cons_succ]
  refine wpAnyH_ready (rs := [1, 3]) (by as_aux_lemma => kernel_rfl) (by simp) (AllReadyH.cons rfl (fun K hK => ?_) (AllReadyH.cons rfl (fun K hK => ?_) (AllReadyH.nil)))
  · try rw [if_pos (by rfl)]
    obtain ⟨NA, hNA⟩ : ∃ N, N = v0.heap.size := ⟨_, rfl⟩
    refine wp_buildOne_W 27 51 _ rfl i.cs.toArray i1 _ Try.underlying27 hi1 hy0 (hy1.trans rfl) (show 0 < 4 from by decide) (show 4 ≤ 1000 from by decide) rfl NA hNA ?_
    intro va HG_va HB_va
    have hS_va : Below W4.heap.size W4 va := Bn hS_v0 (by rw [← hNA]; exact HB_va.out)
    have HAA0 := hid HG_va.out
    have HBB_va : Hid (Below v0.heap.size v0 va) := by show Below _ _ _; rw [← hNA]; exact HB_va.out
    clear HG_va HB_va hNA
    refine hK.out _ _ hS_va (fun _ => ?_)
    clear hK K
    try simp only [List.setIfInBounds_toArray, List.set_cons_zero, List.set_cons_succ]
    refine wpAnyH_ready (rs := [3]) (by as_aux_lemma => kernel_rfl) (by simp) (AllReadyH.cons rfl (fun K hK => ?_) (AllReadyH.nil))
    try rw [if_pos (by rfl)]
    obtain ⟨NB, hNB⟩ : ∃ N, N = va.heap.size := ⟨_, rfl⟩
    refine wp_buildOne_W 27 51 _ rfl jF.cs.toArray i1 _ Try.underlying27 hi1 hy0 (hy1.trans rfl) (show 0 < 4 from by decide) (show 4 ≤ 1000 from by decide) rfl NB hNB ?_
    intro vb HG_vb HB_vb
    have hS_vb : Below W4.heap.size W4 vb := Bn hS_va (by rw [← hNB]; exact HB_vb.out)
    have HAB := hid HG_vb.out
    have HBB_vb : Hid (Below va.heap.size va vb) := by show Below _ _ _; rw [← hNB]; exact HB_vb.out
    clear HG_vb HB_vb hNB
    refine hK.out _ _ hS_vb (fun _ => ?_)
    clear hK K
    try simp only [List.setIfInBounds_toArray, List.set_cons_zero, List.set_cons_succ]
    have HAA := hid (blk_later HAA0.out HBB_vb.out)
    clear HAA0
    refine wpAnyH_ready (rs := [4]) (by as_aux_lemma => kernel_rfl) (by simp) (AllReadyH.cons rfl (fun K hK => ?_) (AllReadyH.nil))
    go_simp
    refine (same_ab vb NA NB i jF HAA.out HAB.out (HRI.out _ hS_vb) (HRJ.out _ hS_vb) HSM.out).mono ?_
    rintro _ v4 ⟨rfl, hb_v4⟩
    have hS_v4 : Below W4.heap.size W4 v4 := Bn hS_vb hb_v4
    clear hb_v4
    refine hK.out _ _ hS_v4 (fun _ => ?_)
    clear hK K
    try simp only [List.setIfInBounds_toArray, List.set_cons_zero, List.set_cons_succ]
    refine Ord.take (i := 5) (d := 54) (v := ?vA5) rfl rfl (by as_aux_lemma => kernel_rfl) (by as_aux_lemma => kernel_rfl) (by as_aux_lemma => kernel_rfl) (fun _ _ _ h => h) (by rfl) ?hA5 (by assumption) ?_
    case hA5 => intro wx hSw; go_simp; try with_reducible rfl
    try simp only [List.setIfInBounds_toArray, List.set_cons_zero, List.set_cons_succ]
    refine Ord.take (i := 6) (d := 55) (v := ?vA6) rfl rfl (by as_aux_lemma => kernel_rfl) (by as_aux_lemma => kernel_rfl) (by as_aux_lemma => kernel_rfl) (fun _ _ _ h => h) (by rfl) ?hA6 (by assumption) ?_
    case hA6 => intro wx hSw; go_simp; try with_reducible rfl
    try simp only [List.setIfInBounds_toArray, List.set_cons_zero, List.set_cons_succ]
    refine Ord.take (i := 7) (d := 56) (v := ?vA7) rfl rfl (by as_aux_lemma => kernel_rfl) (by as_aux_lemma => kernel_rfl) (by as_aux_lemma => kernel_rfl) (fun _ _ _ h => h) (by rfl) ?hA7 (by assumption) ?_
    case hA7 => intro wx hSw; go_simp; try with_reducible rfl
    try simp only [List.setIfInBounds_toArray, List.set_cons_zero, List.set_cons_succ]
    refine Ord.take (i := 8) (d := 57) (v := .bool true) rfl rfl (by as_aux_lemma => kernel_rfl) (by as_aux_lemma => kernel_rfl) (by as_aux_lemma => kernel_rfl) (fun _ _ _ h => h) (by rfl) ?hA8 (by assumption) ?_
    case hA8 => intro wx hSw; go_simp; try with_reducible rfl
    try simp only [List.setIfInBounds_toArray, List.set_cons_zero, List.set_cons_succ]
    refine Ord.take (i := 9) (d := 58) (v := .bool true) rfl rfl (by as_aux_lemma => kernel_rfl) (by as_aux_lemma => kernel_rfl) (by as_aux_lemma => kernel_rfl) (fun _ _ _ h => h) (by rfl) ?hA9 (by assumption) ?_
    case hA9 => intro wx hSw; go_simp; try with_reducible rfl
    try simp only [List.setIfInBounds_toArray, List.set_cons_zero, List.set_cons_succ]
    refine Ord.take (i := 10) (d := 59) (v := ?vA10) rfl rfl (by as_aux_lemma => kernel_rfl) (by as_aux_lemma => kernel_rfl) (by as_aux_lemma => kernel_rfl) (fun _ _ _ h => h) (by rfl) ?hA10 (by assumption) ?_
    case hA10 => intro wx hSw; go_simp; try with_reducible rfl
    try simp only [List.setIfInBounds_toArray, List.set_cons_zero, List.set_cons_succ]
    refine Ord.take (i := 11) (d := 60) (v := ?vA11) rfl rfl (by as_aux_lemma => kernel_rfl) (by as_aux_lemma => kernel_rfl) (by as_aux_lemma => kernel_rfl) (fun _ _ _ h => h) (by rfl) ?hA11 (by assumption) ?_
    case hA11 => intro wx hSw; go_simp; try with_reducible rfl
    try simp only [List.setIfInBounds_toArray, List.set_cons_zero, List.set_cons_succ]
    refine Ord.take (i := 12) (d := 61) (v := ?vA12) rfl rfl (by as_aux_lemma => kernel_rfl) (by as_aux_lemma => kernel_rfl) (by as_aux_lemma => kernel_rfl) (fun _ _ _ h => h) (by rfl) ?hA12 (by assumption) ?_
    case hA12 => intro wx hSw; go_simp; try with_reducible rfl
    try simp only [List.setIfInBounds_toArray, List.set_cons_zero, List.set_cons_succ]
    refine wpAnyH_ready (rs := [13]) (by as_aux_lemma => kernel_rfl) (by simp) (AllReadyH.cons rfl (fun K hK => ?_) (AllReadyH.nil))
    go_simp
    refine (sprt_word SO SO xa ya xc yc v4 (HPX.out _ hS_v4) (HPY.out _ hS_v4) HPL.out HPL.out).mono ?_
    rintro _ v13 ⟨q13, rfl, hq13, hb_v13⟩
    have hS_v13 : Below W4.heap.size W4 v13 := Bn hS_v4 hb_v13
    have hq13t : q13 = true := hq13.2 ⟨rfl, fun _ _ => ⟨rfl, rfl, rfl⟩⟩
    subst hq13t
    clear hq13
    clear hb_v13
    refine hK.out _ _ hS_v13 (fun _ => ?_)
    clear hK K
    try simp only [List.setIfInBounds_toArray, List.set_cons_zero, List.set_cons_succ]
    refine Ord.take (i := 14) (d := 63) (v := .bool true) rfl rfl (by as_aux_lemma => kernel_rfl) (by as_aux_lemma => kernel_rfl) (by as_aux_lemma => kernel_rfl) (fun _ _ _ h => h) (by rfl) ?hA14 (by assumption) ?_
    case hA14 => intro wx hSw; go_simp; try with_reducible rfl
    try simp only [List.setIfInBounds_toArray, List.set_cons_zero, List.set_cons_succ]
    refine Ord.take (i := 15) (d := 64) (v := ?vA15) rfl rfl (by as_aux_lemma => kernel_rfl) (by as_aux_lemma => kernel_rfl) (by as_aux_lemma => kernel_rfl) (fun _ _ _ h => h) (by rfl) ?hA15 (by assumption) ?_
    case hA15 => intro wx hSw; go_simp; try with_reducible rfl
    try simp only [List.setIfInBounds_toArray, List.set_cons_zero, List.set_cons_succ]
    refine Ord.take (i := 16) (d := 65) (v := ?vA16) rfl rfl (by as_aux_lemma => kernel_rfl) (by as_aux_lemma => kernel_rfl) (by as_aux_lemma => kernel_rfl) (fun _ _ _ h => h) (by rfl) ?hA16 (by assumption) ?_
    case hA16 => intro wx hSw; go_simp; try with_reducible rfl
    try simp only [List.setIfInBounds_toArray, List.set_cons_zero, List.set_cons_succ]
    refine Ord.take (i := 17) (d := 66) (v := ?vA17) rfl rfl (by as_aux_lemma => kernel_rfl) (by as_aux_lemma => kernel_rfl) (by as_aux_lemma => kernel_rfl) (fun _ _ _ h => h) (by rfl) ?hA17 (by assumption) ?_
    case hA17 => intro wx hSw; go_simp; try with_reducible rfl
    try simp only [List.setIfInBounds_toArray, List.set_cons_zero, List.set_cons_succ]
    refine Ord.take (i := 18) (d := 67) (v := .bool true) rfl rfl (by as_aux_lemma => kernel_rfl) (by as_aux_lemma => kernel_rfl) (by as_aux_lemma => kernel_rfl) (fun _ _ _ h => h) (by rfl) ?hA18 (by assumption) ?_
    case hA18 => intro wx hSw; go_simp; try with_reducible rfl
    try simp only [List.setIfInBounds_toArray, List.set_cons_zero, List.set_cons_succ]
    refine Ord.take (i := 19) (d := 68) (v := .bool true) rfl rfl (by as_aux_lemma => kernel_rfl) (by as_aux_lemma => kernel_rfl) (by as_aux_lemma => kernel_rfl) (fun _ _ _ h => h) (by rfl) ?hA19 (by assumption) ?_
    case hA19 => intro wx hSw; go_simp; try with_reducible rfl
    try simp only [List.setIfInBounds_toArray, List.set_cons_zero, List.set_cons_succ]
    refine Ord.take (i := 20) (d := 69) (v := ?vA20) rfl rfl (by as_aux_lemma => kernel_rfl) (by as_aux_lemma => kernel_rfl) (by as_aux_lemma => kernel_rfl) (fun _ _ _ h => h) (by rfl) ?hA20 (by assumption) ?_
    case hA20 => intro wx hSw; go_simp; try with_reducible rfl
    try simp only [List.setIfInBounds_toArray, List.set_cons_zero, List.set_cons_succ]
    refine Ord.take (i := 21) (d := 70) (v := ?vA21) rfl rfl (by as_aux_lemma => kernel_rfl) (by as_aux_lemma => kernel_rfl) (by as_aux_lemma => kernel_rfl) (fun _ _ _ h => h) (by rfl) ?hA21 (by assumption) ?_
    case hA21 => intro wx hSw; go_simp; try with_reducible rfl
    try simp only [List.setIfInBounds_toArray, List.set_cons_zero, List.set_cons_succ]
    refine Ord.take (i := 22) (d := 71) (v := ?vA22) rfl rfl (by as_aux_lemma => kernel_rfl) (by as_aux_lemma => kernel_rfl) (by as_aux_lemma => kernel_rfl) (fun _ _ _ h => h) (by rfl) ?hA22 (by assumption) ?_
    case hA22 => intro wx hSw; go_simp; try with_reducible rfl
    try simp only [List.setIfInBounds_toArray, List.set_cons_zero, List.set_cons_succ]
    refine Ord.take (i := 24) (d := 73) (v := ?vA24) rfl rfl (by as_aux_lemma => kernel_rfl) (by as_aux_lemma => kernel_rfl) (by as_aux_lemma => kernel_rfl) (fun _ _ _ h => h) (by rfl) ?hA24 (by assumption) ?_
    case hA24 => intro wx hSw; go_simp; try with_reducible rfl
    try simp only [List.setIfInBounds_toArray, List.set_cons_zero, List.set_cons_succ]
    refine Ord.take (i := 25) (d := 74) (v := ?vA25) rfl rfl (by as_aux_lemma => kernel_rfl) (by as_aux_lemma => kernel_rfl) (by as_aux_lemma => kernel_rfl) (fun _ _ _ h => h) (by rfl) ?hA25 (by assumption) ?_
    case hA25 => intro wx hSw; go_simp; try with_reducible rfl
    try simp only [List.setIfInBounds_toArray, List.set_cons_zero, List.set_cons_succ]
    refine wpAnyH_ready (rs := [23]) (by as_aux_lemma => kernel_rfl) (by simp) (AllReadyH.cons rfl (fun K hK => ?_) (AllReadyH.nil))
    go_simp
    refine (list_word v13 n g M B (HNM.out _ hS_v13) q).mono ?_
    rintro _ v23 ⟨a23, c23, L23, rfl, hf23, hl23, hb_v23⟩
    have hS_v23 : Below W4.heap.size W4 v23 := Bn hS_v13 hb_v23
    have HF23 := hid hf23
    have HL23 := hid hl23
    clear hf23 hl23
    clear hb_v23
    refine hK.out _ _ hS_v23 (fun _ => ?_)
    clear hK K
    try simp only [List.setIfInBounds_toArray, List.set_cons_zero, List.set_cons_succ]
    refine wpAnyH_ready (rs := [26]) (by as_aux_lemma => kernel_rfl) (by simp) (AllReadyH.cons rfl (fun K hK => ?_) (AllReadyH.nil))
    go_simp
    refine (dlist_word v23 d ad capd L q (HDN.out _ hS_v23) HLE.out).mono ?_
    rintro _ v26 ⟨a26, c26, rfl, hf26, hb_v26⟩
    have hS_v26 : Below W4.heap.size W4 v26 := Bn hS_v23 hb_v26
    have HF26 := hid hf26
    have HF23b := hid (HF23.out.later hb_v26)
    clear hf26
    clear hb_v26
    refine hK.out _ _ hS_v26 (fun _ => ?_)
    clear hK K
    try simp only [List.setIfInBounds_toArray, List.set_cons_zero, List.set_cons_succ]
    refine wpAnyH_ready (rs := [27]) (by as_aux_lemma => kernel_rfl) (by simp) (AllReadyH.cons rfl (fun K hK => ?_) (AllReadyH.nil))
    go_simp
    refine (same_word L23 (L.filter fun i => preB i.path q) a23 a26 c23 c26 v26 HF23b.out HF26.out).mono ?_
    rintro _ v27 ⟨q27, rfl, hq27, hb_v27⟩
    have hS_v27 : Below W4.heap.size W4 v27 := Bn hS_v26 hb_v27
    have hq27t : q27 = true := hq27.2 (HL23.out.one (HREL.out.list q))
    subst hq27t
    clear hq27
    clear hb_v27
    refine hK.out _ _ hS_v27 (fun _ => ?_)
    clear hK K
    try simp only [List.setIfInBounds_toArray, List.set_cons_zero, List.set_cons_succ]
    refine Ord.take (i := 28) (d := 77) (v := .bool true) rfl rfl (by as_aux_lemma => kernel_rfl) (by as_aux_lemma => kernel_rfl) (by as_aux_lemma => kernel_rfl) (fun _ _ _ h => h) (by rfl) ?hA28 (by assumption) ?_
    case hA28 => intro wx hSw; go_simp; try with_reducible rfl
    try simp only [List.setIfInBounds_toArray, List.set_cons_zero, List.set_cons_succ]
    refine Ord.take (i := 29) (d := 78) (v := ?vA29) rfl rfl (by as_aux_lemma => kernel_rfl) (by as_aux_lemma => kernel_rfl) (by as_aux_lemma => kernel_rfl) (fun _ _ _ h => h) (by rfl) ?hA29 (by assumption) ?_
    case hA29 => intro wx hSw; go_simp; try with_reducible rfl
    try simp only [List.setIfInBounds_toArray, List.set_cons_zero, List.set_cons_succ]
    refine Ord.take (i := 30) (d := 79) (v := ?vA30) rfl rfl (by as_aux_lemma => kernel_rfl) (by as_aux_lemma => kernel_rfl) (by as_aux_lemma => kernel_rfl) (fun _ _ _ h => h) (by rfl) ?hA30 (by assumption) ?_
    case hA30 => intro wx hSw; go_simp; try with_reducible rfl
    try simp only [List.setIfInBounds_toArray, List.set_cons_zero, List.set_cons_succ]
    refine Ord.take (i := 32) (d := 81) (v := ?vA32) rfl rfl (by as_aux_lemma => kernel_rfl) (by as_aux_lemma => kernel_rfl) (by as_aux_lemma => kernel_rfl) (fun _ _ _ h => h) (by rfl) ?hA32 (by assumption) ?_
    case hA32 => intro wx hSw; go_simp; try with_reducible rfl
    try simp only [List.setIfInBounds_toArray, List.set_cons_zero, List.set_cons_succ]
    refine Ord.take (i := 33) (d := 82) (v := ?vA33) rfl rfl (by as_aux_lemma => kernel_rfl) (by as_aux_lemma => kernel_rfl) (by as_aux_lemma => kernel_rfl) (fun _ _ _ h => h) (by rfl) ?hA33 (by assumption) ?_
    case hA33 => intro wx hSw; go_simp; try with_reducible rfl
    try simp only [List.setIfInBounds_toArray, List.set_cons_zero, List.set_cons_succ]
    refine Ord.take (i := 34) (d := 83) (v := .pointer (some ⟨d, 0, none⟩)) rfl rfl (by as_aux_lemma => kernel_rfl) (by as_aux_lemma => kernel_rfl) (by as_aux_lemma => kernel_rfl) (fun _ _ _ h => h) (by rfl) ?hA34 (by assumption) ?_
    case hA34 => intro wx hSw; go_simp; try with_reducible rfl
    try simp only [List.setIfInBounds_toArray, List.set_cons_zero, List.set_cons_succ]
    refine Ord.take (i := 35) (d := 84) (v := .slice ad L.length capd) rfl rfl (by as_aux_lemma => kernel_rfl) (by as_aux_lemma => kernel_rfl) (by as_aux_lemma => kernel_rfl) (fun _ _ _ h => h) (by rfl) ?hA35 (by assumption) ?_
    case hA35 => intro wx hSw; have hc := HCD.out _ hSw; go_simp; try with_reducible rfl
    try simp only [List.setIfInBounds_toArray, List.set_cons_zero, List.set_cons_succ]
    refine wpAnyH_ready (rs := [31]) (by as_aux_lemma => kernel_rfl) (by simp) (AllReadyH.cons rfl (fun K hK => ?_) (AllReadyH.nil))
    go_simp
    refine (list_word v27 n g M B (HNM.out _ hS_v27) ByteArray.empty).mono ?_
    rintro _ v31 ⟨a31, c31, L31, rfl, hf31, hl31, hb_v31⟩
    have hS_v31 : Below W4.heap.size W4 v31 := Bn hS_v27 hb_v31
    have HF31 := hid hf31
    have HL31 := hid hl31
    clear hf31 hl31
    clear hb_v31
    refine hK.out _ _ hS_v31 (fun _ => ?_)
    clear hK K
    try simp only [List.setIfInBounds_toArray, List.set_cons_zero, List.set_cons_succ]
    refine wpAnyH_ready (rs := [36]) (by as_aux_lemma => kernel_rfl) (by simp) (AllReadyH.cons rfl (fun K hK => ?_) (AllReadyH.nil))
    go_simp
    refine (same_word L31 L a31 ad c31 capd v31 HF31.out (HDN.out _ hS_v31).fs).mono ?_
    rintro _ v36 ⟨q36, rfl, hq36, hb_v36⟩
    have hS_v36 : Below W4.heap.size W4 v36 := Bn hS_v31 hb_v36
    have hq36t : q36 = true := hq36.2 (HL31.out.one HREL.out.lst)
    subst hq36t
    clear hq36
    clear hb_v36
    refine hK.out _ _ hS_v36 (fun _ => ?_)
    clear hK K
    try simp only [List.setIfInBounds_toArray, List.set_cons_zero, List.set_cons_succ]
    refine Ord.take (i := 37) (d := 86) (v := .bool true) rfl rfl (by as_aux_lemma => kernel_rfl) (by as_aux_lemma => kernel_rfl) (by as_aux_lemma => kernel_rfl) (fun _ _ _ h => h) (by rfl) ?hA37 (by assumption) ?_
    case hA37 => intro wx hSw; go_simp; try with_reducible rfl
    try simp only [List.setIfInBounds_toArray, List.set_cons_zero, List.set_cons_succ]
    refine Ord.take (i := 38) (d := 87) (v := ?vA38) rfl rfl (by as_aux_lemma => kernel_rfl) (by as_aux_lemma => kernel_rfl) (by as_aux_lemma => kernel_rfl) (fun _ _ _ h => h) (by rfl) ?hA38 (by assumption) ?_
    case hA38 => intro wx hSw; go_simp; try with_reducible rfl
    try simp only [List.setIfInBounds_toArray, List.set_cons_zero, List.set_cons_succ]
    refine Ord.take (i := 39) (d := 88) (v := ?vA39) rfl rfl (by as_aux_lemma => kernel_rfl) (by as_aux_lemma => kernel_rfl) (by as_aux_lemma => kernel_rfl) (fun _ _ _ h => h) (by rfl) ?hA39 (by assumption) ?_
    case hA39 => intro wx hSw; go_simp; try with_reducible rfl
    try simp only [List.setIfInBounds_toArray, List.set_cons_zero, List.set_cons_succ]
    refine Ord.take (i := 41) (d := 90) (v := ?vA41) rfl rfl (by as_aux_lemma => kernel_rfl) (by as_aux_lemma => kernel_rfl) (by as_aux_lemma => kernel_rfl) (fun _ _ _ h => h) (by rfl) ?hA41 (by assumption) ?_
    case hA41 => intro wx hSw; go_simp; try with_reducible rfl
    try simp only [List.setIfInBounds_toArray, List.set_cons_zero, List.set_cons_succ]
    refine wpAnyH_ready (rs := [40]) (by as_aux_lemma => kernel_rfl) (by simp) (AllReadyH.cons rfl (fun K hK => ?_) (AllReadyH.nil))
    go_simp
    refine (digests_word v36 n g M B (HNM.out _ hS_v36) HPM.out).mono ?_
    rintro _ v40 ⟨a40, c40, A40, rfl, hr40, h40, hri40, hm40, hb_v40⟩
    have hS_v40 : Below W4.heap.size W4 v40 := Bn hS_v36 hb_v40
    have HR40 := hid hr40
    have H40 := hid h40
    have HRI40 := hid hri40
    have HM40 := hid hm40
    clear hr40 h40 hri40 hm40
    clear hb_v40
    refine hK.out _ _ hS_v40 (fun _ => ?_)
    clear hK K
    try simp only [List.setIfInBounds_toArray, List.set_cons_zero, List.set_cons_succ]
    refine wpAnyH_ready (rs := [42]) (by as_aux_lemma => kernel_rfl) (by simp) (AllReadyH.cons rfl (fun K hK => ?_) (AllReadyH.nil))
    go_simp
    refine (ddigests_word v40 d ad capd L (HDN.out _ hS_v40) HLE.out HPL40.out).mono ?_
    rintro _ v42 ⟨a42, c42, rfl, hr42, h42, hb_v42⟩
    have hS_v42 : Below W4.heap.size W4 v42 := Bn hS_v40 hb_v42
    have HR42 := hid hr42
    have H42 := hid h42
    have HR40b := hid (HR40.out.later hb_v42)
    clear hr42 h42
    clear hb_v42
    refine hK.out _ _ hS_v42 (fun _ => ?_)
    clear hK K
    try simp only [List.setIfInBounds_toArray, List.set_cons_zero, List.set_cons_succ]
    refine wpAnyH_ready (rs := [43]) (by as_aux_lemma => kernel_rfl) (by simp) (AllReadyH.cons rfl (fun K hK => ?_) (AllReadyH.nil))
    go_simp
    refine (sdig_word A40 (digL L) a40 a42 c40 c42 v42 HR40b.out HR42.out H40.out H42.out).mono ?_
    rintro _ v43 ⟨q43, rfl, hq43, hb_v43⟩
    have hS_v43 : Below W4.heap.size W4 v43 := Bn hS_v42 hb_v43
    have hq43t : q43 = true := hq43.2 (by rw [HONE.out A40 HRI40.out HM40.out]; exact ⟨rfl, fun _ _ => rfl⟩)
    subst hq43t
    clear hq43
    clear hb_v43
    refine hK.out _ _ hS_v43 (fun _ => ?_)
    clear hK K
    try simp only [List.setIfInBounds_toArray, List.set_cons_zero, List.set_cons_succ]
    refine Ord.take (i := 44) (d := 93) (v := .bool true) rfl rfl (by as_aux_lemma => kernel_rfl) (by as_aux_lemma => kernel_rfl) (by as_aux_lemma => kernel_rfl) (fun _ _ _ h => h) (by rfl) ?hA44 (by assumption) ?_
    case hA44 => intro wx hSw; go_simp; try with_reducible rfl
    try simp only [List.setIfInBounds_toArray, List.set_cons_zero, List.set_cons_succ]
    refine Ord.take (i := 45) (d := 12) (v := ?vA45) rfl rfl (by as_aux_lemma => kernel_rfl) (by as_aux_lemma => kernel_rfl) (by as_aux_lemma => kernel_rfl) (fun _ _ _ h => h) (by rfl) ?hA45 (by assumption) ?_
    case hA45 => intro wx hSw; go_simp; try with_reducible rfl
    try simp only [List.setIfInBounds_toArray, List.set_cons_zero, List.set_cons_succ]
    refine wpAnyH_done (by as_aux_lemma => kernel_rfl) ?_ _
    have HS9 := hid (Bn HB4.out hS_v43)
    clear hS_v43
    go_wp2
    go_ret
    exact ⟨rfl, HS9.out⟩
  · try rw [if_pos (by rfl)]
    obtain ⟨NB, hNB⟩ : ∃ N, N = v0.heap.size := ⟨_, rfl⟩
    refine wp_buildOne_W 27 51 _ rfl jF.cs.toArray i1 _ Try.underlying27 hi1 hy0 (hy1.trans rfl) (show 0 < 4 from by decide) (show 4 ≤ 1000 from by decide) rfl NB hNB ?_
    intro va HG_va HB_va
    have hS_va : Below W4.heap.size W4 va := Bn hS_v0 (by rw [← hNB]; exact HB_va.out)
    have HAB0 := hid HG_va.out
    have HBB_va : Hid (Below v0.heap.size v0 va) := by show Below _ _ _; rw [← hNB]; exact HB_va.out
    clear HG_va HB_va hNB
    refine hK.out _ _ hS_va (fun _ => ?_)
    clear hK K
    try simp only [List.setIfInBounds_toArray, List.set_cons_zero, List.set_cons_succ]
    refine wpAnyH_ready (rs := [1]) (by as_aux_lemma => kernel_rfl) (by simp) (AllReadyH.cons rfl (fun K hK => ?_) (AllReadyH.nil))
    try rw [if_pos (by rfl)]
    obtain ⟨NA, hNA⟩ : ∃ N, N = va.heap.size := ⟨_, rfl⟩
    refine wp_buildOne_W 27 51 _ rfl i.cs.toArray i1 _ Try.underlying27 hi1 hy0 (hy1.trans rfl) (show 0 < 4 from by decide) (show 4 ≤ 1000 from by decide) rfl NA hNA ?_
    intro vb HG_vb HB_vb
    have hS_vb : Below W4.heap.size W4 vb := Bn hS_va (by rw [← hNA]; exact HB_vb.out)
    have HAA := hid HG_vb.out
    have HBB_vb : Hid (Below va.heap.size va vb) := by show Below _ _ _; rw [← hNA]; exact HB_vb.out
    clear HG_vb HB_vb hNA
    refine hK.out _ _ hS_vb (fun _ => ?_)
    clear hK K
    try simp only [List.setIfInBounds_toArray, List.set_cons_zero, List.set_cons_succ]
    have HAB := hid (blk_later HAB0.out HBB_vb.out)
    clear HAB0
    refine wpAnyH_ready (rs := [4]) (by as_aux_lemma => kernel_rfl) (by simp) (AllReadyH.cons rfl (fun K hK => ?_) (AllReadyH.nil))
    go_simp
    refine (same_ab vb NA NB i jF HAA.out HAB.out (HRI.out _ hS_vb) (HRJ.out _ hS_vb) HSM.out).mono ?_
    rintro _ v4 ⟨rfl, hb_v4⟩
    have hS_v4 : Below W4.heap.size W4 v4 := Bn hS_vb hb_v4
    clear hb_v4
    refine hK.out _ _ hS_v4 (fun _ => ?_)
    clear hK K
    try simp only [List.setIfInBounds_toArray, List.set_cons_zero, List.set_cons_succ]
    refine Ord.take (i := 5) (d := 54) (v := ?vB5) rfl rfl (by as_aux_lemma => kernel_rfl) (by as_aux_lemma => kernel_rfl) (by as_aux_lemma => kernel_rfl) (fun _ _ _ h => h) (by rfl) ?hB5 (by assumption) ?_
    case hB5 => intro wx hSw; go_simp; try with_reducible rfl
    try simp only [List.setIfInBounds_toArray, List.set_cons_zero, List.set_cons_succ]
    refine Ord.take (i := 6) (d := 55) (v := ?vB6) rfl rfl (by as_aux_lemma => kernel_rfl) (by as_aux_lemma => kernel_rfl) (by as_aux_lemma => kernel_rfl) (fun _ _ _ h => h) (by rfl) ?hB6 (by assumption) ?_
    case hB6 => intro wx hSw; go_simp; try with_reducible rfl
    try simp only [List.setIfInBounds_toArray, List.set_cons_zero, List.set_cons_succ]
    refine Ord.take (i := 7) (d := 56) (v := ?vB7) rfl rfl (by as_aux_lemma => kernel_rfl) (by as_aux_lemma => kernel_rfl) (by as_aux_lemma => kernel_rfl) (fun _ _ _ h => h) (by rfl) ?hB7 (by assumption) ?_
    case hB7 => intro wx hSw; go_simp; try with_reducible rfl
    try simp only [List.setIfInBounds_toArray, List.set_cons_zero, List.set_cons_succ]
    refine Ord.take (i := 8) (d := 57) (v := .bool true) rfl rfl (by as_aux_lemma => kernel_rfl) (by as_aux_lemma => kernel_rfl) (by as_aux_lemma => kernel_rfl) (fun _ _ _ h => h) (by rfl) ?hB8 (by assumption) ?_
    case hB8 => intro wx hSw; go_simp; try with_reducible rfl
    try simp only [List.setIfInBounds_toArray, List.set_cons_zero, List.set_cons_succ]
    refine Ord.take (i := 9) (d := 58) (v := .bool true) rfl rfl (by as_aux_lemma => kernel_rfl) (by as_aux_lemma => kernel_rfl) (by as_aux_lemma => kernel_rfl) (fun _ _ _ h => h) (by rfl) ?hB9 (by assumption) ?_
    case hB9 => intro wx hSw; go_simp; try with_reducible rfl
    try simp only [List.setIfInBounds_toArray, List.set_cons_zero, List.set_cons_succ]
    refine Ord.take (i := 10) (d := 59) (v := ?vB10) rfl rfl (by as_aux_lemma => kernel_rfl) (by as_aux_lemma => kernel_rfl) (by as_aux_lemma => kernel_rfl) (fun _ _ _ h => h) (by rfl) ?hB10 (by assumption) ?_
    case hB10 => intro wx hSw; go_simp; try with_reducible rfl
    try simp only [List.setIfInBounds_toArray, List.set_cons_zero, List.set_cons_succ]
    refine Ord.take (i := 11) (d := 60) (v := ?vB11) rfl rfl (by as_aux_lemma => kernel_rfl) (by as_aux_lemma => kernel_rfl) (by as_aux_lemma => kernel_rfl) (fun _ _ _ h => h) (by rfl) ?hB11 (by assumption) ?_
    case hB11 => intro wx hSw; go_simp; try with_reducible rfl
    try simp only [List.setIfInBounds_toArray, List.set_cons_zero, List.set_cons_succ]
    refine Ord.take (i := 12) (d := 61) (v := ?vB12) rfl rfl (by as_aux_lemma => kernel_rfl) (by as_aux_lemma => kernel_rfl) (by as_aux_lemma => kernel_rfl) (fun _ _ _ h => h) (by rfl) ?hB12 (by assumption) ?_
    case hB12 => intro wx hSw; go_simp; try with_reducible rfl
    try simp only [List.setIfInBounds_toArray, List.set_cons_zero, List.set_cons_succ]
    refine wpAnyH_ready (rs := [13]) (by as_aux_lemma => kernel_rfl) (by simp) (AllReadyH.cons rfl (fun K hK => ?_) (AllReadyH.nil))
    go_simp
    refine (sprt_word SO SO xa ya xc yc v4 (HPX.out _ hS_v4) (HPY.out _ hS_v4) HPL.out HPL.out).mono ?_
    rintro _ v13 ⟨q13, rfl, hq13, hb_v13⟩
    have hS_v13 : Below W4.heap.size W4 v13 := Bn hS_v4 hb_v13
    have hq13t : q13 = true := hq13.2 ⟨rfl, fun _ _ => ⟨rfl, rfl, rfl⟩⟩
    subst hq13t
    clear hq13
    clear hb_v13
    refine hK.out _ _ hS_v13 (fun _ => ?_)
    clear hK K
    try simp only [List.setIfInBounds_toArray, List.set_cons_zero, List.set_cons_succ]
    refine Ord.take (i := 14) (d := 63) (v := .bool true) rfl rfl (by as_aux_lemma => kernel_rfl) (by as_aux_lemma => kernel_rfl) (by as_aux_lemma => kernel_rfl) (fun _ _ _ h => h) (by rfl) ?hB14 (by assumption) ?_
    case hB14 => intro wx hSw; go_simp; try with_reducible rfl
    try simp only [List.setIfInBounds_toArray, List.set_cons_zero, List.set_cons_succ]
    refine Ord.take (i := 15) (d := 64) (v := ?vB15) rfl rfl (by as_aux_lemma => kernel_rfl) (by as_aux_lemma => kernel_rfl) (by as_aux_lemma => kernel_rfl) (fun _ _ _ h => h) (by rfl) ?hB15 (by assumption) ?_
    case hB15 => intro wx hSw; go_simp; try with_reducible rfl
    try simp only [List.setIfInBounds_toArray, List.set_cons_zero, List.set_cons_succ]
    refine Ord.take (i := 16) (d := 65) (v := ?vB16) rfl rfl (by as_aux_lemma => kernel_rfl) (by as_aux_lemma => kernel_rfl) (by as_aux_lemma => kernel_rfl) (fun _ _ _ h => h) (by rfl) ?hB16 (by assumption) ?_
    case hB16 => intro wx hSw; go_simp; try with_reducible rfl
    try simp only [List.setIfInBounds_toArray, List.set_cons_zero, List.set_cons_succ]
    refine Ord.take (i := 17) (d := 66) (v := ?vB17) rfl rfl (by as_aux_lemma => kernel_rfl) (by as_aux_lemma => kernel_rfl) (by as_aux_lemma => kernel_rfl) (fun _ _ _ h => h) (by rfl) ?hB17 (by assumption) ?_
    case hB17 => intro wx hSw; go_simp; try with_reducible rfl
    try simp only [List.setIfInBounds_toArray, List.set_cons_zero, List.set_cons_succ]
    refine Ord.take (i := 18) (d := 67) (v := .bool true) rfl rfl (by as_aux_lemma => kernel_rfl) (by as_aux_lemma => kernel_rfl) (by as_aux_lemma => kernel_rfl) (fun _ _ _ h => h) (by rfl) ?hB18 (by assumption) ?_
    case hB18 => intro wx hSw; go_simp; try with_reducible rfl
    try simp only [List.setIfInBounds_toArray, List.set_cons_zero, List.set_cons_succ]
    refine Ord.take (i := 19) (d := 68) (v := .bool true) rfl rfl (by as_aux_lemma => kernel_rfl) (by as_aux_lemma => kernel_rfl) (by as_aux_lemma => kernel_rfl) (fun _ _ _ h => h) (by rfl) ?hB19 (by assumption) ?_
    case hB19 => intro wx hSw; go_simp; try with_reducible rfl
    try simp only [List.setIfInBounds_toArray, List.set_cons_zero, List.set_cons_succ]
    refine Ord.take (i := 20) (d := 69) (v := ?vB20) rfl rfl (by as_aux_lemma => kernel_rfl) (by as_aux_lemma => kernel_rfl) (by as_aux_lemma => kernel_rfl) (fun _ _ _ h => h) (by rfl) ?hB20 (by assumption) ?_
    case hB20 => intro wx hSw; go_simp; try with_reducible rfl
    try simp only [List.setIfInBounds_toArray, List.set_cons_zero, List.set_cons_succ]
    refine Ord.take (i := 21) (d := 70) (v := ?vB21) rfl rfl (by as_aux_lemma => kernel_rfl) (by as_aux_lemma => kernel_rfl) (by as_aux_lemma => kernel_rfl) (fun _ _ _ h => h) (by rfl) ?hB21 (by assumption) ?_
    case hB21 => intro wx hSw; go_simp; try with_reducible rfl
    try simp only [List.setIfInBounds_toArray, List.set_cons_zero, List.set_cons_succ]
    refine Ord.take (i := 22) (d := 71) (v := ?vB22) rfl rfl (by as_aux_lemma => kernel_rfl) (by as_aux_lemma => kernel_rfl) (by as_aux_lemma => kernel_rfl) (fun _ _ _ h => h) (by rfl) ?hB22 (by assumption) ?_
    case hB22 => intro wx hSw; go_simp; try with_reducible rfl
    try simp only [List.setIfInBounds_toArray, List.set_cons_zero, List.set_cons_succ]
    refine Ord.take (i := 24) (d := 73) (v := ?vB24) rfl rfl (by as_aux_lemma => kernel_rfl) (by as_aux_lemma => kernel_rfl) (by as_aux_lemma => kernel_rfl) (fun _ _ _ h => h) (by rfl) ?hB24 (by assumption) ?_
    case hB24 => intro wx hSw; go_simp; try with_reducible rfl
    try simp only [List.setIfInBounds_toArray, List.set_cons_zero, List.set_cons_succ]
    refine Ord.take (i := 25) (d := 74) (v := ?vB25) rfl rfl (by as_aux_lemma => kernel_rfl) (by as_aux_lemma => kernel_rfl) (by as_aux_lemma => kernel_rfl) (fun _ _ _ h => h) (by rfl) ?hB25 (by assumption) ?_
    case hB25 => intro wx hSw; go_simp; try with_reducible rfl
    try simp only [List.setIfInBounds_toArray, List.set_cons_zero, List.set_cons_succ]
    refine wpAnyH_ready (rs := [23]) (by as_aux_lemma => kernel_rfl) (by simp) (AllReadyH.cons rfl (fun K hK => ?_) (AllReadyH.nil))
    go_simp
    refine (list_word v13 n g M B (HNM.out _ hS_v13) q).mono ?_
    rintro _ v23 ⟨a23, c23, L23, rfl, hf23, hl23, hb_v23⟩
    have hS_v23 : Below W4.heap.size W4 v23 := Bn hS_v13 hb_v23
    have HF23 := hid hf23
    have HL23 := hid hl23
    clear hf23 hl23
    clear hb_v23
    refine hK.out _ _ hS_v23 (fun _ => ?_)
    clear hK K
    try simp only [List.setIfInBounds_toArray, List.set_cons_zero, List.set_cons_succ]
    refine wpAnyH_ready (rs := [26]) (by as_aux_lemma => kernel_rfl) (by simp) (AllReadyH.cons rfl (fun K hK => ?_) (AllReadyH.nil))
    go_simp
    refine (dlist_word v23 d ad capd L q (HDN.out _ hS_v23) HLE.out).mono ?_
    rintro _ v26 ⟨a26, c26, rfl, hf26, hb_v26⟩
    have hS_v26 : Below W4.heap.size W4 v26 := Bn hS_v23 hb_v26
    have HF26 := hid hf26
    have HF23b := hid (HF23.out.later hb_v26)
    clear hf26
    clear hb_v26
    refine hK.out _ _ hS_v26 (fun _ => ?_)
    clear hK K
    try simp only [List.setIfInBounds_toArray, List.set_cons_zero, List.set_cons_succ]
    refine wpAnyH_ready (rs := [27]) (by as_aux_lemma => kernel_rfl) (by simp) (AllReadyH.cons rfl (fun K hK => ?_) (AllReadyH.nil))
    go_simp
    refine (same_word L23 (L.filter fun i => preB i.path q) a23 a26 c23 c26 v26 HF23b.out HF26.out).mono ?_
    rintro _ v27 ⟨q27, rfl, hq27, hb_v27⟩
    have hS_v27 : Below W4.heap.size W4 v27 := Bn hS_v26 hb_v27
    have hq27t : q27 = true := hq27.2 (HL23.out.one (HREL.out.list q))
    subst hq27t
    clear hq27
    clear hb_v27
    refine hK.out _ _ hS_v27 (fun _ => ?_)
    clear hK K
    try simp only [List.setIfInBounds_toArray, List.set_cons_zero, List.set_cons_succ]
    refine Ord.take (i := 28) (d := 77) (v := .bool true) rfl rfl (by as_aux_lemma => kernel_rfl) (by as_aux_lemma => kernel_rfl) (by as_aux_lemma => kernel_rfl) (fun _ _ _ h => h) (by rfl) ?hB28 (by assumption) ?_
    case hB28 => intro wx hSw; go_simp; try with_reducible rfl
    try simp only [List.setIfInBounds_toArray, List.set_cons_zero, List.set_cons_succ]
    refine Ord.take (i := 29) (d := 78) (v := ?vB29) rfl rfl (by as_aux_lemma => kernel_rfl) (by as_aux_lemma => kernel_rfl) (by as_aux_lemma => kernel_rfl) (fun _ _ _ h => h) (by rfl) ?hB29 (by assumption) ?_
    case hB29 => intro wx hSw; go_simp; try with_reducible rfl
    try simp only [List.setIfInBounds_toArray, List.set_cons_zero, List.set_cons_succ]
    refine Ord.take (i := 30) (d := 79) (v := ?vB30) rfl rfl (by as_aux_lemma => kernel_rfl) (by as_aux_lemma => kernel_rfl) (by as_aux_lemma => kernel_rfl) (fun _ _ _ h => h) (by rfl) ?hB30 (by assumption) ?_
    case hB30 => intro wx hSw; go_simp; try with_reducible rfl
    try simp only [List.setIfInBounds_toArray, List.set_cons_zero, List.set_cons_succ]
    refine Ord.take (i := 32) (d := 81) (v := ?vB32) rfl rfl (by as_aux_lemma => kernel_rfl) (by as_aux_lemma => kernel_rfl) (by as_aux_lemma => kernel_rfl) (fun _ _ _ h => h) (by rfl) ?hB32 (by assumption) ?_
    case hB32 => intro wx hSw; go_simp; try with_reducible rfl
    try simp only [List.setIfInBounds_toArray, List.set_cons_zero, List.set_cons_succ]
    refine Ord.take (i := 33) (d := 82) (v := ?vB33) rfl rfl (by as_aux_lemma => kernel_rfl) (by as_aux_lemma => kernel_rfl) (by as_aux_lemma => kernel_rfl) (fun _ _ _ h => h) (by rfl) ?hB33 (by assumption) ?_
    case hB33 => intro wx hSw; go_simp; try with_reducible rfl
    try simp only [List.setIfInBounds_toArray, List.set_cons_zero, List.set_cons_succ]
    refine Ord.take (i := 34) (d := 83) (v := .pointer (some ⟨d, 0, none⟩)) rfl rfl (by as_aux_lemma => kernel_rfl) (by as_aux_lemma => kernel_rfl) (by as_aux_lemma => kernel_rfl) (fun _ _ _ h => h) (by rfl) ?hB34 (by assumption) ?_
    case hB34 => intro wx hSw; go_simp; try with_reducible rfl
    try simp only [List.setIfInBounds_toArray, List.set_cons_zero, List.set_cons_succ]
    refine Ord.take (i := 35) (d := 84) (v := .slice ad L.length capd) rfl rfl (by as_aux_lemma => kernel_rfl) (by as_aux_lemma => kernel_rfl) (by as_aux_lemma => kernel_rfl) (fun _ _ _ h => h) (by rfl) ?hB35 (by assumption) ?_
    case hB35 => intro wx hSw; have hc := HCD.out _ hSw; go_simp; try with_reducible rfl
    try simp only [List.setIfInBounds_toArray, List.set_cons_zero, List.set_cons_succ]
    refine wpAnyH_ready (rs := [31]) (by as_aux_lemma => kernel_rfl) (by simp) (AllReadyH.cons rfl (fun K hK => ?_) (AllReadyH.nil))
    go_simp
    refine (list_word v27 n g M B (HNM.out _ hS_v27) ByteArray.empty).mono ?_
    rintro _ v31 ⟨a31, c31, L31, rfl, hf31, hl31, hb_v31⟩
    have hS_v31 : Below W4.heap.size W4 v31 := Bn hS_v27 hb_v31
    have HF31 := hid hf31
    have HL31 := hid hl31
    clear hf31 hl31
    clear hb_v31
    refine hK.out _ _ hS_v31 (fun _ => ?_)
    clear hK K
    try simp only [List.setIfInBounds_toArray, List.set_cons_zero, List.set_cons_succ]
    refine wpAnyH_ready (rs := [36]) (by as_aux_lemma => kernel_rfl) (by simp) (AllReadyH.cons rfl (fun K hK => ?_) (AllReadyH.nil))
    go_simp
    refine (same_word L31 L a31 ad c31 capd v31 HF31.out (HDN.out _ hS_v31).fs).mono ?_
    rintro _ v36 ⟨q36, rfl, hq36, hb_v36⟩
    have hS_v36 : Below W4.heap.size W4 v36 := Bn hS_v31 hb_v36
    have hq36t : q36 = true := hq36.2 (HL31.out.one HREL.out.lst)
    subst hq36t
    clear hq36
    clear hb_v36
    refine hK.out _ _ hS_v36 (fun _ => ?_)
    clear hK K
    try simp only [List.setIfInBounds_toArray, List.set_cons_zero, List.set_cons_succ]
    refine Ord.take (i := 37) (d := 86) (v := .bool true) rfl rfl (by as_aux_lemma => kernel_rfl) (by as_aux_lemma => kernel_rfl) (by as_aux_lemma => kernel_rfl) (fun _ _ _ h => h) (by rfl) ?hB37 (by assumption) ?_
    case hB37 => intro wx hSw; go_simp; try with_reducible rfl
    try simp only [List.setIfInBounds_toArray, List.set_cons_zero, List.set_cons_succ]
    refine Ord.take (i := 38) (d := 87) (v := ?vB38) rfl rfl (by as_aux_lemma => kernel_rfl) (by as_aux_lemma => kernel_rfl) (by as_aux_lemma => kernel_rfl) (fun _ _ _ h => h) (by rfl) ?hB38 (by assumption) ?_
    case hB38 => intro wx hSw; go_simp; try with_reducible rfl
    try simp only [List.setIfInBounds_toArray, List.set_cons_zero, List.set_cons_succ]
    refine Ord.take (i := 39) (d := 88) (v := ?vB39) rfl rfl (by as_aux_lemma => kernel_rfl) (by as_aux_lemma => kernel_rfl) (by as_aux_lemma => kernel_rfl) (fun _ _ _ h => h) (by rfl) ?hB39 (by assumption) ?_
    case hB39 => intro wx hSw; go_simp; try with_reducible rfl
    try simp only [List.setIfInBounds_toArray, List.set_cons_zero, List.set_cons_succ]
    refine Ord.take (i := 41) (d := 90) (v := ?vB41) rfl rfl (by as_aux_lemma => kernel_rfl) (by as_aux_lemma => kernel_rfl) (by as_aux_lemma => kernel_rfl) (fun _ _ _ h => h) (by rfl) ?hB41 (by assumption) ?_
    case hB41 => intro wx hSw; go_simp; try with_reducible rfl
    try simp only [List.setIfInBounds_toArray, List.set_cons_zero, List.set_cons_succ]
    refine wpAnyH_ready (rs := [40]) (by as_aux_lemma => kernel_rfl) (by simp) (AllReadyH.cons rfl (fun K hK => ?_) (AllReadyH.nil))
    go_simp
    refine (digests_word v36 n g M B (HNM.out _ hS_v36) HPM.out).mono ?_
    rintro _ v40 ⟨a40, c40, A40, rfl, hr40, h40, hri40, hm40, hb_v40⟩
    have hS_v40 : Below W4.heap.size W4 v40 := Bn hS_v36 hb_v40
    have HR40 := hid hr40
    have H40 := hid h40
    have HRI40 := hid hri40
    have HM40 := hid hm40
    clear hr40 h40 hri40 hm40
    clear hb_v40
    refine hK.out _ _ hS_v40 (fun _ => ?_)
    clear hK K
    try simp only [List.setIfInBounds_toArray, List.set_cons_zero, List.set_cons_succ]
    refine wpAnyH_ready (rs := [42]) (by as_aux_lemma => kernel_rfl) (by simp) (AllReadyH.cons rfl (fun K hK => ?_) (AllReadyH.nil))
    go_simp
    refine (ddigests_word v40 d ad capd L (HDN.out _ hS_v40) HLE.out HPL40.out).mono ?_
    rintro _ v42 ⟨a42, c42, rfl, hr42, h42, hb_v42⟩
    have hS_v42 : Below W4.heap.size W4 v42 := Bn hS_v40 hb_v42
    have HR42 := hid hr42
    have H42 := hid h42
    have HR40b := hid (HR40.out.later hb_v42)
    clear hr42 h42
    clear hb_v42
    refine hK.out _ _ hS_v42 (fun _ => ?_)
    clear hK K
    try simp only [List.setIfInBounds_toArray, List.set_cons_zero, List.set_cons_succ]
    refine wpAnyH_ready (rs := [43]) (by as_aux_lemma => kernel_rfl) (by simp) (AllReadyH.cons rfl (fun K hK => ?_) (AllReadyH.nil))
    go_simp
    refine (sdig_word A40 (digL L) a40 a42 c40 c42 v42 HR40b.out HR42.out H40.out H42.out).mono ?_
    rintro _ v43 ⟨q43, rfl, hq43, hb_v43⟩
    have hS_v43 : Below W4.heap.size W4 v43 := Bn hS_v42 hb_v43
    have hq43t : q43 = true := hq43.2 (by rw [HONE.out A40 HRI40.out HM40.out]; exact ⟨rfl, fun _ _ => rfl⟩)
    subst hq43t
    clear hq43
    clear hb_v43
    refine hK.out _ _ hS_v43 (fun _ => ?_)
    clear hK K
    try simp only [List.setIfInBounds_toArray, List.set_cons_zero, List.set_cons_succ]
    refine Ord.take (i := 44) (d := 93) (v := .bool true) rfl rfl (by as_aux_lemma => kernel_rfl) (by as_aux_lemma => kernel_rfl) (by as_aux_lemma => kernel_rfl) (fun _ _ _ h => h) (by rfl) ?hB44 (by assumption) ?_
    case hB44 => intro wx hSw; go_simp; try with_reducible rfl
    try simp only [List.setIfInBounds_toArray, List.set_cons_zero, List.set_cons_succ]
    refine Ord.take (i := 45) (d := 12) (v := ?vB45) rfl rfl (by as_aux_lemma => kernel_rfl) (by as_aux_lemma => kernel_rfl) (by as_aux_lemma => kernel_rfl) (fun _ _ _ h => h) (by rfl) ?hB45 (by assumption) ?_
    case hB45 => intro wx hSw; go_simp; try with_reducible rfl
    try simp only [List.setIfInBounds_toArray, List.set_cons_zero, List.set_cons_succ]
    refine wpAnyH_done (by as_aux_lemma => kernel_rfl) ?_ _
    have HS9 := hid (Bn HB4.out hS_v43)
    clear hS_v43
    go_wp2
    go_ret
    exact ⟨rfl, HS9.out⟩
end Go.Proofs.Ytcbjlnabbfkkeaa
