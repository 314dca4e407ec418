/-
  The heads of a catalogue: the contract of check's headsOf.
-/
import Derived.Test.YtplinkmagnihmaaDoorCkF
import Derived.Test.YtplinkmagnihmaaDoorRcRa
namespace Go.Proofs.YtplinkmagnihmaaDoor
open Go.ChangeShapes Go.WideShapes Go.ChangeAt Go.RowKit Go.Deep Go.Lib

/-- The heads of each number, up to the first record that does not follow. -/
def hsL : Hd → List Rec → List Hd
  | h, [] => [h]
  | h, r :: l => if fltH h r = 0 then h :: hsL (nxtH h r) l else [h]
theorem hsL_pos : ∀ (l : List Rec) (h : Hd), 0 < (hsL h l).length
  | [], _ => Nat.one_pos
  | r :: l, h => by
    rw [hsL]
    split <;> simp
theorem hsL_le : ∀ (l : List Rec) (h : Hd), (hsL h l).length ≤ l.length + 1
  | [], _ => Nat.le_refl _
  | r :: l, h => by
    rw [hsL]
    split
    · have := hsL_le l (nxtH h r)
      simp only [List.length_cons]
      omega
    · simp
theorem hsL_32 : ∀ (l : List Rec) (h : Hd), h.2.2.length = 32 → ∀ y ∈ hsL h l, y.2.2.length = 32
  | [], h, q, y, hy => by rw [List.mem_singleton.1 hy]; exact q
  | r :: l, h, q, y, hy => by
    rw [hsL] at hy
    split at hy
    · rcases List.mem_cons.1 hy with rfl | hy
      · exact q
      · exact hsL_32 l _ (nxO_len _ _ _ _) y hy
    · rw [List.mem_singleton.1 hy]; exact q
theorem hsL_drop {l : List Rec} {k : Nat} (h : Hd) (hk : k < l.length) : hsL h (l.drop k) = if fltH h (l.getD k recZ) = 0 then h :: hsL (nxtH h (l.getD k recZ)) (l.drop (k + 1)) else [h] := by
  have e : l.drop k = l.getD k recZ :: l.drop (k + 1) := by
    rw [List.drop_eq_getElem_cons hk]
    simp [List.getD, List.getElem?_eq_getElem hk]
  rw [e, hsL]
theorem flat_hd (l : List Hd) (x : Hd) : (l ++ [x]).flatMap hdV = l.flatMap hdV ++ hdV x := by simp
theorem Tryd.info27 : (Tryd.prog.info? 27).map (fun i => (i.zero, i.size, i.bytes)) = some (some (.agg (hdL 0 0 z32).toArray), 34, 48) := by kernel_rfl
/-- What headsOf answers. -/
def HsP (w : World) (l : List Rec) (e : Ending) (w' : World) : Prop :=
  ∃ a cap, e = .returned (.slice a (hsL hdZ l).length cap) ∧ Rw 34 hdV hdZ w' a cap (hsL hdZ l) ∧ Below w.heap.size w w'
theorem hd_row {W : World} {B : Nat} {v : Value} {L : List Hd} (h : W.ownsRow B 27 34 v L.length (L.flatMap hdV)) (h32 : ∀ y ∈ L, y.2.2.length = 32) : ∃ a cap, v = .slice a L.length cap ∧ Rw 34 hdV hdZ W a cap L := by
  obtain ⟨a, cap, hv, hr, _⟩ := Rw.own (z := hdZ) h (fun y hy => hdV_len (h32 y hy))
  exact ⟨a, cap, hv, hr⟩
set_option maxHeartbeats 12800000 in
set_option maxRecDepth 100000 in
theorem heads_word (a : Option Addr) (cap : Nat) (l : List Rec) (w : World) (hr : Rr w a cap l) (hL : Sh.Laid w) (hn : ∀ r ∈ l, r.ps.length ≤ 1000) (hfew : l.length ≤ 100000) :
    Calls Tryd.prog 31 #[.slice a l.length cap] w (HsP w l) := by
  obtain ⟨i0, hi, hz0, hz1, hz2⟩ := info_parts Tryd.info27
  have hroom := hr.room
  have hmost := hr.most
  unfold maxLen at hmost
  have HR := hid hr
  have HLA := hid hL
  have HN := hid hn
  obtain ⟨len, hle⟩ : ∃ n, n = l.length := ⟨_, rfl⟩
  have HL := hid hle
  have HPP : Hid (∀ e w', HsP w l e w' ↔ ∃ a cap, e = .returned (.slice a (hsL hdZ l).length cap) ∧ Rw 34 hdV hdZ w' a cap (hsL hdZ l) ∧ Below w.heap.size w w') := fun e w' => Iff.rfl
  generalize HsP w l = PP at *
  rw [← hle] at hroom hfew ⊢
  clear hr hL hn hle
  have HB0 := hid (bel_alc w (.cells (hdV hdZ).toArray 27))
  have HO0 : Hid ((w.alloc (.cells (hdV hdZ).toArray 27)).ownsRow w.heap.size 27 34 (.slice (some ⟨w.heap.size, 0, none⟩) 1 1) ([hdZ] : List Hd).length (([hdZ] : List Hd).flatMap hdV)) := by
    refine ⟨rfl, .inr ⟨w.heap.size, 1, (hdV hdZ).toArray, rfl, Nat.le_refl _, heap_alc w _, Nat.le_refl _, by unfold maxLen; omega, rfl, rfl⟩⟩
  obtain ⟨W1, hW1⟩ : ∃ W1, W1 = w.alloc (.cells (hdV hdZ).toArray 27) := ⟨_, rfl⟩
  rw [← hW1] at HB0 HO0
  have HW1 := hid hW1
  have HZR := hid Tryd.zero58
  have HZH := hid Tryd.zero27
  clear hW1
  go_enter Tryd.func31, Tryd.ntmps31
  go_wp2
  change Code.wp _ _ _ _ (w.alloc (.cells (hdV hdZ).toArray 27))
  rw [← HW1.out]
  go_loopw [3, 12] (fun x3 x12 wr => ∃ (k : Nat) (h : Hd) (pre : List Hd), k ≤ len ∧ x12 = .int .i64 (k : Int) ∧ Hid (pre.length = k) ∧ Hid (hsL hdZ l = pre ++ hsL h (l.drop k)) ∧ Hid (h.2.2.length = 32) ∧ Hid (∀ y ∈ pre, y.2.2.length = 32) ∧ Hid (wr.ownsRow w.heap.size 27 34 x3 (pre ++ [h]).length ((pre ++ [h]).flatMap hdV)) ∧ Hid (Below w.heap.size w wr)) (fun _ x12 _ => len - (RowKit.intOf x12).toNat)
  case atStart => exact ⟨0, hdZ, [], by omega, rfl, rfl, rfl, rfl, (fun y hy => by cases hy), HO0.out, HB0.out⟩
  case round =>
    obtain ⟨k, h, pre, hk, rfl, HPL, HSP, HHL, HPR, HO, HB⟩ := hrel
    have hlen : (pre ++ [h]).length = k + 1 := by rw [List.length_append, HPL.out]; rfl
    have HPR2 : Hid (∀ y ∈ pre ++ [h], y.2.2.length = 32) := fun y hy => by
      rcases List.mem_append.1 hy with hy | hy
      · exact HPR.out y hy
      · rw [List.mem_singleton.1 hy]; exact HHL.out
    obtain ⟨a3, cap3, hv3, hr3⟩ := hd_row HO.out HPR2.out
    obtain ⟨g, o3, ha3, hgw, hc3⟩ := hr3.cells (by rw [hlen]; exact Nat.succ_pos _)
    have hroom3 := hr3.room
    have hmost3 := hr3.most
    unfold maxLen at hmost3
    obtain ⟨n1, hn1⟩ : ∃ n1, n1 = (pre ++ [h]).length := ⟨_, rfl⟩
    have hk1 : (k : Int) < (n1 : Int) := by omega
    have hn5 : n1 ≤ 100001 := by omega
    have HN1 : Hid (n1 = k + 1) := hn1.trans hlen
    rw [← hn1] at hv3 hroom3 HO
    subst ha3
    subst hv3
    have hrh := hc3 k (by rw [hlen]; exact Nat.lt_succ_self _)
    rw [show (pre ++ [h]).getD k hdZ = h from by simp [List.getD, ← HPL.out]] at hrh
    have HRH := hid hrh
    have HGW := hid hgw
    have HR3 := hid hr3
    have HHV := hid (hdV_len HHL.out)
    have HNL1 := hid hn1
    have HLEN := hid hlen
    clear hrh hgw hc3 hr3 hn1 hlen
    by_cases hlt : k < len
    · have hkz : (k : Int) < (len : Int) := by omega
      obtain ⟨b, off, rfl, hbw, hc⟩ := HR.out.cells (by rw [← HL.out]; omega)
      have hrg := hc k (by rw [← HL.out]; exact hlt)
      have hrv := HR.out.get (j := k) (by rw [← HL.out]; exact hlt)
      have HNK := hid (HN.out (l.getD k recZ) (by simp [List.getD, List.getElem?_eq_getElem (show k < l.length by rw [← HL.out]; exact hlt)]))
      have HST := hid (hsL_drop h (show k < l.length by rw [← HL.out]; exact hlt))
      obtain ⟨x, hx⟩ : ∃ x, x = l.getD k recZ := ⟨_, rfl⟩
      rw [← hx] at hrg hrv HNK HST
      have HRG := hid (range_later hrg HB.out hbw)
      have HRV := hid hrv
      have HLX := hid (Rec.cs_len hrv.len)
      have HRS := hid (size_recs hrv.len)
      obtain ⟨N, hN⟩ : ∃ N, N = nxtH h x := ⟨_, rfl⟩
      have HNE := hid hN
      have hNl : N.2.2.length = 32 := by rw [hN]; exact nxO_len _ _ _ _
      have HNL := hid hNl
      have HNV := hid (hdV_len hNl)
      have HSN : Hid ((Tryd.prog.info? 27).map (·.size) = some (hdV N).toArray.size) := size_hd hNl
      have HZS : Hid ((hdL 0 0 z32).toArray.size = (hdV N).toArray.size) := by show _ = _; rw [List.size_toArray, List.size_toArray, HNV.out]; rfl
      have HON := hid (all_oneCell_toArray (show ∀ u ∈ hdV N, u.oneCell' = true from hdL_one _ _ _))
      clear hrg hrv hc hbw hx hN hNl
      obtain ⟨T, hT⟩ : ∃ T, T = wr.heap.size := ⟨_, rfl⟩
      have HTQ := hid hT
      clear hT
      go_wp2_with (first | refine wpList_load_P rfl 58 _ rfl b (off + k * 38) rfl x.cs _ HRG.out Tryd.underlying58 rfl (by rw [HLX.out]; exact Tryd.size58) ?_ | refine wpList_alloc_W rfl 58 rfl (some 5) rfl _ HZR.out T HTQ.out ?_ | fail)
      intro V1 HG1 HBl1 HS1
      go_wp2_with (first | refine wpList_store_W rfl 58 _ _ rfl rfl T x.cs.toArray rfl rfl 58 _ HG1.out HRS.out (by rw [List.size_toArray, List.size_toArray, HLX.out]; rfl) (all_oneCell_toArray (Rec.cs_one _)) ?_ | fail)
      intro V2 HG2 HGR2 HS2
      have hb2 : Below wr.heap.size wr V2 := by
        rw [← HTQ.out]
        exact HBl1.out.trans (bel_grown HGR2.out (Nat.le_refl _) (by rw [HTQ.out]; exact HBl1.out.size))
      have HB2 := hid (Bn HB.out hb2)
      have HO2 := hid (own_later HO.out hb2)
      have HRH2 := hid (fun X (hX : Below V2.heap.size V2 X) => range_later (range_later HRH.out hb2 HGW.out) hX (Nat.lt_of_lt_of_le HGW.out hb2.size))
      have HX2 := hid (fun X (hX : Below V2.heap.size V2 X) => blk_range (blk_later HG2.out hX))
      have HNW := hid (fun V (hV : Below V2.heap.size V2 V) => next_word h.1 h.2.1 h.2.2 x V HHL.out (HRV.out.later (Bn HB2.out hV)) (HLA.out.later (Bn HB2.out hV)) HNK.out)
      obtain ⟨F, hF⟩ : ∃ F, F = fltO h.1 h.2.1 h.2.2 x := ⟨_, rfl⟩
      rw [← hF] at HNW
      have HST2 : Hid (hsL h (l.drop k) = if F = 0 then h :: hsL N (l.drop (k + 1)) else [h]) := by show _ = _; rw [HST.out, hF, HNE.out]; rfl
      have HNN : Hid (∀ V : World, hdL (nxO h.1 h.2.1 h.2.2 x).1 (nxO h.1 h.2.1 h.2.2 x).2.1 (nxO h.1 h.2.1 h.2.2 x).2.2 = hdV N) := fun V => by rw [HNE.out]; rfl
      clear hb2 hF HG1 HBl1 HS1 HGR2 HS2 HG2 HB HO HRH HGW HRG HTQ HST HR3
      by_cases h0 : F = 0
      · subst h0
        rw [if_pos rfl] at HST2
        go_wp2_with fail
        refine wp_region_held_drew (S := fun X => Below V2.heap.size V2 X) (by kernel_rfl) (Below.refl _ _).drew (fun hS_v0 => ?_)
        have hd_v0 : Below V2.heap.size V2 V2.drew := (Below.refl _ _).drew
        generalize V2.drew = v0 at *
        simp only [List.size_toArray, List.length_cons, List.length_nil, Nat.reduceAdd]
        clear hd_v0
        refine Ord.take (i := 0) (d := 18) (v := ?vM0) rfl rfl (by as_aux_lemma => kernel_rfl) (by as_aux_lemma => kernel_rfl) (by as_aux_lemma => kernel_rfl) (fun _ _ _ h => h) (by rfl) ?hM0 (by assumption) ?_
        case hM0 => intro wx hSw; go_simp; try with_reducible rfl
        try simp only [List.setIfInBounds_toArray, List.set_cons_zero, List.set_cons_succ]
        refine Ord.take (i := 1) (d := 19) (v := ?vM1) rfl rfl (by as_aux_lemma => kernel_rfl) (by as_aux_lemma => kernel_rfl) (by as_aux_lemma => kernel_rfl) (fun _ _ _ h => h) (by rfl) ?hM1 (by assumption) ?_
        case hM1 => intro wx hSw; go_simp; try with_reducible rfl
        try simp only [List.setIfInBounds_toArray, List.set_cons_zero, List.set_cons_succ]
        refine Ord.take (i := 2) (d := 20) (v := .pointer (some ⟨g, o3 + k * 34, none⟩)) rfl rfl (by as_aux_lemma => kernel_rfl) (by as_aux_lemma => kernel_rfl) (by as_aux_lemma => kernel_rfl) (fun _ _ _ h => h) (by rfl) ?hM2 (by assumption) ?_
        case hM2 => intro wx hSw; go_simp; try with_reducible rfl
        try simp only [List.setIfInBounds_toArray, List.set_cons_zero, List.set_cons_succ]
        refine Ord.take (i := 3) (d := 21) (v := .agg (hdV h).toArray) rfl rfl (by as_aux_lemma => kernel_rfl) (by as_aux_lemma => kernel_rfl) (by as_aux_lemma => kernel_rfl) (fun _ _ _ h => h) (by rfl) ?hM3 (by assumption) ?_
        case hM3 => intro wx hSw; exact exec_load 27 (.tmp 20) rfl g (o3 + k * 34) rfl (run_loadVar_mid wx g (o3 + k * 34) 27 (hdV h) _ (HRH2.out _ hSw) Tryd.underlying27 rfl (by rw [HHV.out]; exact Tryd.size27))
        try simp only [List.setIfInBounds_toArray, List.set_cons_zero, List.set_cons_succ]
        refine Ord.take (i := 4) (d := 22) (v := .agg x.cs.toArray) rfl rfl (by as_aux_lemma => kernel_rfl) (by as_aux_lemma => kernel_rfl) (by as_aux_lemma => kernel_rfl) (fun _ _ _ h => h) (by rfl) ?hM4 (by assumption) ?_
        case hM4 => intro wx hSw; exact exec_load 58 (.tmp 5) rfl T 0 rfl (run_loadVar_mid wx T 0 58 x.cs _ (HX2.out _ hSw) Tryd.underlying58 rfl (by rw [HLX.out]; exact Tryd.size58))
        try simp only [List.setIfInBounds_toArray, List.set_cons_zero, List.set_cons_succ]
        refine wpAnyH_ready (rs := [5, 9]) (by as_aux_lemma => kernel_rfl) (by simp) (AllReadyH.cons rfl (fun K hK => ?_) (AllReadyH.cons rfl (fun K hK => ?_) (AllReadyH.nil)))
        · go_simp
          refine (HNW.out v0 hS_v0).mono ?_
          rintro _ v1 ⟨rfl, hb_v1⟩
          rw [HNN.out v1]
          have hS_v1 : Below V2.heap.size V2 v1 := Bn hS_v0 hb_v1
          have HQv1 := hid hb_v1
          refine hK.out _ _ hS_v1 (fun _ => ?_)
          clear hK K hb_v1
          try simp only [List.setIfInBounds_toArray, List.set_cons_zero, List.set_cons_succ]
          refine Ord.take (i := 6) (d := 17) (v := .tuple #[.agg (hdV N).toArray, .int .i64 0]) rfl rfl (by as_aux_lemma => kernel_rfl) (by as_aux_lemma => kernel_rfl) (by as_aux_lemma => kernel_rfl) (fun _ _ _ h => h) (by rfl) ?hA6 (by assumption) ?_
          case hA6 => intro wx hSw; go_simp; try with_reducible rfl
          try simp only [List.setIfInBounds_toArray, List.set_cons_zero, List.set_cons_succ]
          refine Ord.take (i := 7) (d := 24) (v := .agg (hdV N).toArray) rfl rfl (by as_aux_lemma => kernel_rfl) (by as_aux_lemma => kernel_rfl) (by as_aux_lemma => kernel_rfl) (fun _ _ _ h => h) (by rfl) ?hA7 (by assumption) ?_
          case hA7 => intro wx hSw; go_simp; try with_reducible rfl
          try simp only [List.setIfInBounds_toArray, List.set_cons_zero, List.set_cons_succ]
          refine Ord.take (i := 8) (d := 25) (v := .int .i64 0) rfl rfl (by as_aux_lemma => kernel_rfl) (by as_aux_lemma => kernel_rfl) (by as_aux_lemma => kernel_rfl) (fun _ _ _ h => h) (by rfl) ?hA8 (by assumption) ?_
          case hA8 => intro wx hSw; go_simp; try with_reducible rfl
          try simp only [List.setIfInBounds_toArray, List.set_cons_zero, List.set_cons_succ]
          refine wpAnyH_ready (rs := [9]) (by as_aux_lemma => kernel_rfl) (by simp) (AllReadyH.cons rfl (fun K hK => ?_) (AllReadyH.nil))
          rw [if_pos (by rfl)]
          obtain ⟨T6, hT6⟩ : ∃ T6, T6 = v1.heap.size := ⟨_, rfl⟩
          refine wp_alloc55 rfl (some 6) rfl T6 hT6 ?_
          have HZ6 : Hid ((v1.alloc (.cells (hdL 0 0 z32).toArray 27)).heap[T6]? = some (.cells (hdL 0 0 z32).toArray 27)) := by show _ = _; rw [hT6]; exact heap_alc v1 _
          have hS_v2 : Below V2.heap.size V2 (v1.alloc (.cells (hdL 0 0 z32).toArray 27)) := Bn hS_v1 (bel_alc v1 _)
          have HGE : Hid (V2.heap.size ≤ T6) := by show _ ≤ _; rw [hT6]; exact hS_v1.size
          refine hK.out _ _ hS_v2 (fun _ => ?_)
          clear hK K hT6
          generalize v1.alloc (.cells (hdL 0 0 z32).toArray 27) = v2 at *
          try simp only [List.setIfInBounds_toArray, List.set_cons_zero, List.set_cons_succ]
          refine wpAnyH_ready (rs := [10]) (by as_aux_lemma => kernel_rfl) (by simp) (AllReadyH.cons rfl (fun K hK => ?_) (AllReadyH.nil))
          rw [if_pos (by rfl)]
          refine wp_store_row 27 _ _ rfl T6 (hdV N).toArray rfl rfl 27 _ HZ6.out HSN.out HZS.out HON.out ?_
          have hS_v3 : Below V2.heap.size V2 (v2.setRow T6 (hdV N).toArray) := below_setRow hS_v2 HGE.out _
          refine hK.out _ _ hS_v3 (fun _ => ?_)
          clear hK K
          have HEN := hid (setRow_heap _ _ _ (hdV N).toArray _ _ HZ6.out)
          generalize v2.setRow T6 (hdV N).toArray = v3 at *
          try simp only [List.setIfInBounds_toArray, List.set_cons_zero, List.set_cons_succ]
          refine Ord.take (i := 11) (d := 7) (v := .int .i64 0) rfl rfl (by as_aux_lemma => kernel_rfl) (by as_aux_lemma => kernel_rfl) (by as_aux_lemma => kernel_rfl) (fun _ _ _ h => h) (by rfl) ?hA11 (by assumption) ?_
          case hA11 => intro wx hSw; go_simp; try with_reducible rfl
          try simp only [List.setIfInBounds_toArray, List.set_cons_zero, List.set_cons_succ]
          refine wpAnyH_done (by as_aux_lemma => kernel_rfl) ?_ _
          have HS9 := hid hS_v3
          clear hS_v3 hS_v2 hS_v1 hS_v0
          have HO9 := hid (own_later HO2.out HS9.out)
          have HB9 := hid (Bn HB2.out HS9.out)
          have HR9 := hid (blk_range HEN.out)
          have HPB : Hid (w.heap.size ≤ v3.heap.size) := HB9.out.size
          obtain ⟨W9, hW9⟩ : ∃ W9, W9 = v3.alloc (.cells (hdV N).toArray 27) := ⟨_, rfl⟩
          have HWN := hid hW9
          have HB10 : Hid (Below v3.heap.size v3 W9) := by show Below _ _ _; rw [hW9]; exact bel_alc v3 _
          have HG10 : Hid (W9.heap[v3.heap.size]? = some (.cells (hdV N).toArray 27)) := by show _ = _; rw [hW9]; exact heap_alc v3 _
          have HO10 := hid (own_later HO9.out HB10.out)
          clear hW9
          go_wp2_with (first | refine wpList_load_P rfl 27 _ rfl T6 0 rfl (hdV N) _ HR9.out Tryd.underlying27 rfl (by rw [HNV.out]; exact Tryd.size27) ?_ | (refine wpList_buildOne rfl 70 27 _ rfl (some 30) rfl (hdV N).toArray i0 _ Tryd.underlying70 hi hz0 (by rw [hz1, List.size_toArray, HNV.out]) (by rw [List.size_toArray, HNV.out]; decide) (by rw [List.size_toArray, HNV.out]; decide) rfl ?_; rw [← HWN.out]) | (at_builtin; refine wpList_append_own _ rfl _ _ 70 rfl w.heap.size 27 i0 _ 34 48 Tryd.underlying70 hi hz0 hz1 hz2 rfl (by decide) _ n1 _ rfl HO10.out ⟨v3.heap.size, 0, none⟩ 1 1 (hdV N) rfl (by rw [HNV.out]) (fun j u hu => (by rw [add_plain, Nat.zero_add]; exact (Joins.cell_of_block HG10.out j).trans (by rw [List.getElem?_toArray]; exact hu))) (hdL_one _ _ _) (by unfold maxLen; omega) (by omega) (Nat.le_trans HPB.out HB10.out.size) ?_) | fail)
          intro v' V9 hro hgr _
          have HRO : Hid (V9.ownsRow w.heap.size 27 34 v' ((pre ++ [h]) ++ [N]).length (((pre ++ [h]) ++ [N]).flatMap hdV)) := by
            show World.ownsRow _ _ _ _ _ _ _
            rw [List.length_append, ← HNL1.out, flat_hd, flat_hd, List.append_assoc]
            simpa using hro
          have HBZ : Hid (Below w.heap.size w V9) := (Bn HB9.out HB10.out).grown hgr (Bn HB9.out HB10.out).size (fun j hj => (HO10.out.lt j hj).1)
          clear hro hgr
          go_wp2
          go_round
          case rel => exact ⟨k + 1, N, pre ++ [h], by omega, by go_num, HLEN.out, (by show _ = _; rw [HSP.out, HST2.out]; simp), HNL.out, HPR2.out, HRO.out, HBZ.out⟩
          case measure => simp [RowKit.intOf]; omega
        · rw [if_pos (by rfl)]
          obtain ⟨T6, hT6⟩ : ∃ T6, T6 = v0.heap.size := ⟨_, rfl⟩
          refine wp_alloc55 rfl (some 6) rfl T6 hT6 ?_
          have HZ60 : Hid ((v0.alloc (.cells (hdL 0 0 z32).toArray 27)).heap[T6]? = some (.cells (hdL 0 0 z32).toArray 27)) := by show _ = _; rw [hT6]; exact heap_alc v0 _
          have hS_v1 : Below V2.heap.size V2 (v0.alloc (.cells (hdL 0 0 z32).toArray 27)) := Bn hS_v0 (bel_alc v0 _)
          have HGE : Hid (V2.heap.size ≤ T6) := by show _ ≤ _; rw [hT6]; exact hS_v0.size
          refine hK.out _ _ hS_v1 (fun _ => ?_)
          clear hK K hT6
          generalize v0.alloc (.cells (hdL 0 0 z32).toArray 27) = v1 at *
          try simp only [List.setIfInBounds_toArray, List.set_cons_zero, List.set_cons_succ]
          refine wpAnyH_ready (rs := [5]) (by as_aux_lemma => kernel_rfl) (by simp) (AllReadyH.cons rfl (fun K hK => ?_) (AllReadyH.nil))
          go_simp
          refine (HNW.out v1 hS_v1).mono ?_
          rintro _ v2 ⟨rfl, hb_v2⟩
          rw [HNN.out v2]
          have hS_v2 : Below V2.heap.size V2 v2 := Bn hS_v1 hb_v2
          have HQv2 := hid hb_v2
          refine hK.out _ _ hS_v2 (fun _ => ?_)
          clear hK K hb_v2
          try simp only [List.setIfInBounds_toArray, List.set_cons_zero, List.set_cons_succ]
          have HZ6 := hid (blk_later HZ60.out HQv2.out)
          clear HZ60
          refine Ord.take (i := 6) (d := 17) (v := .tuple #[.agg (hdV N).toArray, .int .i64 0]) rfl rfl (by as_aux_lemma => kernel_rfl) (by as_aux_lemma => kernel_rfl) (by as_aux_lemma => kernel_rfl) (fun _ _ _ h => h) (by rfl) ?hB6 (by assumption) ?_
          case hB6 => intro wx hSw; go_simp; try with_reducible rfl
          try simp only [List.setIfInBounds_toArray, List.set_cons_zero, List.set_cons_succ]
          refine Ord.take (i := 7) (d := 24) (v := .agg (hdV N).toArray) rfl rfl (by as_aux_lemma => kernel_rfl) (by as_aux_lemma => kernel_rfl) (by as_aux_lemma => kernel_rfl) (fun _ _ _ h => h) (by rfl) ?hB7 (by assumption) ?_
          case hB7 => intro wx hSw; go_simp; try with_reducible rfl
          try simp only [List.setIfInBounds_toArray, List.set_cons_zero, List.set_cons_succ]
          refine Ord.take (i := 8) (d := 25) (v := .int .i64 0) rfl rfl (by as_aux_lemma => kernel_rfl) (by as_aux_lemma => kernel_rfl) (by as_aux_lemma => kernel_rfl) (fun _ _ _ h => h) (by rfl) ?hB8 (by assumption) ?_
          case hB8 => intro wx hSw; go_simp; try with_reducible rfl
          try simp only [List.setIfInBounds_toArray, List.set_cons_zero, List.set_cons_succ]
          refine wpAnyH_ready (rs := [10]) (by as_aux_lemma => kernel_rfl) (by simp) (AllReadyH.cons rfl (fun K hK => ?_) (AllReadyH.nil))
          rw [if_pos (by rfl)]
          refine wp_store_row 27 _ _ rfl T6 (hdV N).toArray rfl rfl 27 _ HZ6.out HSN.out HZS.out HON.out ?_
          have hS_v3 : Below V2.heap.size V2 (v2.setRow T6 (hdV N).toArray) := below_setRow hS_v2 HGE.out _
          refine hK.out _ _ hS_v3 (fun _ => ?_)
          clear hK K
          have HEN := hid (setRow_heap _ _ _ (hdV N).toArray _ _ HZ6.out)
          generalize v2.setRow T6 (hdV N).toArray = v3 at *
          try simp only [List.setIfInBounds_toArray, List.set_cons_zero, List.set_cons_succ]
          refine Ord.take (i := 11) (d := 7) (v := .int .i64 0) rfl rfl (by as_aux_lemma => kernel_rfl) (by as_aux_lemma => kernel_rfl) (by as_aux_lemma => kernel_rfl) (fun _ _ _ h => h) (by rfl) ?hB11 (by assumption) ?_
          case hB11 => intro wx hSw; go_simp; try with_reducible rfl
          try simp only [List.setIfInBounds_toArray, List.set_cons_zero, List.set_cons_succ]
          refine wpAnyH_done (by as_aux_lemma => kernel_rfl) ?_ _
          have HS9 := hid hS_v3
          clear hS_v3 hS_v2 hS_v1 hS_v0
          have HO9 := hid (own_later HO2.out HS9.out)
          have HB9 := hid (Bn HB2.out HS9.out)
          have HR9 := hid (blk_range HEN.out)
          have HPB : Hid (w.heap.size ≤ v3.heap.size) := HB9.out.size
          obtain ⟨W9, hW9⟩ : ∃ W9, W9 = v3.alloc (.cells (hdV N).toArray 27) := ⟨_, rfl⟩
          have HWN := hid hW9
          have HB10 : Hid (Below v3.heap.size v3 W9) := by show Below _ _ _; rw [hW9]; exact bel_alc v3 _
          have HG10 : Hid (W9.heap[v3.heap.size]? = some (.cells (hdV N).toArray 27)) := by show _ = _; rw [hW9]; exact heap_alc v3 _
          have HO10 := hid (own_later HO9.out HB10.out)
          clear hW9
          go_wp2_with (first | refine wpList_load_P rfl 27 _ rfl T6 0 rfl (hdV N) _ HR9.out Tryd.underlying27 rfl (by rw [HNV.out]; exact Tryd.size27) ?_ | (refine wpList_buildOne rfl 70 27 _ rfl (some 30) rfl (hdV N).toArray i0 _ Tryd.underlying70 hi hz0 (by rw [hz1, List.size_toArray, HNV.out]) (by rw [List.size_toArray, HNV.out]; decide) (by rw [List.size_toArray, HNV.out]; decide) rfl ?_; rw [← HWN.out]) | (at_builtin; refine wpList_append_own _ rfl _ _ 70 rfl w.heap.size 27 i0 _ 34 48 Tryd.underlying70 hi hz0 hz1 hz2 rfl (by decide) _ n1 _ rfl HO10.out ⟨v3.heap.size, 0, none⟩ 1 1 (hdV N) rfl (by rw [HNV.out]) (fun j u hu => (by rw [add_plain, Nat.zero_add]; exact (Joins.cell_of_block HG10.out j).trans (by rw [List.getElem?_toArray]; exact hu))) (hdL_one _ _ _) (by unfold maxLen; omega) (by omega) (Nat.le_trans HPB.out HB10.out.size) ?_) | fail)
          intro v' V9 hro hgr _
          have HRO : Hid (V9.ownsRow w.heap.size 27 34 v' ((pre ++ [h]) ++ [N]).length (((pre ++ [h]) ++ [N]).flatMap hdV)) := by
            show World.ownsRow _ _ _ _ _ _ _
            rw [List.length_append, ← HNL1.out, flat_hd, flat_hd, List.append_assoc]
            simpa using hro
          have HBZ : Hid (Below w.heap.size w V9) := (Bn HB9.out HB10.out).grown hgr (Bn HB9.out HB10.out).size (fun j hj => (HO10.out.lt j hj).1)
          clear hro hgr
          go_wp2
          go_round
          case rel => exact ⟨k + 1, N, pre ++ [h], by omega, by go_num, HLEN.out, (by show _ = _; rw [HSP.out, HST2.out]; simp), HNL.out, HPR2.out, HRO.out, HBZ.out⟩
          case measure => simp [RowKit.intOf]; omega
      · have H0 := hid h0
        rw [if_neg h0] at HST2
        clear h0
        go_wp2_with fail
        refine wp_region_held_drew (S := fun X => Below V2.heap.size V2 X) (by kernel_rfl) (Below.refl _ _).drew (fun hS_v0 => ?_)
        have hd_v0 : Below V2.heap.size V2 V2.drew := (Below.refl _ _).drew
        generalize V2.drew = v0 at *
        simp only [List.size_toArray, List.length_cons, List.length_nil, Nat.reduceAdd]
        clear hd_v0
        refine Ord.take (i := 0) (d := 18) (v := ?vM0) rfl rfl (by as_aux_lemma => kernel_rfl) (by as_aux_lemma => kernel_rfl) (by as_aux_lemma => kernel_rfl) (fun _ _ _ h => h) (by rfl) ?hM0 (by assumption) ?_
        case hM0 => intro wx hSw; go_simp; try with_reducible rfl
        try simp only [List.setIfInBounds_toArray, List.set_cons_zero, List.set_cons_succ]
        refine Ord.take (i := 1) (d := 19) (v := ?vM1) rfl rfl (by as_aux_lemma => kernel_rfl) (by as_aux_lemma => kernel_rfl) (by as_aux_lemma => kernel_rfl) (fun _ _ _ h => h) (by rfl) ?hM1 (by assumption) ?_
        case hM1 => intro wx hSw; go_simp; try with_reducible rfl
        try simp only [List.setIfInBounds_toArray, List.set_cons_zero, List.set_cons_succ]
        refine Ord.take (i := 2) (d := 20) (v := .pointer (some ⟨g, o3 + k * 34, none⟩)) rfl rfl (by as_aux_lemma => kernel_rfl) (by as_aux_lemma => kernel_rfl) (by as_aux_lemma => kernel_rfl) (fun _ _ _ h => h) (by rfl) ?hM2 (by assumption) ?_
        case hM2 => intro wx hSw; go_simp; try with_reducible rfl
        try simp only [List.setIfInBounds_toArray, List.set_cons_zero, List.set_cons_succ]
        refine Ord.take (i := 3) (d := 21) (v := .agg (hdV h).toArray) rfl rfl (by as_aux_lemma => kernel_rfl) (by as_aux_lemma => kernel_rfl) (by as_aux_lemma => kernel_rfl) (fun _ _ _ h => h) (by rfl) ?hM3 (by assumption) ?_
        case hM3 => intro wx hSw; exact exec_load 27 (.tmp 20) rfl g (o3 + k * 34) rfl (run_loadVar_mid wx g (o3 + k * 34) 27 (hdV h) _ (HRH2.out _ hSw) Tryd.underlying27 rfl (by rw [HHV.out]; exact Tryd.size27))
        try simp only [List.setIfInBounds_toArray, List.set_cons_zero, List.set_cons_succ]
        refine Ord.take (i := 4) (d := 22) (v := .agg x.cs.toArray) rfl rfl (by as_aux_lemma => kernel_rfl) (by as_aux_lemma => kernel_rfl) (by as_aux_lemma => kernel_rfl) (fun _ _ _ h => h) (by rfl) ?hM4 (by assumption) ?_
        case hM4 => intro wx hSw; exact exec_load 58 (.tmp 5) rfl T 0 rfl (run_loadVar_mid wx T 0 58 x.cs _ (HX2.out _ hSw) Tryd.underlying58 rfl (by rw [HLX.out]; exact Tryd.size58))
        try simp only [List.setIfInBounds_toArray, List.set_cons_zero, List.set_cons_succ]
        refine wpAnyH_ready (rs := [5, 9]) (by as_aux_lemma => kernel_rfl) (by simp) (AllReadyH.cons rfl (fun K hK => ?_) (AllReadyH.cons rfl (fun K hK => ?_) (AllReadyH.nil)))
        · go_simp
          refine (HNW.out v0 hS_v0).mono ?_
          rintro _ v1 ⟨rfl, hb_v1⟩
          rw [HNN.out v1]
          have hS_v1 : Below V2.heap.size V2 v1 := Bn hS_v0 hb_v1
          have HQv1 := hid hb_v1
          refine hK.out _ _ hS_v1 (fun _ => ?_)
          clear hK K hb_v1
          try simp only [List.setIfInBounds_toArray, List.set_cons_zero, List.set_cons_succ]
          refine Ord.take (i := 6) (d := 17) (v := .tuple #[.agg (hdV N).toArray, .int .i64 F]) rfl rfl (by as_aux_lemma => kernel_rfl) (by as_aux_lemma => kernel_rfl) (by as_aux_lemma => kernel_rfl) (fun _ _ _ h => h) (by rfl) ?hA6 (by assumption) ?_
          case hA6 => intro wx hSw; go_simp; try with_reducible rfl
          try simp only [List.setIfInBounds_toArray, List.set_cons_zero, List.set_cons_succ]
          refine Ord.take (i := 7) (d := 24) (v := .agg (hdV N).toArray) rfl rfl (by as_aux_lemma => kernel_rfl) (by as_aux_lemma => kernel_rfl) (by as_aux_lemma => kernel_rfl) (fun _ _ _ h => h) (by rfl) ?hA7 (by assumption) ?_
          case hA7 => intro wx hSw; go_simp; try with_reducible rfl
          try simp only [List.setIfInBounds_toArray, List.set_cons_zero, List.set_cons_succ]
          refine Ord.take (i := 8) (d := 25) (v := .int .i64 F) rfl rfl (by as_aux_lemma => kernel_rfl) (by as_aux_lemma => kernel_rfl) (by as_aux_lemma => kernel_rfl) (fun _ _ _ h => h) (by rfl) ?hA8 (by assumption) ?_
          case hA8 => intro wx hSw; go_simp; try with_reducible rfl
          try simp only [List.setIfInBounds_toArray, List.set_cons_zero, List.set_cons_succ]
          refine wpAnyH_ready (rs := [9]) (by as_aux_lemma => kernel_rfl) (by simp) (AllReadyH.cons rfl (fun K hK => ?_) (AllReadyH.nil))
          rw [if_pos (by rfl)]
          obtain ⟨T6, hT6⟩ : ∃ T6, T6 = v1.heap.size := ⟨_, rfl⟩
          refine wp_alloc55 rfl (some 6) rfl T6 hT6 ?_
          have HZ6 : Hid ((v1.alloc (.cells (hdL 0 0 z32).toArray 27)).heap[T6]? = some (.cells (hdL 0 0 z32).toArray 27)) := by show _ = _; rw [hT6]; exact heap_alc v1 _
          have hS_v2 : Below V2.heap.size V2 (v1.alloc (.cells (hdL 0 0 z32).toArray 27)) := Bn hS_v1 (bel_alc v1 _)
          have HGE : Hid (V2.heap.size ≤ T6) := by show _ ≤ _; rw [hT6]; exact hS_v1.size
          refine hK.out _ _ hS_v2 (fun _ => ?_)
          clear hK K hT6
          generalize v1.alloc (.cells (hdL 0 0 z32).toArray 27) = v2 at *
          try simp only [List.setIfInBounds_toArray, List.set_cons_zero, List.set_cons_succ]
          refine wpAnyH_ready (rs := [10]) (by as_aux_lemma => kernel_rfl) (by simp) (AllReadyH.cons rfl (fun K hK => ?_) (AllReadyH.nil))
          rw [if_pos (by rfl)]
          refine wp_store_row 27 _ _ rfl T6 (hdV N).toArray rfl rfl 27 _ HZ6.out HSN.out HZS.out HON.out ?_
          have hS_v3 : Below V2.heap.size V2 (v2.setRow T6 (hdV N).toArray) := below_setRow hS_v2 HGE.out _
          refine hK.out _ _ hS_v3 (fun _ => ?_)
          clear hK K
          have HEN := hid (setRow_heap _ _ _ (hdV N).toArray _ _ HZ6.out)
          generalize v2.setRow T6 (hdV N).toArray = v3 at *
          try simp only [List.setIfInBounds_toArray, List.set_cons_zero, List.set_cons_succ]
          refine Ord.take (i := 11) (d := 7) (v := .int .i64 F) rfl rfl (by as_aux_lemma => kernel_rfl) (by as_aux_lemma => kernel_rfl) (by as_aux_lemma => kernel_rfl) (fun _ _ _ h => h) (by rfl) ?hA11 (by assumption) ?_
          case hA11 => intro wx hSw; go_simp; try with_reducible rfl
          try simp only [List.setIfInBounds_toArray, List.set_cons_zero, List.set_cons_succ]
          refine wpAnyH_done (by as_aux_lemma => kernel_rfl) ?_ _
          have HS9 := hid hS_v3
          clear hS_v3 hS_v2 hS_v1 hS_v0
          have HSE : Hid (hsL hdZ l = pre ++ [h]) := by show _ = _; rw [HSP.out, HST2.out]
          have HO9 := hid (own_later HO2.out HS9.out)
          have HB9 := hid (Bn HB2.out HS9.out)
          have h0b := H0.out
          go_wp2
          obtain ⟨a9, cap9, hv9, hr9⟩ := hd_row (by rw [← HNL1.out]; exact HO9.out) HPR2.out
          rw [← HNL1.out] at hv9
          injection hv9 with hv1 hv2 hv3
          subst hv1
          subst hv3
          refine (HPP.out _ _).2 ⟨some ⟨g, o3, none⟩, cap3, ?_, ?_, HB9.out⟩
          · rw [HSE.out, ← HNL1.out]
            rfl
          · rw [HSE.out]
            exact hr9
        · rw [if_pos (by rfl)]
          obtain ⟨T6, hT6⟩ : ∃ T6, T6 = v0.heap.size := ⟨_, rfl⟩
          refine wp_alloc55 rfl (some 6) rfl T6 hT6 ?_
          have HZ60 : Hid ((v0.alloc (.cells (hdL 0 0 z32).toArray 27)).heap[T6]? = some (.cells (hdL 0 0 z32).toArray 27)) := by show _ = _; rw [hT6]; exact heap_alc v0 _
          have hS_v1 : Below V2.heap.size V2 (v0.alloc (.cells (hdL 0 0 z32).toArray 27)) := Bn hS_v0 (bel_alc v0 _)
          have HGE : Hid (V2.heap.size ≤ T6) := by show _ ≤ _; rw [hT6]; exact hS_v0.size
          refine hK.out _ _ hS_v1 (fun _ => ?_)
          clear hK K hT6
          generalize v0.alloc (.cells (hdL 0 0 z32).toArray 27) = v1 at *
          try simp only [List.setIfInBounds_toArray, List.set_cons_zero, List.set_cons_succ]
          refine wpAnyH_ready (rs := [5]) (by as_aux_lemma => kernel_rfl) (by simp) (AllReadyH.cons rfl (fun K hK => ?_) (AllReadyH.nil))
          go_simp
          refine (HNW.out v1 hS_v1).mono ?_
          rintro _ v2 ⟨rfl, hb_v2⟩
          rw [HNN.out v2]
          have hS_v2 : Below V2.heap.size V2 v2 := Bn hS_v1 hb_v2
          have HQv2 := hid hb_v2
          refine hK.out _ _ hS_v2 (fun _ => ?_)
          clear hK K hb_v2
          try simp only [List.setIfInBounds_toArray, List.set_cons_zero, List.set_cons_succ]
          have HZ6 := hid (blk_later HZ60.out HQv2.out)
          clear HZ60
          refine Ord.take (i := 6) (d := 17) (v := .tuple #[.agg (hdV N).toArray, .int .i64 F]) rfl rfl (by as_aux_lemma => kernel_rfl) (by as_aux_lemma => kernel_rfl) (by as_aux_lemma => kernel_rfl) (fun _ _ _ h => h) (by rfl) ?hB6 (by assumption) ?_
          case hB6 => intro wx hSw; go_simp; try with_reducible rfl
          try simp only [List.setIfInBounds_toArray, List.set_cons_zero, List.set_cons_succ]
          refine Ord.take (i := 7) (d := 24) (v := .agg (hdV N).toArray) rfl rfl (by as_aux_lemma => kernel_rfl) (by as_aux_lemma => kernel_rfl) (by as_aux_lemma => kernel_rfl) (fun _ _ _ h => h) (by rfl) ?hB7 (by assumption) ?_
          case hB7 => intro wx hSw; go_simp; try with_reducible rfl
          try simp only [List.setIfInBounds_toArray, List.set_cons_zero, List.set_cons_succ]
          refine Ord.take (i := 8) (d := 25) (v := .int .i64 F) rfl rfl (by as_aux_lemma => kernel_rfl) (by as_aux_lemma => kernel_rfl) (by as_aux_lemma => kernel_rfl) (fun _ _ _ h => h) (by rfl) ?hB8 (by assumption) ?_
          case hB8 => intro wx hSw; go_simp; try with_reducible rfl
          try simp only [List.setIfInBounds_toArray, List.set_cons_zero, List.set_cons_succ]
          refine wpAnyH_ready (rs := [10]) (by as_aux_lemma => kernel_rfl) (by simp) (AllReadyH.cons rfl (fun K hK => ?_) (AllReadyH.nil))
          rw [if_pos (by rfl)]
          refine wp_store_row 27 _ _ rfl T6 (hdV N).toArray rfl rfl 27 _ HZ6.out HSN.out HZS.out HON.out ?_
          have hS_v3 : Below V2.heap.size V2 (v2.setRow T6 (hdV N).toArray) := below_setRow hS_v2 HGE.out _
          refine hK.out _ _ hS_v3 (fun _ => ?_)
          clear hK K
          have HEN := hid (setRow_heap _ _ _ (hdV N).toArray _ _ HZ6.out)
          generalize v2.setRow T6 (hdV N).toArray = v3 at *
          try simp only [List.setIfInBounds_toArray, List.set_cons_zero, List.set_cons_succ]
          refine Ord.take (i := 11) (d := 7) (v := .int .i64 F) rfl rfl (by as_aux_lemma => kernel_rfl) (by as_aux_lemma => kernel_rfl) (by as_aux_lemma => kernel_rfl) (fun _ _ _ h => h) (by rfl) ?hB11 (by assumption) ?_
          case hB11 => intro wx hSw; go_simp; try with_reducible rfl
          try simp only [List.setIfInBounds_toArray, List.set_cons_zero, List.set_cons_succ]
          refine wpAnyH_done (by as_aux_lemma => kernel_rfl) ?_ _
          have HS9 := hid hS_v3
          clear hS_v3 hS_v2 hS_v1 hS_v0
          have HSE : Hid (hsL hdZ l = pre ++ [h]) := by show _ = _; rw [HSP.out, HST2.out]
          have HO9 := hid (own_later HO2.out HS9.out)
          have HB9 := hid (Bn HB2.out HS9.out)
          have h0b := H0.out
          go_wp2
          obtain ⟨a9, cap9, hv9, hr9⟩ := hd_row (by rw [← HNL1.out]; exact HO9.out) HPR2.out
          rw [← HNL1.out] at hv9
          injection hv9 with hv1 hv2 hv3
          subst hv1
          subst hv3
          refine (HPP.out _ _).2 ⟨some ⟨g, o3, none⟩, cap3, ?_, ?_, HB9.out⟩
          · rw [HSE.out, ← HNL1.out]
            rfl
          · rw [HSE.out]
            exact hr9
    · have hke : k = len := by omega
      have hkz : ¬ (k : Int) < (len : Int) := by omega
      have HSE : Hid (hsL hdZ l = pre ++ [h]) := by
        show _ = _
        rw [HSP.out, List.drop_of_length_le (by rw [← HL.out]; omega)]
        rfl
      go_wp2
      refine (HPP.out _ _).2 ⟨some ⟨g, o3, none⟩, cap3, ?_, ?_, HB.out⟩
      · rw [HSE.out, ← HNL1.out]
      · rw [HSE.out]
        exact HR3.out
end Go.Proofs.YtplinkmagnihmaaDoor
