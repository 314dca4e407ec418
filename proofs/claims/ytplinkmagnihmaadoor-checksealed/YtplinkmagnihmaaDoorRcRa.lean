/-
  The document's side: records that follow one another.
-/
import Derived.Test.YtplinkmagnihmaaDoorRcR
import Derived.Test.YtplinkmagnihmaaDoorRcP
namespace Go.Proofs.YtplinkmagnihmaaDoor
open Go.ChangeShapes Go.WideShapes Go.ChangeAt Go.RowKit Go.Deep

theorem wp_alloc55 {o : Oper} {a : Act} {w : World} {K : Act → World → Prop} {Q : Exit → Act → World → Prop} (ho : o.op = .alloc 27) (d : Option Tmp) (hd : o.dst = d) (N : Nat) (hN : N = w.heap.size) (h : K (a.put d (.pointer (some ⟨N, 0, none⟩))) (w.alloc (.cells (hdL 0 0 z32).toArray 27))) : o.wp Tryd.prog a w K Q := by
  subst hd hN
  unfold Oper.wp execOp
  simp only [ho, Sem.run_bind, Instr.alloc, Tryd.zero27, newVar, newRow, run_newObj_alloc, Sem.run_pure, Result.andThen_ok, Value.cells]
  exact h
set_option maxHeartbeats 16000000 in
set_option maxRecDepth 100000 in
theorem dwalk_word (h0 : Hd) (a : Option Addr) (cap : Nat) (l : List Rec) (w : World) (hcl : h0.2.2.length = 32) (hr : Rr w a cap l) (hn : ∀ r ∈ l, r.ps.length ≤ 1000) :
    Calls Tryd.prog 22 #[.agg (hdV h0).toArray, .slice a l.length cap] w fun e w' => e = .returned (.tuple #[.agg (hdV (wlk h0 l 0).1).toArray, .int .i64 ((wlk h0 l 0).2.1 : Int), .int .i64 (wlk h0 l 0).2.2]) ∧ Below w.heap.size w w' := by
  have hroom := hr.room
  have hmost := hr.most
  unfold maxLen at hmost
  have HR := hid hr
  have HN := hid hn
  have b1 := bel_alc w (.cells (hdV h0).toArray 27)
  have b2 := bel_alc (w.alloc (.cells (hdV h0).toArray 27)) (.cells (hdL 0 0 z32).toArray 27)
  have s1 : (w.alloc (.cells (hdV h0).toArray 27)).heap.size = w.heap.size + 1 := by simp
  obtain ⟨W0, hW0⟩ : ∃ W0, W0 = (w.alloc (.cells (hdV h0).toArray 27)).alloc (.cells (hdL 0 0 z32).toArray 27) := ⟨_, rfl⟩
  have HW0 := hid hW0
  have e0 : W0.heap[w.heap.size]? = some (.cells (hdV h0).toArray 27) := by rw [hW0]; exact (b2.block _ (by rw [s1]; omega)).trans (heap_alc w _)
  have e1 : W0.heap[w.heap.size + 1]? = some (.cells (hdL 0 0 z32).toArray 27) := by
    rw [hW0]
    have := heap_alc (w.alloc (.cells (hdV h0).toArray 27)) (.cells (hdL 0 0 z32).toArray 27)
    rw [s1] at this
    exact this
  have HE0 := hid e0
  have HE1 := hid e1
  have HB0 : Hid (Below w.heap.size w W0) := by rw [hW0]; exact Bn b1 b2
  have HS1 : Hid (w.heap.size + 1 = (w.alloc (.cells (hdV h0).toArray 27)).heap.size) := s1.symm
  have HHL := hid hcl
  obtain ⟨len, hle⟩ : ∃ n, n = l.length := ⟨_, rfl⟩
  have HL := hid hle
  rw [← hle] at hroom ⊢
  obtain ⟨RR, hRR⟩ : ∃ RR, RR = wlk h0 l 0 := ⟨_, rfl⟩
  rw [← hRR]
  have HRR := hid hRR
  clear hr hle hn b1 b2 s1 hW0 e0 e1 hcl hRR
  go_enter Tryd.func22, Tryd.ntmps22
  go_wp2_with (first | refine wpList_alloc_to rfl 27 rfl (some 4) rfl _ Tryd.zero27 (w.heap.size + 1) HS1.out W0 HW0.out ?_ | fail)
  go_loopw [7] (fun x7 wr => ∃ (k : Nat) (h : Hd), k ≤ len ∧ x7 = .int .i64 (k : Int) ∧ Hid (h.2.2.length = 32) ∧ Hid (wr.heap[w.heap.size]? = some (.cells (hdV h).toArray 27)) ∧ Hid (wr.heap[w.heap.size + 1]? = some (.cells (hdL 0 0 z32).toArray 27)) ∧ Hid (Below w.heap.size w wr) ∧ Hid (RR = wlk h (l.drop k) k)) (fun x7 _ => len - (intOf x7).toNat)
  case atStart => exact ⟨0, h0, by omega, rfl, HHL, HE0, HE1, HB0, HRR.out⟩
  case round =>
    obtain ⟨k, h, hk, rfl, HHL2, HH, HO, HB, HW⟩ := hrel
    clear HE0 HE1 HB0 HHL HRR HW0 HS1
    by_cases hlt : k < len
    · have hkz : (k : Int) < (len : Int) := by omega
      obtain ⟨b, off, rfl, hbw, hc⟩ := HR.out.cells (by rw [← HL.out]; omega)
      have hrg := (hc k (by rw [← HL.out]; exact hlt))
      have HRG : Hid (wr.rangeAt b (off + k * 38) (l.getD k recZ).cs) := fun j v hv => (HB.out.cell (p := ⟨b, off + k * 38 + j, none⟩) hbw).trans (hrg j v hv)
      have HBL : Hid (b < wr.heap.size) := Nat.lt_of_lt_of_le hbw HB.out.size
      have hok := hid (HR.out.get (j := k) (by rw [← HL.out]; exact hlt))
      have HNK := hid (HN.out (l.getD k recZ) (by simp [List.getD, List.getElem?_eq_getElem (show k < l.length by rw [← HL.out]; exact hlt)]))
      have HST := hid (wlk_step h (show k < l.length by rw [← HL.out]; exact hlt))
      generalize l.getD k recZ = x at *
      have HLX := hid hok.out.len
      have HHV : Hid ((hdV h).length = 34) := hdL_len _ _ _ HHL2.out
      obtain ⟨N, hN⟩ : ∃ N, N = nxtH h x := ⟨_, rfl⟩
      have HNE := hid hN
      have hNl : N.2.2.length = 32 := by rw [hN]; exact nxO_len _ _ _ _
      have HNL := hid hNl
      have HNV : Hid ((hdV N).length = 34) := hdL_len _ _ _ hNl
      have HZS : Hid ((hdL 0 0 z32).toArray.size = (hdV N).toArray.size) := by show _ = _; rw [List.size_toArray, List.size_toArray, HNV.out]; rfl
      have HHS : Hid ((hdV h).toArray.size = (hdV N).toArray.size) := by show _ = _; rw [List.size_toArray, List.size_toArray, HNV.out, HHV.out]
      have HZH : Hid ((hdL 0 0 z32).toArray.size = (hdV h).toArray.size) := by show _ = _; rw [List.size_toArray, List.size_toArray, HHV.out]; rfl
      have HSN : Hid ((Tryd.prog.info? 27).map (·.size) = some (hdV N).toArray.size) := size_hd hNl
      have HSH : Hid ((Tryd.prog.info? 27).map (·.size) = some (hdV h).toArray.size) := size_hd HHL2.out
      have HON := hid (all_oneCell_toArray (show ∀ u ∈ hdV N, u.oneCell' = true from hdL_one _ _ _))
      have HOH := hid (all_oneCell_toArray (show ∀ u ∈ hdV h, u.oneCell' = true from hdL_one _ _ _))
      have HST2 : Hid (RR = if fltO h.1 h.2.1 h.2.2 x = 0 then wlk N (l.drop (k + 1)) (k + 1) else (h, k, fltO h.1 h.2.1 h.2.2 x)) := by show _ = _; rw [hN]; exact HW.out.trans HST.out
      clear hrg hc hbw hN hNl HST
      go_wp2_with fail
      refine wp_region_held_drew (S := fun V => Below wr.heap.size wr V) (by kernel_rfl) (Below.refl _ _).drew (fun hS0 => ?_)
      generalize wr.drew = v0 at *
      simp only [List.size_toArray, List.length_cons, List.length_nil, Nat.reduceAdd]
      refine Ord.take (i := 0) (d := 17) (v := .agg (hdV h).toArray) rfl rfl (by as_aux_lemma => kernel_rfl) (by as_aux_lemma => kernel_rfl) (by as_aux_lemma => kernel_rfl) (fun _ _ _ h => h) (by rfl) ?hA0 (by assumption) ?_
      case hA0 => intro V hSw; exact exec_load 27 (.tmp 2) rfl w.heap.size 0 rfl (load_hd ((hSw.block _ (Array.getElem?_eq_some_iff.1 HH.out).1).trans HH.out) HHL2.out)
      try simp only [List.setIfInBounds_toArray, List.set_cons_zero, List.set_cons_succ]
      refine Ord.take (i := 1) (d := 18) (v := ?v1) rfl rfl (by as_aux_lemma => kernel_rfl) (by as_aux_lemma => kernel_rfl) (by as_aux_lemma => kernel_rfl) (fun _ _ _ h => h) (by rfl) ?hA1 (by assumption) ?_
      case hA1 => intro V hSw; go_simp; try with_reducible rfl
      try simp only [List.setIfInBounds_toArray, List.set_cons_zero, List.set_cons_succ]
      refine Ord.take (i := 2) (d := 19) (v := ?v2) rfl rfl (by as_aux_lemma => kernel_rfl) (by as_aux_lemma => kernel_rfl) (by as_aux_lemma => kernel_rfl) (fun _ _ _ h => h) (by rfl) ?hA2 (by assumption) ?_
      case hA2 => intro V hSw; go_simp; try with_reducible rfl
      try simp only [List.setIfInBounds_toArray, List.set_cons_zero, List.set_cons_succ]
      refine Ord.take (i := 3) (d := 20) (v := .pointer (some ⟨b, off + k * 38, none⟩)) rfl rfl (by as_aux_lemma => kernel_rfl) (by as_aux_lemma => kernel_rfl) (by as_aux_lemma => kernel_rfl) (fun _ _ _ h => h) (by rfl) ?hA3 (by assumption) ?_
      case hA3 => intro V hSw; go_simp; try with_reducible rfl
      try simp only [List.setIfInBounds_toArray, List.set_cons_zero, List.set_cons_succ]
      refine Ord.take (i := 4) (d := 21) (v := .agg x.cs.toArray) rfl rfl (by as_aux_lemma => kernel_rfl) (by as_aux_lemma => kernel_rfl) (by as_aux_lemma => kernel_rfl) (fun _ _ _ h => h) (by rfl) ?hA4 (by assumption) ?_
      case hA4 => intro V hSw; exact exec_load 58 (.tmp 20) rfl b (off + k * 38) rfl (run_loadVar_mid V b (off + k * 38) 58 x.cs _ (range_later HRG.out hSw HBL.out) Tryd.underlying58 rfl (by rw [Rec.cs_len HLX.out]; exact Tryd.size58))
      try simp only [List.setIfInBounds_toArray, List.set_cons_zero, List.set_cons_succ]
      refine wpAnyH_ready (rs := [5, 9]) (by as_aux_lemma => kernel_rfl) (by simp) (AllReadyH.cons rfl (fun K hK => ?_) (AllReadyH.cons rfl (fun K hK => ?_) AllReadyH.nil))
      · go_simp
        refine (dnext_word h.1 h.2.1 h.2.2 x v0 HHL2.out (hok.out.later (Bn HB.out hS0)) HNK.out).mono ?_
        rintro _ v1 ⟨rfl, hb_v1⟩
        rw [show hdL (nxO h.1 h.2.1 h.2.2 x).1 (nxO h.1 h.2.1 h.2.2 x).2.1 (nxO h.1 h.2.1 h.2.2 x).2.2 = hdV N from by rw [HNE.out]; rfl]
        have hS_v1 := Bn hS0 hb_v1
        refine hK.out _ _ hS_v1 (fun _ => ?_)
        clear hK K
        try simp only [List.setIfInBounds_toArray, List.set_cons_zero, List.set_cons_succ]
        generalize fltO h.1 h.2.1 h.2.2 x = F at *
        refine Ord.take (i := 6) (d := 16) (v := ?v6B) rfl rfl (by as_aux_lemma => kernel_rfl) (by as_aux_lemma => kernel_rfl) (by as_aux_lemma => kernel_rfl) (fun _ _ _ h => h) (by rfl) ?hB6 (by assumption) ?_
        case hB6 => intro V hSw; go_simp; try with_reducible rfl
        try simp only [List.setIfInBounds_toArray, List.set_cons_zero, List.set_cons_succ]
        refine Ord.take (i := 7) (d := 23) (v := .agg (hdV N).toArray) rfl rfl (by as_aux_lemma => kernel_rfl) (by as_aux_lemma => kernel_rfl) (by as_aux_lemma => kernel_rfl) (fun _ _ _ h => h) (by rfl) ?hB7 (by assumption) ?_
        case hB7 => intro V hSw; go_simp; try with_reducible rfl
        try simp only [List.setIfInBounds_toArray, List.set_cons_zero, List.set_cons_succ]
        refine Ord.take (i := 8) (d := 24) (v := ?v8B) rfl rfl (by as_aux_lemma => kernel_rfl) (by as_aux_lemma => kernel_rfl) (by as_aux_lemma => kernel_rfl) (fun _ _ _ h => h) (by rfl) ?hB8 (by assumption) ?_
        case hB8 => intro V hSw; go_simp; try with_reducible rfl
        try simp only [List.setIfInBounds_toArray, List.set_cons_zero, List.set_cons_succ]
        refine wpAnyH_ready (rs := [9]) (by as_aux_lemma => kernel_rfl) (by simp) (AllReadyH.cons rfl (fun K hK => ?_) AllReadyH.nil)
        rw [if_pos (by rfl)]
        refine wp_alloc55 rfl (some 8) rfl v1.heap.size rfl ?_
        have HZv2 := hid (heap_alc v1 (.cells (hdL 0 0 z32).toArray 27))
        have hS_v2 := Bn hS_v1 (bel_alc v1 (.cells (hdL 0 0 z32).toArray 27))
        have HGv2 : Hid (wr.heap.size ≤ v1.heap.size) := hS_v1.size
        refine hK.out _ _ hS_v2 (fun _ => ?_)
        clear hK K
        generalize hv2 : v1.alloc (.cells (hdL 0 0 z32).toArray 27) = v2 at *
        clear hv2
        try simp only [List.setIfInBounds_toArray, List.set_cons_zero, List.set_cons_succ]
        refine wpAnyH_ready (rs := [10]) (by as_aux_lemma => kernel_rfl) (by simp) (AllReadyH.cons rfl (fun K hK => ?_) AllReadyH.nil)
        rw [if_pos (by rfl)]
        refine wp_store_row 27 _ _ rfl v1.heap.size (hdV N).toArray rfl rfl 27 _ HZv2.out HSN.out HZS.out HON.out ?_
        have hS_e : Below wr.heap.size wr (v2.setRow v1.heap.size (hdV N).toArray) := below_setRow hS_v2 HGv2.out _
        refine hK.out _ _ hS_e (fun _ => ?_)
        clear hK K
        have HEN := hid (setRow_heap _ _ _ (hdV N).toArray _ _ HZv2.out)
        generalize v2.setRow v1.heap.size (hdV N).toArray = ve at *
        try simp only [List.setIfInBounds_toArray, List.set_cons_zero, List.set_cons_succ]
        refine Ord.take (i := 11) (d := 9) (v := ?v11B) rfl rfl (by as_aux_lemma => kernel_rfl) (by as_aux_lemma => kernel_rfl) (by as_aux_lemma => kernel_rfl) (fun _ _ _ h => h) (by rfl) ?hB11 (by assumption) ?_
        case hB11 => intro V hSw; go_simp; try with_reducible rfl
        try simp only [List.setIfInBounds_toArray, List.set_cons_zero, List.set_cons_succ]
        refine wpAnyH_done (by as_aux_lemma => kernel_rfl) ?_ _
        have HB3 := hid (Bn HB.out hS_e)
        have HH3 := hid ((hS_e.block _ (Array.getElem?_eq_some_iff.1 HH.out).1).trans HH.out)
        have HO3 := hid ((hS_e.block _ (Array.getElem?_eq_some_iff.1 HO.out).1).trans HO.out)
        have HR3 : Hid (ve.rangeAt w.heap.size 0 (hdV h)) := fun j v hv => by
          rw [Nat.zero_add, Joins.cell_of_block HH3.out j, List.getElem?_toArray]
          exact hv
        have HN3 : Hid (ve.rangeAt v1.heap.size 0 (hdV N)) := fun j v hv => by
          rw [Nat.zero_add, Joins.cell_of_block HEN.out j, List.getElem?_toArray]
          exact hv
        by_cases hF : F = 0
        · subst hF
          go_wp2_with (first | refine wpList_load_g rfl 27 _ rfl v1.heap.size 0 rfl (hdV N) _ HN3.out Tryd.underlying27 rfl (by rw [HNV.out]; exact Tryd.size27) ?_ | refine wpList_store_rowTo rfl 27 _ _ rfl rfl w.heap.size (hdV N).toArray rfl rfl 27 _ HH3.out HSN.out HHS.out HON.out ?_ | fail)
          go_round
          case rel => exact ⟨k + 1, N, by omega, by go_num, HNL, setRow_heap _ _ _ _ _ _ HH3.out, (other_setRow _ _ _ _ (by omega)).trans HO3.out, below_setRow HB3.out (Nat.le_refl _) _, by show _ = _; rw [HST2.out]; simp⟩
          case measure => simp [intOf]; omega
        · have HF0 := hid hF
          go_wp2_with (first | refine wpList_load_g rfl 27 _ rfl w.heap.size 0 rfl (hdV h) _ HR3.out Tryd.underlying27 rfl (by rw [HHV.out]; exact Tryd.size27) ?_ | refine wpList_store_rowTo rfl 27 _ _ rfl rfl (w.heap.size + 1) (hdV h).toArray rfl rfl 27 _ HO3.out HSH.out HZH.out HOH.out ?_ | fail)
          refine bodyPost_ret (results_row_tmp2 rfl _ _ (w.heap.size + 1) _ rfl (load_hd (setRow_heap _ _ _ _ _ _ HO3.out) HHL2.out)) rfl ?_
          exact ⟨by rw [HST2.out, if_neg HF0.out]; rfl, below_setRow HB3.out (by omega) _⟩
      · rw [if_pos (by rfl)]
        refine wp_alloc55 rfl (some 8) rfl v0.heap.size rfl ?_
        have HZv1 := hid (heap_alc v0 (.cells (hdL 0 0 z32).toArray 27))
        have hS_v1 := Bn hS0 (bel_alc v0 (.cells (hdL 0 0 z32).toArray 27))
        have HGv1 : Hid (wr.heap.size ≤ v0.heap.size) := hS0.size
        refine hK.out _ _ hS_v1 (fun _ => ?_)
        clear hK K
        generalize hv1 : v0.alloc (.cells (hdL 0 0 z32).toArray 27) = v1 at *
        clear hv1
        try simp only [List.setIfInBounds_toArray, List.set_cons_zero, List.set_cons_succ]
        refine wpAnyH_ready (rs := [5]) (by as_aux_lemma => kernel_rfl) (by simp) (AllReadyH.cons rfl (fun K hK => ?_) AllReadyH.nil)
        go_simp
        refine (dnext_word h.1 h.2.1 h.2.2 x v1 HHL2.out (hok.out.later (Bn HB.out hS_v1)) HNK.out).mono ?_
        rintro _ v2 ⟨rfl, hb_v2⟩
        rw [show hdL (nxO h.1 h.2.1 h.2.2 x).1 (nxO h.1 h.2.1 h.2.2 x).2.1 (nxO h.1 h.2.1 h.2.2 x).2.2 = hdV N from by rw [HNE.out]; rfl]
        have hS_v2 := Bn hS_v1 hb_v2
        refine hK.out _ _ hS_v2 (fun _ => ?_)
        clear hK K
        try simp only [List.setIfInBounds_toArray, List.set_cons_zero, List.set_cons_succ]
        have HZv2 := hid ((hb_v2.block _ (Array.getElem?_eq_some_iff.1 HZv1.out).1).trans HZv1.out)
        have HGv2 := HGv1
        generalize fltO h.1 h.2.1 h.2.2 x = F at *
        refine Ord.take (i := 6) (d := 16) (v := ?v6C) rfl rfl (by as_aux_lemma => kernel_rfl) (by as_aux_lemma => kernel_rfl) (by as_aux_lemma => kernel_rfl) (fun _ _ _ h => h) (by rfl) ?hC6 (by assumption) ?_
        case hC6 => intro V hSw; go_simp; try with_reducible rfl
        try simp only [List.setIfInBounds_toArray, List.set_cons_zero, List.set_cons_succ]
        refine Ord.take (i := 7) (d := 23) (v := .agg (hdV N).toArray) rfl rfl (by as_aux_lemma => kernel_rfl) (by as_aux_lemma => kernel_rfl) (by as_aux_lemma => kernel_rfl) (fun _ _ _ h => h) (by rfl) ?hC7 (by assumption) ?_
        case hC7 => intro V hSw; go_simp; try with_reducible rfl
        try simp only [List.setIfInBounds_toArray, List.set_cons_zero, List.set_cons_succ]
        refine Ord.take (i := 8) (d := 24) (v := ?v8C) rfl rfl (by as_aux_lemma => kernel_rfl) (by as_aux_lemma => kernel_rfl) (by as_aux_lemma => kernel_rfl) (fun _ _ _ h => h) (by rfl) ?hC8 (by assumption) ?_
        case hC8 => intro V hSw; go_simp; try with_reducible rfl
        try simp only [List.setIfInBounds_toArray, List.set_cons_zero, List.set_cons_succ]
        refine wpAnyH_ready (rs := [10]) (by as_aux_lemma => kernel_rfl) (by simp) (AllReadyH.cons rfl (fun K hK => ?_) AllReadyH.nil)
        rw [if_pos (by rfl)]
        refine wp_store_row 27 _ _ rfl v0.heap.size (hdV N).toArray rfl rfl 27 _ HZv2.out HSN.out HZS.out HON.out ?_
        have hS_e : Below wr.heap.size wr (v2.setRow v0.heap.size (hdV N).toArray) := below_setRow hS_v2 HGv2.out _
        refine hK.out _ _ hS_e (fun _ => ?_)
        clear hK K
        have HEN := hid (setRow_heap _ _ _ (hdV N).toArray _ _ HZv2.out)
        generalize v2.setRow v0.heap.size (hdV N).toArray = ve at *
        try simp only [List.setIfInBounds_toArray, List.set_cons_zero, List.set_cons_succ]
        refine Ord.take (i := 11) (d := 9) (v := ?v11C) rfl rfl (by as_aux_lemma => kernel_rfl) (by as_aux_lemma => kernel_rfl) (by as_aux_lemma => kernel_rfl) (fun _ _ _ h => h) (by rfl) ?hC11 (by assumption) ?_
        case hC11 => intro V hSw; go_simp; try with_reducible rfl
        try simp only [List.setIfInBounds_toArray, List.set_cons_zero, List.set_cons_succ]
        refine wpAnyH_done (by as_aux_lemma => kernel_rfl) ?_ _
        have HB3 := hid (Bn HB.out hS_e)
        have HH3 := hid ((hS_e.block _ (Array.getElem?_eq_some_iff.1 HH.out).1).trans HH.out)
        have HO3 := hid ((hS_e.block _ (Array.getElem?_eq_some_iff.1 HO.out).1).trans HO.out)
        have HR3 : Hid (ve.rangeAt w.heap.size 0 (hdV h)) := fun j v hv => by
          rw [Nat.zero_add, Joins.cell_of_block HH3.out j, List.getElem?_toArray]
          exact hv
        have HN3 : Hid (ve.rangeAt v0.heap.size 0 (hdV N)) := fun j v hv => by
          rw [Nat.zero_add, Joins.cell_of_block HEN.out j, List.getElem?_toArray]
          exact hv
        by_cases hF : F = 0
        · subst hF
          go_wp2_with (first | refine wpList_load_g rfl 27 _ rfl v0.heap.size 0 rfl (hdV N) _ HN3.out Tryd.underlying27 rfl (by rw [HNV.out]; exact Tryd.size27) ?_ | refine wpList_store_rowTo rfl 27 _ _ rfl rfl w.heap.size (hdV N).toArray rfl rfl 27 _ HH3.out HSN.out HHS.out HON.out ?_ | fail)
          go_round
          case rel => exact ⟨k + 1, N, by omega, by go_num, HNL, setRow_heap _ _ _ _ _ _ HH3.out, (other_setRow _ _ _ _ (by omega)).trans HO3.out, below_setRow HB3.out (Nat.le_refl _) _, by show _ = _; rw [HST2.out]; simp⟩
          case measure => simp [intOf]; omega
        · have HF0 := hid hF
          go_wp2_with (first | refine wpList_load_g rfl 27 _ rfl w.heap.size 0 rfl (hdV h) _ HR3.out Tryd.underlying27 rfl (by rw [HHV.out]; exact Tryd.size27) ?_ | refine wpList_store_rowTo rfl 27 _ _ rfl rfl (w.heap.size + 1) (hdV h).toArray rfl rfl 27 _ HO3.out HSH.out HZH.out HOH.out ?_ | fail)
          refine bodyPost_ret (results_row_tmp2 rfl _ _ (w.heap.size + 1) _ rfl (load_hd (setRow_heap _ _ _ _ _ _ HO3.out) HHL2.out)) rfl ?_
          exact ⟨by rw [HST2.out, if_neg HF0.out]; rfl, below_setRow HB3.out (by omega) _⟩
    · have hkl : k = len := by omega
      have hkz : ¬ (k : Int) < (len : Int) := by omega
      have HHV : Hid ((hdV h).length = 34) := hdL_len _ _ _ HHL2.out
      have HR3 : Hid (wr.rangeAt w.heap.size 0 (hdV h)) := fun j v hv => by
        rw [Nat.zero_add, Joins.cell_of_block HH.out j, List.getElem?_toArray]
        exact hv
      have HZH : Hid ((hdL 0 0 z32).toArray.size = (hdV h).toArray.size) := by show _ = _; rw [List.size_toArray, List.size_toArray, HHV.out]; rfl
      have HSH : Hid ((Tryd.prog.info? 27).map (·.size) = some (hdV h).toArray.size) := size_hd HHL2.out
      have HOH := hid (all_oneCell_toArray (show ∀ u ∈ hdV h, u.oneCell' = true from hdL_one _ _ _))
      have HEN : Hid (RR = (h, k, 0)) := by
        show _ = _
        rw [HW.out, List.drop_eq_nil_of_le (by rw [← HL.out]; omega), wlk]
      subst hkl
      go_wp2_with (first | refine wpList_load_g rfl 27 _ rfl w.heap.size 0 rfl (hdV h) _ HR3.out Tryd.underlying27 rfl (by rw [HHV.out]; exact Tryd.size27) ?_ | refine wpList_store_rowTo rfl 27 _ _ rfl rfl (w.heap.size + 1) (hdV h).toArray rfl rfl 27 _ HO.out HSH.out HZH.out HOH.out ?_ | fail)
      refine bodyPost_ret (results_row_tmp2 rfl _ _ (w.heap.size + 1) _ rfl (load_hd (setRow_heap _ _ _ _ _ _ HO.out) HHL2.out)) rfl ?_
      exact ⟨by rw [HEN.out]; rfl, below_setRow HB.out (by omega) _⟩
end Go.Proofs.YtplinkmagnihmaaDoor
