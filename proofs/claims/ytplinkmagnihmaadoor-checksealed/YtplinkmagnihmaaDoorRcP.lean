/-
  Records that follow one another: the contract of record's Walk.
-/
import Derived.Test.YtplinkmagnihmaaDoorRcO
namespace Go.Proofs.YtplinkmagnihmaaDoor
open Go.ChangeShapes Go.WideShapes Go.ChangeAt Go.RowKit Go.Deep

abbrev Hd := Int × Int × List Int
def hdV (h : Hd) : List Value := hdL h.1 h.2.1 h.2.2
def fltH (h : Hd) (r : Rec) : Int := fltO h.1 h.2.1 h.2.2 r
def nxtH (h : Hd) (r : Rec) : Hd := nxO h.1 h.2.1 h.2.2 r
/-- What Walk tells: the head, how many, the error. -/
def wlk (h : Hd) : List Rec → Nat → Hd × Nat × Int
  | [], i => (h, i, 0)
  | r :: l, i => if fltH h r = 0 then wlk (nxtH h r) l (i + 1) else (h, i, fltH h r)
theorem wlk_step {l : List Rec} {k : Nat} (h : Hd) (hk : k < l.length) : wlk h (l.drop k) k = if fltH h (l.getD k recZ) = 0 then wlk (nxtH h (l.getD k recZ)) (l.drop (k + 1)) (k + 1) else (h, k, fltH h (l.getD k recZ)) := by
  have e : l.drop k = l.getD k recZ :: l.drop (k + 1) := by
    rw [List.drop_eq_getElem_cons hk]
    simp [List.getD, List.getElem?_eq_getElem hk]
  rw [e, wlk]
theorem wlk_len : ∀ (l : List Rec) (h : Hd) (i : Nat), h.2.2.length = 32 → (wlk h l i).1.2.2.length = 32
  | [], _, _, q => q
  | r :: l, h, i, q => by
    rw [wlk]
    split
    · exact wlk_len l _ _ (nxO_len _ _ _ _)
    · exact q
theorem wlk_rng : ∀ (l : List Rec) (h : Hd) (i : Nat), i ≤ (wlk h l i).2.1 ∧ (wlk h l i).2.1 ≤ i + l.length
  | [], _, i => by simp [wlk]
  | r :: l, h, i => by
    rw [wlk]
    split
    · have := wlk_rng l (nxtH h r) (i + 1)
      simp only [List.length_cons]
      omega
    · simp
theorem results_row_tmp2 {P : Program} {fn : Func} {p u v : Tmp} {ty : TypeId} (h : fn.results = #[.cell p ty, .tmp u, .tmp v]) (tmps : Array Value) (w : World) (g : Nat) (x : Value) (hp : tmps.getD p undef = .pointer (some ⟨g, 0, none⟩)) (hl : (loadVar ty ⟨g, 0, none⟩).run P w = .ok x w) :
    (results fn tmps).run P w = .ok (.tuple #[x, tmps.getD u undef, tmps.getD v undef]) w := by
  rw [results_cell_tmp3 h, hp]
  simp [asAddr, hl]
set_option maxHeartbeats 3200000 in
set_option maxRecDepth 100000 in
theorem walk_word (h0 : Hd) (a : Option Addr) (cap : Nat) (l : List Rec) (w : World) (hcl : h0.2.2.length = 32) (hr : Rr w a cap l) (hL : Sh.Laid w) (hn : ∀ r ∈ l, r.ps.length ≤ 1000) :
    Calls Tryd.prog 28 #[.agg (hdV h0).toArray, .slice a l.length cap] w fun e w' => e = .returned (.tuple #[.agg (hdV (wlk h0 l 0).1).toArray, .int .i64 ((wlk h0 l 0).2.1 : Int), .int .i64 (wlk h0 l 0).2.2]) ∧ Below w.heap.size w w' := by
  have hroom := hr.room
  have hmost := hr.most
  unfold maxLen at hmost
  have HR := hid hr
  have HLA := hid hL
  have HN := hid hn
  have b1 := bel_alc w (.cells (hdV h0).toArray 27)
  have b2 := bel_alc (w.alloc (.cells (hdV h0).toArray 27)) (.cells (hdL 0 0 z32).toArray 27)
  have s1 : (w.alloc (.cells (hdV h0).toArray 27)).heap.size = w.heap.size + 1 := by simp
  obtain ⟨W0, hW0⟩ : ∃ W0, W0 = (w.alloc (.cells (hdV h0).toArray 27)).alloc (.cells (hdL 0 0 z32).toArray 27) := ⟨_, rfl⟩
  have HW0 := hid hW0
  have e0 : W0.heap[w.heap.size]? = some (.cells (hdV h0).toArray 27) := by rw [hW0]; exact (b2.block _ (by rw [s1]; omega)).trans (heap_alc w _)
  have e1 : W0.heap[w.heap.size + 1]? = some (.cells (hdL 0 0 z32).toArray 27) := by
    rw [hW0]
    have := heap_alc (w.alloc (.cells (hdV h0).toArray 27)) (.cells (hdL 0 0 z32).toArray 27)
    rw [s1] at this
    exact this
  have HE0 := hid e0
  have HE1 := hid e1
  have HB0 : Hid (Below w.heap.size w W0) := by rw [hW0]; exact Bn b1 b2
  have HS1 : Hid (w.heap.size + 1 = (w.alloc (.cells (hdV h0).toArray 27)).heap.size) := s1.symm
  have HHL := hid hcl
  obtain ⟨len, hle⟩ : ∃ n, n = l.length := ⟨_, rfl⟩
  have HL := hid hle
  rw [← hle] at hroom ⊢
  obtain ⟨RR, hRR⟩ : ∃ RR, RR = wlk h0 l 0 := ⟨_, rfl⟩
  rw [← hRR]
  have HRR := hid hRR
  clear hr hle hL hn b1 b2 s1 hW0 e0 e1 hcl hRR
  go_enter Tryd.func28, Tryd.ntmps28
  go_wp2_with (first | refine wpList_alloc_to rfl 27 rfl (some 4) rfl _ Tryd.zero27 (w.heap.size + 1) HS1.out W0 HW0.out ?_ | fail)
  go_loopw [13] (fun x13 wr => ∃ (k : Nat) (h : Hd), k ≤ len ∧ x13 = .int .i64 (k : Int) ∧ Hid (h.2.2.length = 32) ∧ Hid (wr.heap[w.heap.size]? = some (.cells (hdV h).toArray 27)) ∧ Hid (wr.heap[w.heap.size + 1]? = some (.cells (hdL 0 0 z32).toArray 27)) ∧ Hid (Below w.heap.size w wr) ∧ Hid (RR = wlk h (l.drop k) k)) (fun x13 _ => len - (intOf x13).toNat)
  case atStart => exact ⟨0, h0, by omega, rfl, HHL, HE0, HE1, HB0, HRR.out⟩
  case round =>
    obtain ⟨k, h, hk, rfl, HHL2, HH, HO, HB, HW⟩ := hrel
    clear HE0 HE1 HB0 HHL HRR HW0 HS1
    by_cases hlt : k < len
    · have hkz : (k : Int) < (len : Int) := by omega
      obtain ⟨b, off, rfl, hbw, hc⟩ := HR.out.cells (by rw [← HL.out]; omega)
      have hrg := (hc k (by rw [← HL.out]; exact hlt))
      have HRG : Hid (wr.rangeAt b (off + k * 38) (l.getD k recZ).cs) := fun j v hv => (HB.out.cell (p := ⟨b, off + k * 38 + j, none⟩) hbw).trans (hrg j v hv)
      have hok := (HR.out.get (j := k) (by rw [← HL.out]; exact hlt)).later HB.out
      have hnk := HN.out (l.getD k recZ) (by simp [List.getD, List.getElem?_eq_getElem (show k < l.length by rw [← HL.out]; exact hlt)])
      have HST := hid (wlk_step h (show k < l.length by rw [← HL.out]; exact hlt))
      generalize l.getD k recZ = x at *
      have HLX := hid hok.len
      have hba := bel_alc wr (.cells x.cs.toArray 58)
      have HBX := hid (Bx.mk' wr x hok.len)
      have HXR := hid HBX.out.range
      have HH1 : Hid ((wr.alloc (.cells x.cs.toArray 58)).rangeAt w.heap.size 0 (hdV h)) := fun j v hv => by
        rw [Nat.zero_add, Joins.cell_of_block ((hba.block _ (Array.getElem?_eq_some_iff.1 HH.out).1).trans HH.out) j, List.getElem?_toArray]
        exact hv
      have HHV : Hid ((hdV h).length = 34) := hdL_len _ _ _ HHL2.out
      have HNX := hid (next_word h.1 h.2.1 h.2.2 x _ HHL2.out (hok.later hba) (HLA.out.later (Bn HB.out hba)) hnk)
      have HB1 := hid (Bn HB.out hba)
      have HH2 := hid ((hba.block _ (Array.getElem?_eq_some_iff.1 HH.out).1).trans HH.out)
      have HO2 := hid ((hba.block _ (Array.getElem?_eq_some_iff.1 HO.out).1).trans HO.out)
      clear hrg hc hok hba hnk
      go_wp2_with (first | refine wpList_load_g rfl 58 _ rfl b (off + k * 38) rfl x.cs _ HRG.out Tryd.underlying58 rfl (by rw [Rec.cs_len HLX.out]; exact Tryd.size58) ?_ | refine wpList_alloc_at rfl 58 rfl (some 8) rfl _ Tryd.zero58 wr.heap.size rfl ?_ | refine wpList_store_new rfl 58 _ _ rfl rfl wr recZ.cs.toArray x.cs.toArray rfl rfl rfl (size_recs HLX.out) (by rw [Rec.cs_size rfl, Rec.cs_size HLX.out]) (all_oneCell_toArray (Rec.cs_one _)) ?_ | refine wpList_load_g rfl 27 _ rfl w.heap.size 0 rfl (hdV h) _ HH1.out Tryd.underlying27 rfl (by rw [HHV.out]; exact Tryd.size27) ?_ | refine wpList_load_g rfl 58 _ rfl wr.heap.size 0 rfl x.cs _ HXR.out Tryd.underlying58 rfl (by rw [Rec.cs_len HLX.out]; exact Tryd.size58) ?_ | fail)
      refine HNX.out.mono ?_
      rintro _ W2 ⟨rfl, hb2⟩
      have HB2 := hid (Bn HB1.out hb2)
      have h2 := (hb2.block _ (Array.getElem?_eq_some_iff.1 HH2.out).1).trans HH2.out
      have o2 := (hb2.block _ (Array.getElem?_eq_some_iff.1 HO2.out).1).trans HO2.out
      obtain ⟨N, hN⟩ : ∃ N, N = nxtH h x := ⟨_, rfl⟩
      have hNl : N.2.2.length = 32 := by rw [hN]; exact nxO_len _ _ _ _
      have HNL := hid hNl
      rw [show hdL (nxO h.1 h.2.1 h.2.2 x).1 (nxO h.1 h.2.1 h.2.2 x).2.1 (nxO h.1 h.2.1 h.2.2 x).2.2 = hdV N from by rw [hN]; rfl]
      have hbb := bel_alc W2 (.cells (hdV N).toArray 27)
      have HH3 := hid ((hbb.block _ (Array.getElem?_eq_some_iff.1 h2).1).trans h2)
      have HO3 := hid ((hbb.block _ (Array.getElem?_eq_some_iff.1 o2).1).trans o2)
      have HB3 := hid (Bn HB2.out hbb)
      have HR3 : Hid ((W2.alloc (.cells (hdV N).toArray 27)).rangeAt w.heap.size 0 (hdV h)) := fun j v hv => by
        rw [Nat.zero_add, Joins.cell_of_block HH3.out j, List.getElem?_toArray]
        exact hv
      have HN3 : Hid ((W2.alloc (.cells (hdV N).toArray 27)).rangeAt W2.heap.size 0 (hdV N)) := fun j v hv => by
        rw [Nat.zero_add, Joins.cell_of_block (heap_alc W2 _) j, List.getElem?_toArray]
        exact hv
      have HNV : Hid ((hdV N).length = 34) := hdL_len _ _ _ hNl
      have HZS : Hid ((hdL 0 0 z32).toArray.size = (hdV N).toArray.size) := by show _ = _; rw [List.size_toArray, List.size_toArray, HNV.out]; rfl
      have HHS : Hid ((hdV h).toArray.size = (hdV N).toArray.size) := by show _ = _; rw [List.size_toArray, List.size_toArray, HNV.out, HHV.out]
      have HZH : Hid ((hdL 0 0 z32).toArray.size = (hdV h).toArray.size) := by show _ = _; rw [List.size_toArray, List.size_toArray, HHV.out]; rfl
      have HSN : Hid ((Tryd.prog.info? 27).map (·.size) = some (hdV N).toArray.size) := size_hd hNl
      have HSH : Hid ((Tryd.prog.info? 27).map (·.size) = some (hdV h).toArray.size) := size_hd HHL2.out
      have HON := hid (all_oneCell_toArray (show ∀ u ∈ hdV N, u.oneCell' = true from hdL_one _ _ _))
      have HOH := hid (all_oneCell_toArray (show ∀ u ∈ hdV h, u.oneCell' = true from hdL_one _ _ _))
      have HST2 : Hid (RR = if fltO h.1 h.2.1 h.2.2 x = 0 then wlk N (l.drop (k + 1)) (k + 1) else (h, k, fltO h.1 h.2.1 h.2.2 x)) := by show _ = _; rw [hN]; exact HW.out.trans HST.out
      have HNX2 := hid hN
      clear hb2 h2 o2 hbb hN hNl HNX HH1 HXR HBX HH2 HO2 HB1 HST HRG
      generalize fltO h.1 h.2.1 h.2.2 x = F at *
      by_cases hF : F = 0
      · subst hF
        go_wp2_with (first | refine wpList_alloc_at rfl 27 rfl (some 9) rfl _ Tryd.zero27 W2.heap.size rfl ?_ | refine wpList_store_new rfl 27 _ _ rfl rfl W2 (hdL 0 0 z32).toArray (hdV N).toArray rfl rfl rfl HSN.out HZS.out HON.out ?_ | refine wpList_load_g rfl 27 _ rfl W2.heap.size 0 rfl (hdV N) _ HN3.out Tryd.underlying27 rfl (by rw [HNV.out]; exact Tryd.size27) ?_ | refine wpList_store_rowTo rfl 27 _ _ rfl rfl w.heap.size (hdV N).toArray rfl rfl 27 _ HH3.out HSN.out HHS.out HON.out ?_ | fail)
        go_round
        case rel => exact ⟨k + 1, N, by omega, by go_num, HNL, setRow_heap _ _ _ _ _ _ HH3.out, (other_setRow _ _ _ _ (by omega)).trans HO3.out, below_setRow HB3.out (Nat.le_refl _) _, by show _ = _; rw [HST2.out]; simp⟩
        case measure => simp [intOf]; omega
      · have HF0 := hid hF
        go_wp2_with (first | refine wpList_alloc_at rfl 27 rfl (some 9) rfl _ Tryd.zero27 W2.heap.size rfl ?_ | refine wpList_store_new rfl 27 _ _ rfl rfl W2 (hdL 0 0 z32).toArray (hdV N).toArray rfl rfl rfl HSN.out HZS.out HON.out ?_ | refine wpList_load_g rfl 27 _ rfl w.heap.size 0 rfl (hdV h) _ HR3.out Tryd.underlying27 rfl (by rw [HHV.out]; exact Tryd.size27) ?_ | refine wpList_store_rowTo rfl 27 _ _ rfl rfl (w.heap.size + 1) (hdV h).toArray rfl rfl 27 _ HO3.out HSH.out HZH.out HOH.out ?_ | fail)
        refine bodyPost_ret (results_row_tmp2 rfl _ _ (w.heap.size + 1) _ rfl (load_hd (setRow_heap _ _ _ _ _ _ HO3.out) HHL2.out)) rfl ?_
        exact ⟨by rw [HST2.out, if_neg HF0.out]; rfl, below_setRow HB3.out (by omega) _⟩
    · have hkl : k = len := by omega
      have hkz : ¬ (k : Int) < (len : Int) := by omega
      have HHV : Hid ((hdV h).length = 34) := hdL_len _ _ _ HHL2.out
      have HR3 : Hid (wr.rangeAt w.heap.size 0 (hdV h)) := fun j v hv => by
        rw [Nat.zero_add, Joins.cell_of_block HH.out j, List.getElem?_toArray]
        exact hv
      have HZH : Hid ((hdL 0 0 z32).toArray.size = (hdV h).toArray.size) := by show _ = _; rw [List.size_toArray, List.size_toArray, HHV.out]; rfl
      have HSH : Hid ((Tryd.prog.info? 27).map (·.size) = some (hdV h).toArray.size) := size_hd HHL2.out
      have HOH := hid (all_oneCell_toArray (show ∀ u ∈ hdV h, u.oneCell' = true from hdL_one _ _ _))
      have HEN : Hid (RR = (h, k, 0)) := by
        show _ = _
        rw [HW.out, List.drop_eq_nil_of_le (by rw [← HL.out]; omega), wlk]
      subst hkl
      go_wp2_with (first | refine wpList_load_g rfl 27 _ rfl w.heap.size 0 rfl (hdV h) _ HR3.out Tryd.underlying27 rfl (by rw [HHV.out]; exact Tryd.size27) ?_ | refine wpList_store_rowTo rfl 27 _ _ rfl rfl (w.heap.size + 1) (hdV h).toArray rfl rfl 27 _ HO.out HSH.out HZH.out HOH.out ?_ | fail)
      refine bodyPost_ret (results_row_tmp2 rfl _ _ (w.heap.size + 1) _ rfl (load_hd (setRow_heap _ _ _ _ _ _ HO.out) HHL2.out)) rfl ?_
      exact ⟨by rw [HEN.out]; rfl, below_setRow HB.out (by omega) _⟩
end Go.Proofs.YtplinkmagnihmaaDoor
