/-
  The contract of the document's Bytes.
-/
import Derived.Test.YtgdlmhgjhmcilaaByt
namespace Go.Proofs.Ytgdlmhgjhmcilaa
open Go.RowKit Lz

theorem flt_chk (t : Tkz) (m : Int) (hm : 0 ≤ m) : fltZ t m = if chkZ t ≠ 0 then 60 else if m < t.1 then 61 else if 65536 - m < t.2.1 then 2 else 0 := by
  have hf := flt_kind t
  rcases kind_three t with k | k | k
  · have hc : chkZ t = 60 := by unfold chkZ; rw [if_pos k]
    unfold fltZ
    rw [if_pos k, hc, if_pos (by decide)]
  · have h1 := hf.1 k
    have hc : chkZ t = 0 := by unfold chkZ; rw [if_neg (by omega)]
    unfold fltZ
    rw [hc, if_neg (show ¬ kindZ t = 0 by omega), if_neg (show ¬ (kindZ t = 2 ∧ m < t.1) by omega), if_neg (show ¬ ((0 : Int) ≠ 0) by simp), if_neg (show ¬ m < t.1 by omega)]
    by_cases h : 65536 < m + t.2.1
    · rw [if_pos h, if_pos (by omega)]
    · rw [if_neg h, if_neg (by omega)]
  · have h1 := hf.2 k
    have hc : chkZ t = 0 := by unfold chkZ; rw [if_neg (by omega)]
    unfold fltZ
    rw [hc, if_neg (show ¬ kindZ t = 0 by omega), if_neg (show ¬ ((0 : Int) ≠ 0) by simp)]
    by_cases h2 : m < t.1
    · rw [if_pos (show kindZ t = 2 ∧ m < t.1 from ⟨k, h2⟩), if_pos h2]
    · rw [if_neg (show ¬ (kindZ t = 2 ∧ m < t.1) from fun h => h2 h.2), if_neg h2]
      by_cases h : 65536 < m + t.2.1
      · rw [if_pos h, if_pos (by omega)]
      · rw [if_neg h, if_neg (by omega)]

set_option maxHeartbeats 1600000 in
set_option maxRecDepth 100000 in
theorem bytes_ref (a : Option Addr) (cap : Nat) (l : List Tkz) (w : World) (hr : Rt w a cap l) (hn : l.length ≤ 100000) :
    Calls Try.prog 22 #[.slice a l.length cap] w (BytPost l w) := by
  unfold BytPost
  have hroom := hr.room
  have hmost := hr.most
  unfold maxLen at hmost
  have HR := hid hr
  obtain ⟨len, hle⟩ : ∃ n, n = l.length := ⟨_, rfl⟩
  have HL := hid hle
  rw [← hle] at hn hroom ⊢
  have HF0 : Hid (bytesO l = bytF [] 0 (l.drop 0)) := rfl
  obtain ⟨i0, hi, hi0, hi1, hi2⟩ := info_parts Try.info5
  clear hr hle
  go_enter Try.func22, Try.ntmps22
  go_wp2
  go_loopw [5, 6] (fun x5 x6 wr => ∃ (k : Nat) (b : List Int), k ≤ len ∧ x6 = .int .i64 (k : Int) ∧ b.length ≤ 65536 ∧ Ob wr w.heap.size x5 b ∧ Below w.heap.size w wr ∧ Hid (bytesO l = bytF b k (l.drop k))) (fun _ x6 _ => len - (intOf x6).toNat)
  case atStart => exact ⟨0, [], by omega, rfl, by simp, ob_nil _ _, Below.refl _ _, HF0⟩
  case round =>
    clear HF0
    obtain ⟨k, b, hk, rfl, hbl, hown, hbel, HF⟩ := hrel
    by_cases hlt : k < len
    · have hkz : (k : Int) < (len : Int) := by omega
      obtain ⟨g, off, rfl, hbw, hc⟩ := HR.out.cells (by rw [← HL.out]; omega)
      obtain ⟨c0, c1, c2⟩ := hc k (by rw [← HL.out]; exact hlt)
      have d0 := (hbel.cell (p := ⟨g, off + k * 3, none⟩) hbw).trans c0
      have d1 := (hbel.cell (p := ⟨g, off + k * 3 + 1, none⟩) hbw).trans c1
      have d2 := (hbel.cell (p := ⟨g, off + k * 3 + 2, none⟩) hbw).trans c2
      have HFT := hid (check_ref (l.getD k tk0) (wr.alloc (.cells (zC (l.getD k tk0)) 23)))
      have HFC := hid (flt_chk (l.getD k tk0) (b.length : Int) (by omega))
      have HFZ := hid (fun h => flt_zero (t := l.getD k tk0) (m := (b.length : Int)) h)
      have HGL := hid (fun h => grow_len (t := l.getD k tk0) (b := b) h)
      have HGZ : Hid (growZ b (l.getD k tk0) = if (l.getD k tk0).1 = 0 then b ++ [(l.getD k tk0).2.2] else cpyL b (l.getD k tk0).1.toNat (l.getD k tk0).2.1.toNat) := rfl
      have HDR : Hid (bytesO l = if fltZ (l.getD k tk0) b.length = 0 then bytF (growZ b (l.getD k tk0)) (k + 1) (l.drop (k + 1)) else ([], (k : Int), fltZ (l.getD k tk0) b.length)) := by
        show _ = _
        rw [HF.out, drop_getD l k (by rw [← HL.out]; exact hlt)]
        rfl
      have hft := HR.out.fits k (by rw [← HL.out]; exact hlt)
      have hcs := chk_or (l.getD k tk0)
      clear hc c0 c1 c2 HF
      generalize l.getD k tk0 = t at *
      have hv5 : ∃ (a5 : Option Addr) (c5 : Nat), u5 = .slice a5 b.length c5 := by
        rcases hown.2 with ⟨hv, h0⟩ | ⟨g', cap', cur', hv, _⟩
        · exact ⟨none, 0, by rw [hv, h0]⟩
        · exact ⟨some ⟨g', 0, none⟩, cap', hv⟩
      obtain ⟨a5, c5, rfl⟩ := hv5
      obtain ⟨d, n, x⟩ := t
      unfold zC at HFT
      dsimp only at *
      have hdw := wf_i64 hft.1
      have hnw := wf_i64 hft.2.1
      have HOB := hid (own_block hown)
      have hbA := bel_alloc wr (.cells #[.int .i64 d, .int .i64 n, .int .u8 x] 23)
      have HOA := hid (hown.alloc (.cells #[.int .i64 d, .int .i64 n, .int .u8 x] 23))
      have HBA := hid (Bn hbel hbA)
      have e0 : (wr.alloc (.cells #[.int .i64 d, .int .i64 n, .int .u8 x] 23)).heap[wr.heap.size]? = some (.cells #[.int .i64 d, .int .i64 n, .int .u8 x] 23 (0, 0)) := heap_new _ _
      have HE0 := hid e0
      obtain ⟨bn, hbn⟩ : ∃ bn, bn = b.length := ⟨_, rfl⟩
      have HBN := hid hbn
      rw [← hbn] at HFC HFZ hbl HDR ⊢
      rw [← hbn] at HOA HOB
      generalize hf : fltZ (d, n, x) (bn : Int) = f at *
      have HFE := hid hf
      generalize chkZ (d, n, x) = c at *
      clear hbA e0 hbel hown hbn hft hf
      go_wp2_with fail
      refine HFT.out.mono ?_
      rintro _ w2 ⟨rfl, hb2⟩
      have e2 := (hb2.block wr.heap.size (by simp)).trans HE0.out
      have m0 := Joins.cell_of_block e2 0
      have m1 := Joins.cell_of_block e2 1
      have m2 := Joins.cell_of_block e2 2
      simp only [List.getElem?_toArray, List.getElem?_cons_zero, List.getElem?_cons_succ] at m0 m1 m2
      have HO2 := hid (own_later HOA.out hb2)
      have HB2 := hid (Bn HBA.out hb2)
      have HE2 := hid e2
      have hsz2 : wr.heap.size < w2.heap.size := by have := hb2.size; simp at this; omega
      clear hb2 HFT e2 HE0 HOA HBA d0 d1 d2
      rcases hcs with hc0 | hc0
      · rw [if_neg (by omega)] at HFC
        rw [hc0]
        clear hc0
        by_cases h61 : (bn : Int) < d
        · rw [if_pos h61] at HFC
          rw [HFC.out, if_neg (by decide)] at HDR
          go_wp2
          go_ret3
          exact ⟨.slice none 0 0, by rw [HDR.out]; rfl, by rw [HDR.out]; exact ob_nil _ _, HB2.out⟩
        · rw [if_neg h61] at HFC
          by_cases h2 : 65536 - (bn : Int) < n
          · rw [if_pos h2] at HFC
            rw [HFC.out, if_neg (by decide)] at HDR
            go_wp2
            go_ret3
            exact ⟨.slice none 0 0, by rw [HDR.out]; rfl, by rw [HDR.out]; exact ob_nil _ _, HB2.out⟩
          · rw [if_neg h2] at HFC
            rw [if_pos HFC.out] at HDR
            have hz := HFZ.out HFC.out
            have hgl := HGL.out (by rw [← HBN.out, HFE.out]; exact HFC.out)
            have hwb := HB2.out.size
            rcases hz with ⟨hd0, hn1, hm⟩ | ⟨hd1, hd2, hn1, hn2, hdm, hm⟩
            · rw [if_pos hd0] at HGZ
              have hdb : (d == 0) = true := by simpa using hd0
              have hdz : ¬ (bn : Int) < d := h61
              have hOW := HO2.out
              clear hd0 hn1 HFZ HGL hm
              go_wp2_with (at_builtin; refine wpList_append_own _ rfl _ _ 33 rfl w.heap.size 5 i0 (.int .u8 0) 1 1 Try.underlying33 hi hi0 hi1 hi2 rfl (by decide) _ _ _ rfl (hOW.alloc _) ⟨w2.heap.size, 0, none⟩ 1 1 [.int .u8 x] rfl rfl (one_new w2 (.int .u8 x) 5) (one_cell _ _) (by unfold maxLen; omega) (by omega) (by simp; omega) ?_)
              intro v' w3 hown3 hgrow3 _
              have HB3 : Hid (Below w.heap.size w w3) := (Bn HB2.out (bel_alloc w2 (.cells #[.int .u8 x] 5))).grown hgrow3 (by simp; omega) (fun g hg => (HOB.out g hg).1)
              have HO3 : Hid (Ob w3 w.heap.size v' (growZ b (d, n, x))) := by
                show World.ownsRow _ _ _ _ _ _ _
                rw [HGZ.out, List.length_append, List.map_append, ← HBN.out]
                exact hown3
              clear hown3 hgrow3 hOW m0 m1 m2
              go_wp2
              exact ⟨⟨k + 1, _, by omega, by go_num, hgl.1, HO3.out, HB3.out, HDR⟩, by simp [intOf]; omega⟩
            · rw [if_neg (by omega)] at HGZ
              have hdb : (d == 0) = false := by simp; omega
              obtain ⟨D, hD⟩ : ∃ D : Nat, d = (D : Int) := ⟨d.toNat, by omega⟩
              obtain ⟨N, hN⟩ : ∃ N : Nat, n = (N : Int) := ⟨n.toNat, by omega⟩
              subst hD
              subst hN
              simp only [Int.toNat_natCast] at HGZ
              have hDb : D ≤ bn := by omega
              have hD1 : 1 ≤ D := by omega
              have hNm : bn + N ≤ 65536 := by omega
              have HLEN : Hid (∀ j, (cpyL b D j).length = bn + j) := fun j => by rw [HBN.out]; exact cpyL_len b D j
              have HOA : Hid (Ob w2 w.heap.size (.slice a5 bn c5) (cpyL b D 0)) := by
                show World.ownsRow _ _ _ _ _ _ _
                rw [show (cpyL b D 0).length = bn from by rw [HBN.out]; rfl]
                exact HO2.out
              obtain ⟨tb, htb⟩ : ∃ tb, tb = wr.heap.size := ⟨_, rfl⟩
              rw [← htb] at HE2 hsz2 m0 m1 m2 ⊢
              have htw : w.heap.size ≤ w2.heap.size := hwb
              have q1 : decide (bn < D) = false := by simp; omega
              have q2 : decide ((65536 : Int) - (bn : Int) < (N : Int)) = false := by simp; omega
              clear htb hdm hm hd1 hd2 hn1 hn2 HFZ HGL HO2
              go_wp2_with fail
              clear m0 m1 m2
              go_loopw [5, 8] (fun y5 y8 wi => ∃ j : Nat, j ≤ N ∧ y8 = .int .i64 (j : Int) ∧ Ob wi w.heap.size y5 (cpyL b D j) ∧ wi.heap[tb]? = some (.cells #[.int .i64 (D : Int), .int .i64 (N : Int), .int .u8 x] 23 (0, 0)) ∧ Below w.heap.size w wi) (fun _ y8 _ => N - (intOf y8).toNat)
              case atStart => exact ⟨0, by omega, rfl, HOA.out, HE2.out, HB2.out⟩
              case round =>
                clear HOA HE2 HB2
                obtain ⟨j, hj, rfl, hown, htb, hbel⟩ := hrel
                have hlen := HLEN.out j
                have m0 := Joins.cell_of_block htb 0
                have m1 := Joins.cell_of_block htb 1
                simp only [List.getElem?_toArray, List.getElem?_cons_zero, List.getElem?_cons_succ] at m0 m1
                by_cases hlt : j < N
                · have hjz : (j : Int) < (N : Int) := by omega
                  have HST : Hid (cpyL b D (j + 1) = cpyL b D j ++ [(cpyL b D j).getD ((cpyL b D j).length - D) 0]) := rfl
                  have hob := own_block hown
                  have hne : u5.ownBlock ≠ some tb := fun e => by
                    rcases hown.2 with ⟨hv, _⟩ | ⟨g', cap', cur', hv, _, hg', _⟩
                    · rw [hv] at e; cases e
                    · rw [hv] at e
                      simp only [Value.ownBlock, Option.some.injEq] at e
                      rw [e, htb] at hg'
                      cases hg'
                  obtain ⟨L, hL⟩ : ∃ L, L + 1 = (cpyL b D j).length := ⟨bn + j - 1, by omega⟩
                  obtain ⟨gg, gcap, rfl⟩ := ownsRow_succ (k := L) (by rw [hL]; exact hown)
                  obtain ⟨i, hi'⟩ : ∃ i, i = (cpyL b D j).length - D := ⟨_, rfl⟩
                  rw [← hi'] at HST
                  have ci : wr.cell? ⟨gg, i, none⟩ = some (.int .u8 ((cpyL b D j).getD i 0)) := by
                    have hown' := hown
                    rw [hL] at hown'
                    rw [hown'.cellAt i (by omega), List.getElem?_map, List.getElem?_eq_getElem (by omega)]
                    simp [List.getD, List.getElem?_eq_getElem (show i < (cpyL b D j).length by omega)]
                  obtain ⟨M, hM⟩ : ∃ M, M = L + 1 := ⟨_, rfl⟩
                  rw [← hM] at hown hL hob hne ⊢
                  have hiz : (M : Int) - (D : Int) = (i : Int) := by omega
                  have hiM : i < M := by omega
                  have hMl : M ≤ 65536 := by omega
                  have htl := (Array.getElem?_eq_some_iff.1 htb).1
                  have HTB := hid htb
                  have HBEL := hid hbel
                  have HOB2 := hid hob
                  have HNE := hid hne
                  have hwb2 := hbel.size
                  have HLM : Hid ((cpyL b D j).length = M) := hL.symm
                  generalize (cpyL b D j).getD i 0 = y at *
                  have hown2 : wr.ownsRow w.heap.size 5 1 (.slice (some ⟨gg, 0, none⟩) M gcap) M ((cpyL b D j).map (Value.int .u8)) := by
                    have h : wr.ownsRow w.heap.size 5 1 (.slice (some ⟨gg, 0, none⟩) M gcap) (cpyL b D j).length ((cpyL b D j).map (Value.int .u8)) := hown
                    rwa [HLM.out] at h
                  clear hM hL hob hne htb hbel hown hlen hi' HLEN
                  go_wp2_with (at_builtin; refine wpList_append_own _ rfl _ _ 33 rfl w.heap.size 5 i0 (.int .u8 0) 1 1 Try.underlying33 hi hi0 hi1 hi2 rfl (by decide) _ _ _ rfl (hown2.alloc _) ⟨wr.heap.size, 0, none⟩ 1 1 [.int .u8 y] rfl rfl (one_new wr (.int .u8 y) 5) (one_cell _ _) (by unfold maxLen; omega) (by omega) (by simp; omega) ?_)
                  intro v' w3 hown3 hgrow3 _
                  have HB3 : Hid (Below w.heap.size w w3) := (Bn HBEL.out (bel_alloc wr (.cells #[.int .u8 y] 5))).grown hgrow3 (by simp; omega) (fun g hg => (HOB2.out g hg).1)
                  have HT3 : Hid (w3.heap[tb]? = some (.cells #[.int .i64 (D : Int), .int .i64 (N : Int), .int .u8 x] 23 (0, 0))) :=
                    (hgrow3.block tb (by simp; omega) (fun e => HNE.out e.symm)).trans (heap_old _ _ HTB.out)
                  have HO3 : Hid (Ob w3 w.heap.size v' (cpyL b D (j + 1))) := by
                    show World.ownsRow _ _ _ _ _ _ _
                    rw [HST.out, List.length_append, List.map_append, HLM.out]
                    exact hown3
                  clear hown3 hgrow3 hown2 ci m0 m1 HOB2 HNE HBEL HTB
                  go_wp2
                  exact ⟨⟨j + 1, by omega, by go_num, HO3.out, HT3.out, HB3.out⟩, by simp [intOf]; omega⟩
                · obtain rfl : j = N := by omega
                  have hjz : ¬ (j : Int) < (j : Int) := by omega
                  have HOW := hid hown
                  have HBEL := hid hbel
                  clear hown hbel htb
                  go_wp2
                  exact ⟨⟨k + 1, _, by omega, by go_num, hgl.1, by rw [HGZ.out]; exact HOW.out, HBEL.out, HDR⟩, by simp [intOf]; omega⟩
      · rw [if_pos (by omega)] at HFC
        rw [HFC.out, if_neg (by decide)] at HDR
        rw [hc0]
        clear hc0
        go_wp2
        go_ret3
        exact ⟨.slice none 0 0, by rw [HDR.out]; rfl, by rw [HDR.out]; exact ob_nil _ _, HB2.out⟩
    · obtain rfl : k = len := by omega
      have hkz : ¬ (k : Int) < (k : Int) := by omega
      have HO : Hid (bytesO l = (b, 0, 0)) := by
        show _ = _
        rw [HF.out, List.drop_eq_nil_of_le (by rw [← HL.out]; omega)]
        rfl
      go_wp2
      go_ret3
      exact ⟨_, by rw [HO.out]; rfl, by rw [HO.out]; exact hown, hbel⟩
end Go.Proofs.Ytgdlmhgjhmcilaa
