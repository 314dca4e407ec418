/-
  The contract of the document's Sum: the digest of all rows.
-/
import Derived.Test.YtgnjicpmfpgdeaaDoorShJa
namespace Go.Proofs.YtgnjicpmfpgdeaaDoor.Sh
open Go.RowKit Sha

set_option maxHeartbeats 3200000 in
set_option maxRecDepth 100000 in
theorem sum_ref (a : Option Addr) (cap : Nat) (l : List (List Nat)) (w : World) (hr : Ps w a cap l) (hbd : l.flatten.length ≤ 500000) :
    Calls Tryd.prog 71 #[.slice a l.length cap] w fun e w' => e = .returned (.agg (arr .u8 (digest l.flatten))) ∧ Below w.heap.size w w' := by
  have hroom := hr.room
  have hmost := hr.most
  unfold maxLen at hmost
  have HPS := hid hr
  have HFT := hid (flat_take l)
  have HFL := hid (flat_le l)
  have HTK : Hid (l.take l.length = l) := List.take_length
  clear hr
  generalize hnl : l.length = n at *
  have HNL := hid hnl
  clear hnl
  have b0 := bel_alloc w (.cells (arr .u8 z32) 38)
  have hres0 := heap_new w (.cells (arr .u8 z32) 38)
  have hsz0 : (w.alloc (.cells (arr .u8 z32) 38)).heap.size = w.heap.size + 1 := by simp
  go_enter Tryd.func71, Tryd.ntmps71
  go_wp2_with (refine wpList_alloc_at rfl 38 rfl (some 2) rfl (arr .u8 z32) Tryd.zero38 w.heap.size rfl ?_)
  generalize w.alloc (.cells (arr .u8 z32) 38) = w1 at *
  go_loopw [3, 4] (fun v i wr => ∃ k : Nat, k ≤ n ∧ i = .int .i64 k ∧ wr.ownsRow (w.heap.size + 1) 5 1 v (l.take k).flatten.length (V (l.take k).flatten) ∧ Below (w.heap.size + 1) w1 wr) (fun _ i _ => n - (intOf i).toNat)
  case atStart => exact ⟨0, by omega, rfl, World.ownsRow_nil _ _ _ _, Below.refl _ _⟩
  case round =>
    obtain ⟨k, hk, rfl, hown, hbel⟩ := hrel
    have hbw : Below w.heap.size w wr := b0.trans (hbel.mono (by omega))
    by_cases hlt : k < n
    · have hkn : (k : Int) < (n : Int) := by omega
      have HF := hid (HFT.out k hlt)
      have hle := HFL.out (k + 1)
      rw [HF.out, List.length_append] at hle
      obtain ⟨bb, off, rfl, hbb, hc⟩ := HPS.out.cells (by have := HNL.out; omega)
      obtain ⟨v, a', cap', hck, hrd⟩ := hc k (by have := HNL.out; omega)
      have hv := hrd.val
      subst hv
      have hck' : wr.cell? ⟨bb, off + k, none⟩ = some (.slice a' (l.getD k []).length cap') := (hbw.cell (p := ⟨bb, off + k, none⟩) hbb).trans hck
      have hrd' := hrd.later hbw
      clear hc hck hrd
      generalize l.getD k [] = y at *
      have hszr := hbel.size
      generalize (l.take k).flatten = fl at *
      go_wp2_with (at_builtin; refine app_any _ rfl _ _ rfl (w.heap.size + 1) _ fl rfl hown a' cap' y rfl hrd' (by omega) (by omega) ?_)
      intro v' w2 hown' hgrow
      have hb2 := hbel.grown hgrow (by omega) (fun j hj => (hown.lt j hj).1)
      have R : w2.ownsRow (w.heap.size + 1) 5 1 v' (l.take (k + 1)).flatten.length (V (l.take (k + 1)).flatten) := by
        rw [HF.out, List.length_append]; exact hown'
      clear hown hgrow hown'
      go_wp2
      exact ⟨⟨k + 1, by omega, by go_num, R, hb2⟩, by simp [intOf]; omega⟩
    · obtain rfl : k = n := by omega
      rw [HTK.out] at hown
      have hszr := hbel.size
      have hres : wr.heap[w.heap.size]? = some (.cells (arr .u8 z32) 38 (0, 0)) := by rw [hbel.block _ (by omega)]; exact hres0
      have hres0' := hres0
      have HFLT : Hid (∀ j, l.flatten.getD j 0 < 256) := HPS.out.lt
      clear HFT HFL HPS hres0
      generalize hfl : l.flatten = fl at *
      have HFLE := hid hfl
      clear hfl HTK
      obtain ⟨aa, ca, rfl⟩ := own_slice hown
      have hN : fl.length < 2 ^ 64 := by omega
      have HPD := hid (fun W : World => pad_ref fl.length W hN)
      have hpl := pad_length fl.length
      have HPL := hid (pad_lt fl.length)
      have HAL' := hid (getD_app fl (pad fl.length) HFLT.out HPL.out)
      generalize hpd : pad fl.length = pd at *
      have HPDE := hid hpd
      clear hpd
      generalize hfn : fl.length = fn at *
      have HFN := hid hfn
      clear hfn
      have hfi : ((fn : Int) : Int) % 18446744073709551616 = (fn : Int) := by omega
      go_wp2_with fail
      go_at_call 84
      refine (HPD.out _).mono ?_
      rintro _ w2 ⟨pv, rfl, hpo, hpb⟩
      obtain ⟨pg, pc, rfl, hpg, hprd⟩ := rd_own hpo (by omega) HPL.out
      have hown2 := own_later hown hpb
      have hb2 : Below (w.heap.size + 1) w1 w2 := hbel.trans (hpb.mono (by omega))
      have hsz2 := hpb.size
      clear hpo hown
      have hown2' : w2.ownsRow (w.heap.size + 1) 5 1 (.slice aa fn ca) fl.length (V fl) := by rw [HFN.out]; exact hown2
      clear hown2
      have hpl1 := hpl.2.2
      have hl1 : fl.length ≤ 500000 := by have := HFN.out; omega
      go_wp2_with (at_builtin; refine app_any _ rfl _ _ rfl (w.heap.size + 1) _ fl rfl hown2' _ pc pd rfl hprd (by omega) (by omega) ?_)
      intro v' w3 hown3 hgrow
      have hb3 : Below (w.heap.size + 1) w1 w3 := hb2.grown hgrow (by omega) (fun j hj => (hown2'.lt j hj).1)
      have hsz3 := hb3.size
      have hown4 : w3.ownsRow (w.heap.size + 1) 5 1 v' (fl ++ pd).length (V (fl ++ pd)) := by first | exact hown3 | (rw [List.length_append]; exact hown3)
      have hlen : (fl ++ pd).length = fn + pd.length := by rw [List.length_append, HFN.out]
      have HDG : Hid (digest fl = Sha.bytes (blocks ((fl ++ pd).length / 64) (fl ++ pd) Sha.start)) := by
        rw [digest, HFN.out, HPDE.out]
        exact rfl
      have HAL := HAL'
      clear HAL'
      generalize hal : fl ++ pd = al at *
      obtain ⟨ag, ac, rfl, hag, hard⟩ := rd_own hown4 (by omega) HAL.out
      have hres3 : w3.heap[w.heap.size]? = some (.cells (arr .u8 z32) 38 (0, 0)) := by rw [hb3.block _ (by omega)]; exact hres0'
      have HLEN := hid hlen
      have hal0 : 0 < al.length := by omega
      clear hlen
      clear hown3 hown4 hgrow hown2' hprd hb2 hpb hbel hres hpl1 hl1 hal hpg
      go_wp2_with fail
      go_at_call 85
      refine (start_ref _).mono ?_
      rintro _ w4 ⟨rfl, hb4⟩
      have hgS : w.heap.size < w4.heap.size := by have := hb4.size; omega
      have hagS : ag < w4.heap.size := by
        obtain ⟨b, off, hb, hlt, _⟩ := hard.cells (by omega)
        injection hb with hb
        injection hb with h1 h2
        subst h1
        have := hb4.size
        omega
      have hgC : (w4.alloc (.cells (arr .u32 z8) 118)).heap[w4.heap.size]? = some (.cells (arr .u32 z8) 118 (0, 0)) := heap_new _ _
      have hbw3 : Below w.heap.size w w3 := b0.trans (hb3.mono (by omega))
      have hM : MemS w ((w4.alloc (.cells (arr .u32 z8) 118)).setRow w4.heap.size (arr .u32 Sha.start.list)) w4.heap.size ag ac al Sha.start := by
        have hb5 : Below w4.heap.size w4 ((w4.alloc (.cells (arr .u32 z8) 118)).setRow w4.heap.size (arr .u32 Sha.start.list)) := below_setRow (bel_alloc _ _) (Nat.le_refl _) _
        have hb6 := Bn hb4 hb5
        refine ⟨?_, setRow_heap _ _ _ _ _ _ hgC, hard.later hb6, Bn hbw3 hb6⟩
        rw [hb6.block _ (by omega)]; exact hres3
      go_wp2_with (first
        | (refine wpList_alloc_at rfl 118 rfl (some 5) rfl (arr .u32 z8) Tryd.zero118 w4.heap.size rfl ?_)
        | (refine wpList_store_rowTo rfl 118 _ _ rfl rfl w4.heap.size (arr .u32 Sha.start.list) rfl rfl 118 _ hgC Tryd.size118 rfl (arr_one _ _) ?_))
      generalize (w4.alloc (.cells (arr .u32 z8) 118)).setRow w4.heap.size (arr .u32 Sha.start.list) = w5 at *
      generalize w4.heap.size = gS at *
      obtain ⟨M, hMM⟩ : ∃ M, al.length = 64 * M := ⟨al.length / 64, by have := HLEN.out; omega⟩
      have HBL : Hid (∀ j, al.getD j 0 < 256) := HAL
      have HD2 : Hid (digest fl = Sha.bytes (blocks M al Sha.start)) := by
        rw [HDG.out, hMM, Nat.mul_div_cancel_left _ (by decide)]; exact rfl
      have hMb : M ≤ 100000 := by have := HLEN.out; omega
      have HSN := hid (fun m => blocksG_snoc Sha.step m al Sha.start)
      have HOK := hid (fun m => blocks_ok m al Sha.start start_ok)
      have HMM := hid hMM
      generalize hall : al.length = aln at *
      have HMA := hid hMM
      clear HMM
      have HALL := hid hall
      have haln : aln ≤ 600000 := by have := HLEN.out; omega
      clear HLEN hpl HFN HPDE hfi hN
      clear hMM
      clear HDG hgC hard hres3 hb4 hb3 hbw3 HPD HPL HAL hall
      go_loopw [6] (fun i wr => ∃ m : Nat, m ≤ M ∧ i = .int .i64 (64 * (m : Int)) ∧ MemS w wr gS ag ac al (blocks m al Sha.start)) (fun i _ => 64 * M + 64 - (intOf i).toNat)
      case atStart => exact ⟨0, by omega, rfl, hM⟩
      case round =>
        obtain ⟨m, hm, rfl, hM⟩ := hrel
        by_cases hmM : m < M
        · have hcond : 64 * (m : Int) + 64 ≤ (aln : Int) := by have := HMA.out; omega
          have hma : 64 * m + 64 ≤ aln := by omega
          have HM := hid hM
          clear hM
          have hgB := heap_new wr (.cells (arr .u8 z64) 82)
          have hM1b := bel_alloc wr (.cells (arr .u8 z64) 82)
          have hM1 := HM.out.later hM1b
          go_wp2_with (refine wpList_alloc_at rfl 82 rfl (some 7) rfl (arr .u8 z64) Tryd.zero82 wr.heap.size rfl ?_)
          generalize hwr2 : wr.alloc (.cells (arr .u8 z64) 82) = wr2 at *
          clear hwr2
          obtain ⟨ab0, ao0, hae0, hag0, _⟩ := HM.out.rd.cells (by rw [HALL.out]; omega)
          injection hae0 with hae0
          injection hae0 with hae01 hae02
          subst hae01
          clear hae02
          have hg1 : w.heap.size < wr.heap.size := (Array.getElem?_eq_some_iff.1 HM.out.res).1
          have hg2 : gS < wr.heap.size := (Array.getElem?_eq_some_iff.1 HM.out.sv).1
          generalize hgBn : wr.heap.size = gB at *
          clear hgBn
          have hbl64 : ((al.drop (64 * m)).take 64).length = 64 := by rw [List.length_take, List.length_drop, HALL.out]; omega
          have HBG := hid (blk_get al (64 * m))
          have HBLT := hid (blk_lt al HBL.out (64 * m))
          have HNX := hid (HSN.out m)
          generalize hblk : (al.drop (64 * m)).take 64 = bk at *
          have HM1 := hid hM1
          go_loopw [8] (fun i wq => ∃ k : Nat, k ≤ 64 ∧ i = .int .i64 k ∧ MemS w wq gS ag ac al (blocks m al Sha.start) ∧ wq.heap[gB]? = some (.cells (arr .u8 (fillL 64 bk k)) 82 (0, 0))) (fun i _ => 64 - (intOf i).toNat)
          case atStart => exact ⟨0, by omega, rfl, HM1.out, by rw [fillL_zero]; exact hgB⟩
          case round =>
            obtain ⟨q, hq, rfl, hMq, hgq⟩ := hrel
            by_cases hq64 : q < 64
            · have hq' : (q : Int) < 64 := by omega
              obtain ⟨ab, ao, hae, habw, hac⟩ := hMq.rd.cells (by rw [HALL.out]; omega)
              injection hae with hae
              injection hae with hae1 hae2
              subst hae1 hae2
              have ca := hac (64 * m + q) (by rw [HALL.out]; omega)
              rw [Nat.zero_add, ← HBG.out q hq64] at ca
              have hfl := fillL_length 64 bk q hbl64 (by omega)
              have cb := (Joins.cell_of_block hgq q).trans (arr_get .u8 _ q (by omega))
              have fz := Joins.unfrozen_of_block hgq q
              have hput := Joins.block_setCell hgq (i := q) (.int .u8 ((bk.getD q 0 : Nat) : Int))
              rw [arr_set, fillL_set 64 bk q hbl64 hq64] at hput
              have hblt := HBLT.out q
              have HP := hid hput
              have HMq := hid hMq
              have HGQ := hid hgq
              clear hac hput hMq hgq hfl
              generalize bk.getD q 0 = bq at *
              generalize (fillL 64 bk q).getD q 0 = old at *
              have hMn := HMq.out.keep ((Below.refl gB wr).setCell (p := ⟨gB, q, none⟩) (Nat.le_refl _) (.int .u8 (bq : Int))) hg1 hg2 hag0
              have HMn := hid hMn
              clear hMn
              go_wp2
              exact ⟨⟨q + 1, by omega, by go_num, HMn.out, HP.out⟩, by simp [intOf]; omega⟩
            · obtain rfl : q = 64 := by omega
              rw [fillL_full 64 bk hbl64] at hgq
              have hsv := hMq.sv
              have hok := HOK.out m
              have HST := hid (fun W : World => step_ref (blocks m al Sha.start) bk W hok hbl64 HBLT.out)
              have HNX2 : Hid (blocks (m + 1) al Sha.start = Sha.step (blocks m al Sha.start) bk) := HNX.out
              have HMq := hid hMq
              clear hMq HNX
              have hsz8 : (arr .u32 (blocks m al Sha.start).list).size = 8 := arr_size _ _
              have hsz64 : (arr .u8 bk).size = 64 := (arr_size _ _).trans hbl64
              generalize blocks m al Sha.start = sm at *
              go_wp2_with (first
                | (refine wpList_load_row rfl 118 _ rfl gS rfl 118 (arr .u32 sm.list) (0, 0) _ hsv Tryd.underlying118 rfl (by rw [hsz8]; exact Tryd.size118) ?_)
                | (refine wpList_load_row rfl 82 _ rfl gB rfl 82 (arr .u8 bk) (0, 0) _ hgq Tryd.underlying82 rfl (by rw [hsz64]; exact Tryd.size82o) ?_))
              go_at_call 86
              refine (HST.out _).mono ?_
              rintro _ w7 ⟨rfl, hb7⟩
              have hM7 := HMq.out.later hb7
              have hsv7 := hM7.sv
              have hM8 : MemS w (w7.setRow gS (arr .u32 (Sha.step sm bk).list)) gS ag ac al (Sha.step sm bk) := by
                refine ⟨?_, setRow_heap _ _ _ _ _ _ hsv7, ⟨hM7.rd.val, hM7.rd.room, hM7.rd.most, fun h0 => ?_, hM7.rd.hi, hM7.rd.nil⟩, below_setRow hM7.bel (by omega) _⟩
                · rw [setRow_other _ _ _ _ (by omega)]; exact hM7.res
                · obtain ⟨b, off, ha, hbw, hc⟩ := hM7.rd.cells h0
                  injection ha with ha'
                  injection ha' with hb1 hb2
                  subst hb1 hb2
                  refine ⟨ag, 0, rfl, by simpa [World.setRow] using hbw, fun j hj => ?_⟩
                  rw [World.cell?_of_block (w := w7) (setRow_other _ _ _ _ (show ag ≠ gS by omega))]
                  exact hc j hj
              have HM8 := hid hM8
              have hszS : (arr .u32 (Sha.step sm bk).list).size = 8 := arr_size _ _
              clear hM8 hM7
              go_wp2_with (refine wpList_store_rowTo rfl 118 _ _ rfl rfl gS (arr .u32 (Sha.step sm bk).list) rfl rfl 118 _ hsv7 (by rw [hszS]; exact Tryd.size118) (by rw [hszS]; exact hsz8) (arr_one _ _) ?_)
              clear hsv7
              generalize hW8 : w7.setRow gS (arr .u32 (Sha.step sm bk).list) = W8 at *
              clear hW8
              go_wp2
              exact ⟨⟨m + 1, by omega, by go_num, by rw [HNX2.out]; exact HM8.out⟩, by simp [intOf]; omega⟩
        · obtain rfl : m = M := by omega
          have hcond : ¬ 64 * (m : Int) + 64 ≤ (aln : Int) := by have := HMA.out; omega
          have hsv := hM.sv
          have hres := hM.res
          have hbel := hM.bel
          have HBY := hid (fun W : World => bytes_ref (blocks m al Sha.start) W (HOK.out m))
          rw [← HD2.out] at HBY
          have HM := hid hM
          have hsz8 : (arr .u32 (blocks m al Sha.start).list).size = 8 := arr_size _ _
          clear hM
          go_wp2_with (refine wpList_load_row rfl 118 _ rfl gS rfl 118 (arr .u32 (blocks m al Sha.start).list) (0, 0) _ hsv Tryd.underlying118 rfl (by rw [hsz8]; exact Tryd.size118) ?_)
          go_at_call 87
          refine (HBY.out _).mono ?_
          rintro _ w7 ⟨rfl, hb7⟩
          have hM7 := HM.out.later hb7
          have hres7 := hM7.res
          have hbel7 := hM7.bel
          have hsz32 : (arr .u8 (digest fl)).size = 32 := by rw [HD2.out]; exact arr_size _ _
          clear hM7
          go_wp2_with (refine wpList_store_rowTo rfl 38 _ _ rfl rfl w.heap.size (arr .u8 (digest fl)) rfl rfl 38 _ hres7 (by rw [hsz32]; exact Tryd.size38) (by rw [hsz32]; rfl) (arr_one _ _) ?_)
          refine bodyPost_ret (results_cell_row (ty := 38) rfl _ _ _ _ _ _ _ rfl (setRow_heap _ _ _ _ _ _ hres7) Tryd.underlying38 rfl (by rw [hsz32]; exact Tryd.size38)) rfl ?_
          exact ⟨by rw [HFLE.out], below_setRow hbel7 (Nat.le_refl _) _⟩
end Go.Proofs.YtgnjicpmfpgdeaaDoor.Sh
