/-
  The Hash's digest, inside a Mac.
-/
import Derived.Test.YtkipepodgmfbnaaDoorMTake
namespace Go.Proofs.YtkipepodgmfbnaaDoor
open Go.RowKit Sha

set_option maxHeartbeats 4000000 in
set_option maxRecDepth 100000 in
theorem digestM_word (pre : List Value) (hp : pre.length = 64) (g : Nat) (msg op : List Nat) (w : World) (hlaid : Laid w) (hh : Hm pre w g msg op) (hbd : msg.length ≤ 1000000000000) :
    Calls Tryd.prog 42 #[.pointer (some ⟨g, 64, none⟩)] w fun e w' => e = .returned (.agg (arr .u8 (digest msg))) ∧ Below w.heap.size w w' := by
  have h2 := hlaid.two
  have hg : g < w.heap.size := (Array.getElem?_eq_some_iff.1 hh.blk).1
  have b1 := bel_alloc w (.cells (arr .u8 z32) 26)
  have e1 := heap_new w (.cells (arr .u8 z32) 26)
  have s1 : (w.alloc (.cells (arr .u8 z32) 26)).heap.size = w.heap.size + 1 := by simp
  have hh1 := hh.later b1
  have hrgM : (w.alloc (.cells (arr .u8 z32) 26)).rangeAt g 64 (hL (blocks (msg.length / 64) msg Sha.start) op msg.length) := by
    intro j v hv
    rw [Joins.cell_of_block hh1.blk (64 + j), List.getElem?_toArray, mL_get hp]
    exact hv
  have hlen := hL_length (blocks (msg.length / 64) msg Sha.start) op msg.length hh.len
  have hone := hL_one (blocks (msg.length / 64) msg Sha.start) op msg.length
  have HN := hid (hL_n (blocks (msg.length / 64) msg Sha.start) op msg.length hh.len)
  have HLD := hid hlaid
  have HH1 := hid hh1
  have b2 := bel_alloc (w.alloc (.cells (arr .u8 z32) 26)) (.cells ZH 65)
  have e2 := heap_new (w.alloc (.cells (arr .u8 z32) 26)) (.cells ZH 65)
  have s2 : ((w.alloc (.cells (arr .u8 z32) 26)).alloc (.cells ZH 65)).heap.size = w.heap.size + 1 + 1 := by simp
  rw [s1] at e2
  generalize hHL : hL (blocks (msg.length / 64) msg Sha.start) op msg.length = HL at *
  have HHL := hid hHL
  have hasz : (Tryd.prog.info? 65).map (·.size) = some HL.toArray.size := by rw [List.size_toArray, hlen]; exact Tryd.size65
  have hasl : (Tryd.prog.info? 65).map (·.size) = some HL.length := by rw [hlen]; exact Tryd.size65
  have hzs : ZH.size = HL.toArray.size := by rw [ZH_size, List.size_toArray, hlen]
  have e3 : (((w.alloc (.cells (arr .u8 z32) 26)).alloc (.cells ZH 65)).setRow (w.heap.size + 1) HL.toArray).heap[w.heap.size + 1]? = some (.cells HL.toArray 65 (0, 0)) := setRow_heap _ _ _ _ _ _ e2
  have c73 : (((w.alloc (.cells (arr .u8 z32) 26)).alloc (.cells ZH 65)).setRow (w.heap.size + 1) HL.toArray).cell? ⟨w.heap.size + 1, 73, none⟩ = some (.int .u64 (msg.length : Int)) := by
    rw [Joins.cell_of_block e3 73, List.getElem?_toArray]; exact HN.out
  have b3 : Below w.heap.size w (((w.alloc (.cells (arr .u8 z32) 26)).alloc (.cells ZH 65)).setRow (w.heap.size + 1) HL.toArray) := below_setRow (Bn b1 b2) (by omega) _
  have r3 : (((w.alloc (.cells (arr .u8 z32) 26)).alloc (.cells ZH 65)).setRow (w.heap.size + 1) HL.toArray).heap[w.heap.size]? = some (.cells (arr .u8 z32) 26 (0, 0)) := by
    rw [setRow_other _ _ _ _ (by omega), b2.block _ (by omega)]; exact e1
  have s3 : (((w.alloc (.cells (arr .u8 z32) 26)).alloc (.cells ZH 65)).setRow (w.heap.size + 1) HL.toArray).heap.size = w.heap.size + 1 + 1 := by simp [World.setRow]
  clear hh hh1 hlaid hHL
  go_enter Tryd.func42, Tryd.ntmps42
  go_wp2_with (first
    | (refine wpList_alloc_at rfl 26 rfl (some 2) rfl (arr .u8 z32) Tryd.zero26 w.heap.size rfl ?_)
    | (refine wpList_load_mid rfl 65 _ rfl g 64 rfl HL _ hrgM Tryd.underlying65 rfl hasl ?_)
    | (refine wpList_alloc_at rfl 65 rfl (some 3) rfl ZH Tryd.zero65 (w.heap.size + 1) (by simp) ?_)
    | (refine wpList_store_rowTo rfl 65 _ _ rfl rfl (w.heap.size + 1) HL.toArray rfl rfl 65 _ e2 hasz hzs hone ?_))
  have hh3 : Hs (((w.alloc (.cells (arr .u8 z32) 26)).alloc (.cells ZH 65)).setRow (w.heap.size + 1) HL.toArray) (w.heap.size + 1) msg op := ⟨by rw [HHL.out]; exact e3, HH1.out.len, HH1.out.lo, HH1.out.tk, HH1.out.hi⟩
  generalize hw3 : ((w.alloc (.cells (arr .u8 z32) 26)).alloc (.cells ZH 65)).setRow (w.heap.size + 1) HL.toArray = w3 at *
  have HH3 := hid hh3
  clear hw3 b1 b2 e1 e2 e3 s1 s2 hrgM hasl hasz hzs hone hlen hh3 HH1 HN c73
  have HPD := hid (fun W : World => pad_word msg.length W (by omega))
  have HPLT := hid (pad_lt msg.length)
  have hpl := pad_length msg.length
  have HDG : Hid (digest msg = Sha.bytes (blocks ((msg ++ pad msg.length).length / 64) (msg ++ pad msg.length) Sha.start)) := rfl
  generalize pad msg.length = pd at *
  go_at_call 53
  refine (HPD.out _).mono ?_
  rintro _ w4 ⟨pv, rfl, hpo, hpb⟩
  obtain ⟨pg, pc, rfl, hpg, hprd⟩ := rd_own hpo (by omega) HPLT.out
  have hh4 := HH3.out.later hpb
  have hz4 := hpb.size
  have hl4 := HLD.out.later (Bn b3 hpb)
  have r4 : w4.heap[w.heap.size]? = some (.cells (arr .u8 z32) 26 (0, 0)) := by rw [hpb.block _ (by omega)]; exact r3
  have b4 := Bn b3 hpb
  have HTK := hid (take_word (w.heap.size + 1) (some ⟨pg, 0, none⟩) pc pd msg op w4 hl4 (by omega) ⟨hprd, fun _ ad h => by injection h with h; rw [← h]; show pg ≠ _; omega⟩ hh4 (by omega))
  clear hpo hprd hh4 hl4 HPD r3 HH3 hpb
  go_wp2_with fail
  go_at_call 41
  refine (HTK.out).mono ?_
  rintro _ w5 ⟨⟨u5, rfl⟩, ⟨op5, hh5⟩, hg5⟩
  have hz5 := hg5.size
  have r5 : w5.heap[w.heap.size]? = some (.cells (arr .u8 z32) 26 (0, 0)) := by rw [hg5.block _ (by omega) (by intro h; injection h with h; omega)]; exact r4
  have b5 : Below w.heap.size w w5 := b4.grown hg5 (by omega) (fun k hk => by injection hk with hk; omega)
  have b6 := bel_alloc w5 (.cells (arr .u8 z32) 26)
  have e6 := heap_new w5 (.cells (arr .u8 z32) 26)
  have hh6 := hh5.later b6
  have hok := blocks_ok ((msg ++ pd).length / 64) (msg ++ pd) Sha.start start_ok
  have hrg : (w5.alloc (.cells (arr .u8 z32) 26)).rangeAt (w.heap.size + 1) 1 (lst .u32 (blocks ((msg ++ pd).length / 64) (msg ++ pd) Sha.start).list) := by
    intro j v hv
    rw [Joins.cell_of_block hh6.blk (1 + j), List.getElem?_toArray]
    exact hL_st _ _ _ _ _ hv
  have hM : MemD w (w5.alloc (.cells (arr .u8 z32) 26)) w5.heap.size (fillL 32 (Sha.bytes (blocks ((msg ++ pd).length / 64) (msg ++ pd) Sha.start)) (4 * 0)) := by
    refine ⟨by rw [b6.block _ (by omega)]; exact r5, ?_, Bn b5 b6⟩
    rw [Nat.mul_zero, fillL_zero]; exact e6
  have HM := hid hM
  have hgd : w.heap.size < w5.heap.size := by omega
  clear HTK hh5 hg5 r5 b5 b6 e6 hh6 r4 b4 hM b3 hpg
  generalize blocks ((msg ++ pd).length / 64) (msg ++ pd) Sha.start = sb at *
  have hsz8 : (Tryd.prog.info? 63).map (·.size) = some (lst .u32 sb.list).length := Tryd.size63
  go_wp2_with (first
    | (refine wpList_alloc_at rfl 26 rfl (some 4) rfl (arr .u8 z32) Tryd.zero26 w5.heap.size rfl ?_)
    | (refine wpList_load_mid rfl 63 _ rfl (w.heap.size + 1) 1 rfl (lst .u32 sb.list) _ hrg Tryd.underlying63 rfl hsz8 ?_))
  clear hrg hsz8
  generalize hw6 : w5.alloc (.cells (arr .u8 z32) 26) = w6 at *
  generalize w5.heap.size = gd at *
  clear hw6
  rw [arr_lst]
  go_loopw [18] (fun i wr => ∃ j : Nat, j ≤ 8 ∧ i = .int .i64 j ∧ MemD w wr gd (fillL 32 (Sha.bytes sb) (4 * j))) (fun i _ => 8 - (intOf i).toNat)
  case atStart => exact ⟨0, by omega, rfl, HM.out⟩
  case round =>
    obtain ⟨j, hj, rfl, hM⟩ := hrel
    by_cases hlt : j < 8
    · have hj8 : (j : Int) < 8 := by omega
      have d1 := fun W : World => run_index_arr (P := Tryd.prog) Tryd.underlying63 Tryd.underlying62 Tryd.size62 sb.list rfl j hlt W
      have hx := list_lt sb hok j
      have HFP := hid (four_part sb j hlt)
      have HFF := hid (fill_four (Sha.bytes sb) j (bytes_length sb) hlt)
      have hfl := fillL_length 32 (Sha.bytes sb) (4 * j) (bytes_length sb) (by omega)
      rw [HFP.out] at HFF
      generalize sb.list.getD j 0 = x at *
      have HBW := hid (fun W : World => Wd.bytes_word (x : Int) 32 1 4 W (by omega) (by omega) (by decide) (by decide) (by decide))
      have HFB := hid (four_bytes x)
      have HMj := hid hM
      clear hM HFP
      go_wp2_with fail
      go_at_call 33
      refine (HBW.out _).mono ?_
      rintro _ w7 ⟨pv7, rfl, hpo, hpb⟩
      rw [HFB.out, ints_length, V_ints] at hpo
      have h4 : (four x).length = 4 := rfl
      obtain ⟨pg7, pc7, rfl, hpg7, hprd7⟩ := rd_own hpo (by rw [h4]; decide) (four_lt x)
      have HP7 := hid hprd7
      have HB7 := hid hpb
      clear hpo hprd7 hpb HBW HFB
      have hsl := slice_digest gd j hlt
      have hdv7 : w7.heap[gd]? = some (.cells (lst .u8 (fillL 32 (Sha.bytes sb) (4 * j))).toArray 26 (0, 0)) := by
        rw [HB7.out.block _ (Array.getElem?_eq_some_iff.1 HMj.out.dv).1]; exact HMj.out.dv
      have hcp : (Builtin.copy_ #[22, 22] 3 #[.slice (some ⟨gd, 4 * j, none⟩) (32 - 4 * j) (32 - 4 * j), .slice (some ⟨pg7, 0, none⟩) 4 pc7]).run Tryd.prog w7 = .ok (.int .i64 4) (w7.setRow gd (arr .u8 (fillL 32 (Sha.bytes sb) (4 * (j + 1))))) := by
        have h := run_copy_row (P := Tryd.prog) w7 22 22 3 5 gd (4 * j) (32 - 4 * j) (32 - 4 * j) ⟨pg7, 0, none⟩ 4 pc7 _ 26 (lst .u8 (four x)) Tryd.underlying22 (by kernel_rfl) hdv7 (by rw [lst_length, h4]; show 4 = min 4 (32 - 4 * j); omega) (fun q v hv => ?_) (by rw [lst_length, h4, List.size_toArray, lst_length, hfl]; omega) (lst_one _ _)
        · rw [h, List.toList_toArray, List.append_assoc, ← arr_lst, ← HFF.out, ← lst_splice, splice, lst_length]
          rfl
        · have hq : q < (four x).length := by have := (List.getElem?_eq_some_iff.1 hv).1; rw [lst_length] at this; exact this
          obtain ⟨b, off, hb, _, hc⟩ := HP7.out.cells (by rw [h4]; decide)
          injection hb with hb
          injection hb with hb1 hb2
          subst hb1 hb2
          rw [Go.WideShapes.add_plain, hc q hq, ← hv]
          simp [lst, List.getD, List.getElem?_eq_getElem hq]
      have hM8 : MemD w (w7.setRow gd (arr .u8 (fillL 32 (Sha.bytes sb) (4 * (j + 1))))) gd (fillL 32 (Sha.bytes sb) (4 * (j + 1))) := by
        have hres : w.heap.size < wr.heap.size := (Array.getElem?_eq_some_iff.1 HMj.out.res).1
        refine ⟨?_, setRow_heap _ _ _ _ _ _ hdv7, below_setRow (Bn HMj.out.bel HB7.out) (by omega) _⟩
        rw [setRow_other _ _ _ _ (by omega), HB7.out.block _ hres]; exact HMj.out.res
      have HM8 := hid hM8
      clear hM8 hdv7 hfl
      go_wp2
      exact ⟨⟨j + 1, by omega, by go_num, HM8.out⟩, by simp [intOf]; omega⟩
    · obtain rfl : j = 8 := by omega
      rw [show 4 * 8 = 32 from rfl, fillL_full 32 _ (bytes_length sb), ← HDG.out] at hM
      have hres := hM.res
      have hdv := hM.dv
      have hbel := hM.bel
      have hsz : (arr .u8 (digest msg)).size = 32 := by rw [HDG.out]; exact arr_size _ _
      clear hM HM HDG
      go_wp2_with (first
        | (refine wpList_load_row rfl 26 _ rfl gd rfl 26 (arr .u8 (digest msg)) (0, 0) _ hdv Tryd.underlying26 rfl (by rw [hsz]; exact Tryd.size26) ?_)
        | (refine wpList_store_rowTo rfl 26 _ _ rfl rfl w.heap.size (arr .u8 (digest msg)) rfl rfl 26 _ hres (by rw [hsz]; exact Tryd.size26) (by rw [hsz]; rfl) (arr_one _ _) ?_))
      refine bodyPost_ret (results_cell_row (ty := 26) rfl _ _ _ _ _ _ _ rfl (setRow_heap _ _ _ _ _ _ hres) Tryd.underlying26 rfl (by rw [hsz]; exact Tryd.size26)) rfl ?_
      exact ⟨rfl, below_setRow hbel (Nat.le_refl _) _⟩

end Go.Proofs.YtkipepodgmfbnaaDoor
