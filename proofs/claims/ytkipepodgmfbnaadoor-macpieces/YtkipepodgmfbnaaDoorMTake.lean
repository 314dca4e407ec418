/-
  A Hash inside a Mac: its cells behind the 64 of the outer block, what it has taken, and the Hash's take there.
-/
import Derived.Test.YtkipepodgmfbnaaDoorMethods
import Derived.Test.YtkipepodgmfbnaaDoorMacBlock
namespace Go.Proofs.YtkipepodgmfbnaaDoor
open Go.RowKit Sha

/-- The cells of a Mac: the outer block, and the Hash. -/
def mL (pre : List Value) (s : St) (op : List Nat) (n : Nat) : List Value := pre ++ hL s op n
section
variable {pre : List Value} (hp : pre.length = 64)
include hp
theorem mL_length (s : St) (op : List Nat) (n : Nat) (h : op.length = 64) : (mL pre s op n).length = 138 := by rw [mL, List.length_append, hp, hL_length s op n h]
theorem mL_get (s : St) (op : List Nat) (n j : Nat) : (mL pre s op n)[64 + j]? = (hL s op n)[j]? := by rw [mL, List.getElem?_append_right (by omega), hp, Nat.add_sub_cancel_left]
theorem mL_made (s : St) (op : List Nat) (n : Nat) : (mL pre s op n)[64]? = some (.bool true) := mL_get hp s op n 0
theorem mL_st (s : St) (op : List Nat) (n j : Nat) (v : Value) (h : (lst .u32 s.list)[j]? = some v) : (mL pre s op n)[65 + j]? = some v := by
  rw [show 65 + j = 64 + (1 + j) from by omega, mL_get hp]; exact hL_st s op n j v h
theorem mL_op (s : St) (op : List Nat) (n j : Nat) (v : Value) (h : (lst .u8 op)[j]? = some v) : (mL pre s op n)[73 + j]? = some v := by
  rw [show 73 + j = 64 + (9 + j) from by omega, mL_get hp]; exact hL_op s op n j v h
theorem mL_n (s : St) (op : List Nat) (n : Nat) (ho : op.length = 64) : (mL pre s op n)[137]? = some (.int .u64 (n : Int)) := by
  rw [show 137 = 64 + 73 from rfl, mL_get hp]; exact hL_n s op n ho
theorem mL_set_n (s : St) (op : List Nat) (n m : Nat) (ho : op.length = 64) : (mL pre s op n).set 137 (.int .u64 (m : Int)) = mL pre s op m := by
  rw [mL, List.set_append_right _ _ (by omega), hp, show 137 - 64 = 73 from rfl, hL_set_n s op n m ho, mL]
theorem splice_app (L cs : List Value) (o : Nat) : splice (pre ++ L) (64 + o) cs = pre ++ splice L o cs := by
  rw [splice, splice, List.take_append, List.take_of_length_le (by omega), hp, Nat.add_sub_cancel_left, List.append_assoc, show 64 + o + cs.length = pre.length + (o + cs.length) from by omega, List.drop_length_add_append]
theorem mL_splice_st (s t : St) (op : List Nat) (n : Nat) : splice (mL pre s op n) 65 (lst .u32 t.list) = mL pre t op n := by
  rw [mL, show 65 = 64 + 1 from rfl, splice_app hp, hL_splice_st, mL]
theorem mL_splice_op (s : St) (op : List Nat) (n i : Nat) (l : List Nat) (h : i + l.length ≤ op.length) : splice (mL pre s op n) (73 + i) (lst .u8 l) = mL pre s (putL op i l) n := by
  rw [mL, show 73 + i = 64 + (9 + i) from by omega, splice_app hp, hL_splice_op s op n i l h, mL]
end

/-- The block g holds a Mac whose Hash has taken the bytes msg. -/
structure Hm (pre : List Value) (w : World) (g : Nat) (msg : List Nat) (op : List Nat) : Prop where
  blk : w.heap[g]? = some (.cells (mL pre (blocks (msg.length / 64) msg Sha.start) op msg.length).toArray 69 (0, 0))
  len : op.length = 64
  lo : ∀ j, op.getD j 0 < 256
  tk : op.take (msg.length % 64) = msg.drop (64 * (msg.length / 64))
  hi : ∀ j, msg.getD j 0 < 256
theorem Hm.later {pre : List Value} {w w' : World} {g : Nat} {msg op : List Nat} (h : Hm pre w g msg op) (hb : Below w.heap.size w w') : Hm pre w' g msg op :=
  ⟨by rw [hb.block g (Array.getElem?_eq_some_iff.1 h.blk).1]; exact h.blk, h.len, h.lo, h.tk, h.hi⟩

theorem hm_less {pre : List Value} {W : World} {g : Nat} {M op l : List Nat} (len : op.length = 64) (lo : ∀ j, op.getD j 0 < 256) (tk : op.take (M.length % 64) = M.drop (64 * (M.length / 64))) (hi : ∀ j, M.getD j 0 < 256) (hl : ∀ j, l.getD j 0 < 256) (hlt : M.length % 64 + l.length < 64)
    (hb : W.heap[g]? = some (.cells (mL pre (blocks (M.length / 64) M Sha.start) (putL op (M.length % 64) l) (M.length + l.length)).toArray 69 (0, 0))) : Hm pre W g (M ++ l) (putL op (M.length % 64) l) := by
  have e1 : (M ++ l).length = M.length + l.length := List.length_append
  have e2 : (M ++ l).length / 64 = M.length / 64 := by omega
  have e3 : (M ++ l).length % 64 = M.length % 64 + l.length := by omega
  refine ⟨?_, by rw [putL_length _ _ _ (by omega)]; exact len, putL_lt _ _ _ lo hl, ?_, getD_app _ _ hi hl⟩
  · rw [e2, blocks_app _ _ _ _ (by omega), e1]; exact hb
  · rw [e3, e2, putL_take _ _ _ (by omega), tk, List.drop_append_of_le_length (by omega)]

theorem hm_full {pre : List Value} {W : World} {g : Nat} {M op l : List Nat} (len : op.length = 64) (lo : ∀ j, op.getD j 0 < 256) (tk : op.take (M.length % 64) = M.drop (64 * (M.length / 64))) (hi : ∀ j, M.getD j 0 < 256) (hl : ∀ j, l.getD j 0 < 256) (heq : M.length % 64 + l.length = 64)
    (hb : W.heap[g]? = some (.cells (mL pre (Sha.step (blocks (M.length / 64) M Sha.start) (putL op (M.length % 64) l)) (putL op (M.length % 64) l) (M.length + l.length)).toArray 69 (0, 0))) : Hm pre W g (M ++ l) (putL op (M.length % 64) l) := by
  have e1 : (M ++ l).length = M.length + l.length := List.length_append
  have e2 : (M ++ l).length / 64 = M.length / 64 + 1 := by omega
  have e3 : (M ++ l).length % 64 = 0 := by omega
  have hpl : (putL op (M.length % 64) l).length = 64 := by rw [putL_length _ _ _ (by omega)]; exact len
  have e4 : putL op (M.length % 64) l = (M ++ l).drop (64 * (M.length / 64)) := by
    have h := putL_take op (M.length % 64) l (by omega)
    rw [heq, List.take_of_length_le (by omega)] at h
    rw [h, tk, List.drop_append_of_le_length (by omega)]
  refine ⟨?_, hpl, putL_lt _ _ _ lo hl, ?_, getD_app _ _ hi hl⟩
  · rw [e2, blocks_snoc, blocks_app _ _ _ _ (by omega), ← e4, List.take_of_length_le (by omega), e1]; exact hb
  · rw [e3, e2, List.take_zero, List.drop_eq_nil_of_le (by omega)]

theorem slice_openM (g L : Nat) (W : World) : (Instr.sliceAt 48 (.pointer (some ⟨g, 73, none⟩)) (some (.int .u64 ((L : Int) % 64))) none none).run Tryd.prog W = .ok (.slice (some ⟨g, 73 + L % 64, none⟩) (64 - L % 64) (64 - L % 64)) W := by
  have hlt : L % 64 < 64 := Nat.mod_lt _ (by decide)
  have h := run_sliceAt_array_l (P := Tryd.prog) W 48 ⟨g, 73, none⟩ Tryd.underlying48 .u64 ((L : Int) % 64) (by omega) (by show (L : Int) % 64 ≤ ((64 : Nat) : Int); omega)
  rw [h, show Tryd.prog.elem 48 = 5 from rfl, Tryd.sizeB, show Tryd.prog.arrayLen 48 = 64 from rfl, show ((L : Int) % 64).toNat = L % 64 from by omega]
  simp only [Result.andThen_ok, slicedAt]
  rw [if_neg (by omega)]
  simp [Addr.add]

set_option maxHeartbeats 4000000 in
set_option maxRecDepth 100000 in
theorem takeM_word (pre : List Value) (hp : pre.length = 64) (g : Nat) (a : Option Addr) (cap : Nat) (zs msg op : List Nat) (w : World) (hlaid : Laid w) (h2 : 2 ≤ g) (hr : Rx g w (.slice a zs.length cap) a cap zs) (hh : Hm pre w g msg op) (hbd : msg.length + zs.length ≤ 1099511627776) :
    Calls Tryd.prog 41 #[.pointer (some ⟨g, 64, none⟩), .slice a zs.length cap] w fun e w' => (∃ u, e = .returned u) ∧ (∃ op', Hm pre w' g (msg ++ zs) op') ∧ w.grownBy w' (some g) := by
  have HR := hid hr
  have HH := hid hh
  have HL := hid hlaid
  clear hr hh hlaid
  go_enter Tryd.func41, Tryd.ntmps41
  go_wp2_with fail
  go_loopw [1] (fun v wr => ∃ (i : Nat) (a' : Option Addr) (cap' : Nat) (ys op' : List Nat), i ≤ zs.length ∧ ys = zs.drop i ∧ v = .slice a' ys.length cap' ∧ Rx g wr (.slice a' ys.length cap') a' cap' ys ∧ Hm pre wr g (msg ++ zs.take i) op' ∧ w.grownBy wr (some g) ∧ Laid wr) (fun v _ => slen v)
  case atStart => exact ⟨0, a, cap, zs, op, by omega, rfl, rfl, HR.out, by rw [List.take_zero, List.append_nil]; exact HH.out, grown_refl _ _, HL.out⟩
  case round =>
    obtain ⟨i, a', cap', ys, op', hi, hys, rfl, hrx, hhs, hgr, hla⟩ := hrel
    have HYS := hid hys
    have hyl : ys.length + i ≤ zs.length := by rw [hys, List.length_drop]; omega
    have hyl' : zs.length ≤ ys.length + i := by rw [hys, List.length_drop]; omega
    clear hys
    by_cases h0 : ys.length = 0
    · have hzi : i = zs.length := by omega
      have HE : Hid (Hm pre wr g (msg ++ zs) op') := by
        have := hhs
        rw [hzi, List.take_length] at this
        exact this
      rw [h0]
      clear hhs hrx hyl h0
      go_wp2
      go_end0
      exact ⟨⟨_, rfl⟩, ⟨_, HE.out⟩, hgr⟩
    · have hcap := hrx.rd.room
      have hmost := hrx.rd.most
      unfold maxLen at hmost
      obtain ⟨bb, off, rfl, hbw, hcs⟩ := hrx.rd.cells (by omega)
      generalize hM : msg ++ zs.take i = M at *
      have hML : M.length ≤ 1099511627776 := by rw [← hM, List.length_append, List.length_take]; omega
      have hol := hhs.len
      have c73 : wr.cell? ⟨g, 137, none⟩ = some (.int .u64 (M.length : Int)) := by
        rw [Joins.cell_of_block hhs.blk 137, List.getElem?_toArray]; exact mL_n hp _ _ _ hol
      have f73 := Joins.unfrozen_of_block hhs.blk 137
      have HHS := hid hhs
      have HRX := hid hrx
      clear hhs hrx
      have hat : M.length % 64 < 64 := Nat.mod_lt _ (by decide)
      have hy0 : (0 : Int) < (ys.length : Int) := by omega
      have hsl := slice_openM g M.length
      generalize hk : min ys.length (64 - M.length % 64) = k at *
      have hk1 : 0 < k := by omega
      have hk2 : k ≤ ys.length := by omega
      have hk3 : M.length % 64 + k ≤ 64 := by omega
      have HK := hid hk
      clear hk
      have hlk : (lst .u8 (ys.take k)).length = k := by rw [lst_length, List.length_take]; omega
      obtain ⟨a2, cap2, hsv, hrx2⟩ := high_part HRX.out k hk2
      have hsh := slice_high (some ⟨bb, off, none⟩) ys.length cap' k hk2
      rw [hsv] at hsh
      have hblk := HHS.out.blk
      have hcur := mL_length hp (blocks (M.length / 64) M Sha.start) op' M.length hol
      have hcopy := mL_splice_op hp (blocks (M.length / 64) M Sha.start) op' M.length (M.length % 64) (ys.take k) (by rw [List.length_take, hol]; omega)
      have hsrc : ∀ (j : Nat) (v : Value), (lst .u8 (ys.take k))[j]? = some v → wr.cell? (Addr.add ⟨bb, off, none⟩ j) = some v := by
        intro j v hv
        have hj : j < k := by have := (List.getElem?_eq_some_iff.1 hv).1; omega
        rw [Go.WideShapes.add_plain, hcs j (by omega), ← hv]
        simp [lst, List.getD, hj, List.getElem?_eq_getElem (show j < ys.length from by omega)]
      have hcp : (Builtin.copy_ #[22, 22] 3 #[.slice (some ⟨g, 73 + M.length % 64, none⟩) (64 - M.length % 64) (64 - M.length % 64), .slice (some ⟨bb, off, none⟩) ys.length cap']).run Tryd.prog wr = .ok (.int .i64 (k : Int)) (wr.setRow g (mL pre (blocks (M.length / 64) M Sha.start) (putL op' (M.length % 64) (ys.take k)) M.length).toArray) := by
        have h := run_copy_row (P := Tryd.prog) wr 22 22 3 5 g (73 + M.length % 64) (64 - M.length % 64) (64 - M.length % 64) ⟨bb, off, none⟩ ys.length cap' _ 69 (lst .u8 (ys.take k)) Tryd.underlying22 (by kernel_rfl) hblk (by rw [hlk]; exact HK.out.symm) hsrc (by rw [hlk, List.size_toArray, hcur]; omega) (lst_one _ _)
        rw [h, List.toList_toArray, List.append_assoc, ← hcopy, splice, hlk]
        rfl
      have hsv2 := hsv
      have e2 : (wr.setRow g (mL pre (blocks (M.length / 64) M Sha.start) (putL op' (M.length % 64) (ys.take k)) M.length).toArray).heap[g]? = some (.cells (mL pre (blocks (M.length / 64) M Sha.start) (putL op' (M.length % 64) (ys.take k)) M.length).toArray 69 (0, 0)) := setRow_heap _ _ _ _ _ _ hblk
      have hpl : (putL op' (M.length % 64) (ys.take k)).length = 64 := by rw [putL_length _ _ _ (by rw [List.length_take, hol]; omega)]; exact hol
      have c73b : (wr.setRow g (mL pre (blocks (M.length / 64) M Sha.start) (putL op' (M.length % 64) (ys.take k)) M.length).toArray).cell? ⟨g, 137, none⟩ = some (.int .u64 (M.length : Int)) := by
        rw [Joins.cell_of_block e2 137, List.getElem?_toArray]; exact mL_n hp _ _ _ hpl
      have f73b := Joins.unfrozen_of_block e2 137
      have g1 := grown_setRow wr g (mL pre (blocks (M.length / 64) M Sha.start) (putL op' (M.length % 64) (ys.take k)) M.length).toArray
      have HPL := hid hpl
      have HE2 := hid e2
      have HG1 := hid g1
      have HRX2 := hid hrx2
      have HLK := hid hlk
      have HOL := hid hol
      have HHI := hid (HRX.out.rd.hi)
      clear hsv hsv2 hcopy hcur hblk hlk hsrc hcs hrx2 hpl e2 g1 hol HRX hat
      generalize hW1 : wr.setRow g (mL pre (blocks (M.length / 64) M Sha.start) (putL op' (M.length % 64) (ys.take k)) M.length).toArray = W1 at *
      have HW1 := hid hW1
      clear hW1
      have hyd : (ys.drop k).length = ys.length - k := List.length_drop
      have HYD := hid hyd
      clear hyd
      generalize hyr : ys.drop k = yr at *
      have HYR := hid hyr
      clear hyr
      have e3 : (W1.setCell ⟨g, 137, none⟩ (.int .u64 ((M.length : Int) + (k : Int)))).heap[g]? = some (.cells (mL pre (blocks (M.length / 64) M Sha.start) (putL op' (M.length % 64) (ys.take k)) (M.length + k)).toArray 69 (0, 0)) := by
        rw [Joins.block_setCell HE2.out, show ((M.length : Int) + (k : Int)) = ((M.length + k : Nat) : Int) from by omega, List.setIfInBounds_toArray, mL_set_n hp _ _ _ _ HPL.out]
      have g2 : wr.grownBy (W1.setCell ⟨g, 137, none⟩ (.int .u64 ((M.length : Int) + (k : Int)))) (some g) :=
        grown_trans HG1.out ⟨rfl, rfl, rfl, by simp, fun j _ hj => heap_put_other HE2.out (fun h => hj (by rw [h])) _⟩
      have hytl : (ys.take k).length = k := by rw [List.length_take]; omega
      have HM2 : Hid (M ++ ys.take k = msg ++ zs.take (i + k)) := by
        show _ = _
        rw [← hM, HYS.out, List.append_assoc, List.take_add]
      have HY2 : Hid (yr = zs.drop (i + k)) := by
        show _ = _
        rw [← HYR.out, HYS.out, List.drop_drop]
      have hyt : ∀ j, (ys.take k).getD j 0 < 256 := by
        rw [all_lt]; intro z hz
        exact (all_lt ys).1 HHI.out z (List.mem_of_mem_take hz)
      have HYT := hid hyt
      have HYTL := hid hytl
      have HE3 := hid e3
      have HG2 := hid g2
      clear hyt hytl e3 g2
      by_cases hc : M.length % 64 + k = 64
      · have hcond : (((M.length : Int) + (k : Int)) % 64 == 0) = true := by rw [beq_iff_eq]; omega
        go_wp2_with fail
        generalize hW2 : W1.setCell ⟨g, 137, none⟩ (.int .u64 ((M.length : Int) + (k : Int))) = W2 at *
        have hl1 : ∀ W : World, W.heap[g]? = some (.cells (mL pre (blocks (M.length / 64) M Sha.start) (putL op' (M.length % 64) (ys.take k)) (M.length + k)).toArray 69 (0, 0)) → (Instr.loadAt 63 (.pointer (some ⟨g, 65, none⟩))).run Tryd.prog W = .ok (.agg (arr .u32 (blocks (M.length / 64) M Sha.start).list)) W := by
          intro W hW
          refine run_loadAt_mid W g 65 63 (lst .u32 (blocks (M.length / 64) M Sha.start).list) _ (fun j v hv => ?_) Tryd.underlying63 rfl Tryd.size63
          rw [Joins.cell_of_block hW (65 + j), List.getElem?_toArray]
          exact mL_st hp _ _ _ _ _ hv
        have hl2 : ∀ W : World, W.heap[g]? = some (.cells (mL pre (blocks (M.length / 64) M Sha.start) (putL op' (M.length % 64) (ys.take k)) (M.length + k)).toArray 69 (0, 0)) → (Instr.loadAt 48 (.pointer (some ⟨g, 73, none⟩))).run Tryd.prog W = .ok (.agg (arr .u8 (putL op' (M.length % 64) (ys.take k)))) W := by
          intro W hW
          refine run_loadAt_mid W g 73 48 (lst .u8 (putL op' (M.length % 64) (ys.take k))) _ (fun j v hv => ?_) Tryd.underlying48 rfl (by rw [lst_length, HPL.out]; exact Tryd.size48)
          rw [Joins.cell_of_block hW (73 + j), List.getElem?_toArray]
          exact mL_op hp _ _ _ _ _ hv
        have HST := hid (fun (W : World) (h : Laid W) => step_word (blocks (M.length / 64) M Sha.start) (putL op' (M.length % 64) (ys.take k)) W (blocks_ok _ _ _ start_ok) HPL.out (putL_lt _ _ _ HHS.out.lo HYT.out) h)
        have HFU := hid (fun W hb => @hm_full pre W g M op' (ys.take k) HOL.out HHS.out.lo HHS.out.tk HHS.out.hi HYT.out (by rw [HYTL.out]; exact hc) hb)
        rw [HYTL.out] at HFU
        have HSS := hid (fun t : St => mL_splice_st hp (blocks (M.length / 64) M Sha.start) t (putL op' (M.length % 64) (ys.take k)) (M.length + k))
        have HLN := hid (mL_length hp (blocks (M.length / 64) M Sha.start) (putL op' (M.length % 64) (ys.take k)) (M.length + k) HPL.out)
        clear hsl hsh hcp c73b f73b c73 f73
        generalize blocks (M.length / 64) M Sha.start = sb at *
        generalize putL op' (M.length % 64) (ys.take k) = ob at *
        have hW2s : g < W2.heap.size := (Array.getElem?_eq_some_iff.1 HE3.out).1
        have HLA2 : Hid (Laid W2.drew) := (hla.grown HG2.out h2).drewN 1
        have HSTR : Hid (∀ W3 : World, Below W2.drew.heap.size W2.drew W3 → (Instr.storeAt 63 (.pointer (some ⟨g, 65, none⟩)) (.agg (arr .u32 (Sha.step sb ob).list))).run Tryd.prog W3 = .ok () (W3.setRow g (mL pre (Sha.step sb ob) ob (M.length + k)).toArray)) := by
          intro W3 hb
          have hS3 : W3.heap[g]? = some (.cells (mL pre sb ob (M.length + k)).toArray 69 (0, 0)) := by rw [hb.block g hW2s]; exact HE3.out
          have := run_storeAt_part (P := Tryd.prog) W3 g 65 63 69 _ (lst .u32 (Sha.step sb ob).list) hS3 (by rw [HLN.out, lst_length, list8]; omega) (lst_one _ _) Tryd.size63
          rw [HSS.out] at this
          exact this
        have HEND : Hid (∀ W3 : World, Below W2.drew.heap.size W2.drew W3 → Rx g (W3.setRow g (mL pre (Sha.step sb ob) ob (M.length + k)).toArray) (.slice a2 yr.length cap2) a2 cap2 yr ∧ Hm pre (W3.setRow g (mL pre (Sha.step sb ob) ob (M.length + k)).toArray) g (msg ++ zs.take (i + k)) ob ∧ w.grownBy (W3.setRow g (mL pre (Sha.step sb ob) ob (M.length + k)).toArray) (some g) ∧ Laid (W3.setRow g (mL pre (Sha.step sb ob) ob (M.length + k)).toArray)) := by
          intro W3 hb
          have hS3 : W3.heap[g]? = some (.cells (mL pre sb ob (M.length + k)).toArray 69 (0, 0)) := by rw [hb.block g hW2s]; exact HE3.out
          have hg3 : wr.grownBy (W3.setRow g (mL pre (Sha.step sb ob) ob (M.length + k)).toArray) (some g) := grown_trans HG2.out (grown_trans (grown_drewN (grown_refl W2 _) 1) (grown_trans (grown_below hb _) (grown_setRow W3 g _)))
          refine ⟨HRX2.out.kept hg3, ?_, grown_trans hgr hg3, hla.grown hg3 h2⟩
          rw [← HM2.out]
          exact HFU.out _ (setRow_heap _ _ _ _ _ _ hS3)
        clear HHS HOL HE2 HW1 HG1 HSS HFU HLN hla
        refine wp_region_held_drew (S := fun _ => True) Tryd.follows trivial (fun hS => ?_)
        refine Ord.take (i := 0) (d := 39) (v := ?v0) rfl rfl (by kernel_rfl) (by kernel_rfl) (by kernel_rfl) (fun _ _ _ h => h) (by rfl) ?h0 trivial ?_
        case h0 => intro w hSw; go_simp; try with_reducible rfl
        simp only [List.setIfInBounds_toArray, List.set_cons_zero, List.set_cons_succ]
        refine Ord.take (i := 1) (d := 40) (v := ?v1) rfl rfl (by kernel_rfl) (by kernel_rfl) (by kernel_rfl) (fun _ _ _ h => h) (by rfl) ?h1 trivial ?_
        case h1 => intro w hSw; go_simp; try with_reducible rfl
        simp only [List.setIfInBounds_toArray, List.set_cons_zero, List.set_cons_succ]
        refine Ord.take (i := 2) (d := 41) (v := ?v2) rfl rfl (by kernel_rfl) (by kernel_rfl) (by kernel_rfl) (fun _ _ _ h => h) (by rfl) ?h2 trivial ?_
        case h2 => intro w hSw; go_simp; try with_reducible rfl
        simp only [List.setIfInBounds_toArray, List.set_cons_zero, List.set_cons_succ]
        refine Ord.take (i := 3) (d := 42) (v := ?v3) rfl rfl (by kernel_rfl) (by kernel_rfl) (by kernel_rfl) (fun _ _ _ h => h) (by rfl) ?h3 trivial ?_
        case h3 => intro w hSw; go_simp; try with_reducible rfl
        simp only [List.setIfInBounds_toArray, List.set_cons_zero, List.set_cons_succ]
        refine Ord.take (i := 5) (d := 44) (v := ?v5) rfl rfl (by kernel_rfl) (by kernel_rfl) (by kernel_rfl) (fun _ _ _ h => h) (by rfl) ?h5 trivial ?_
        case h5 => intro w hSw; go_simp; try with_reducible rfl
        simp only [List.setIfInBounds_toArray, List.set_cons_zero, List.set_cons_succ]
        refine Ord.take (i := 6) (d := 45) (v := ?v6) rfl rfl (by kernel_rfl) (by kernel_rfl) (by kernel_rfl) (fun _ _ _ h => h) (by rfl) ?h6 trivial ?_
        case h6 => intro w hSw; go_simp; try with_reducible rfl
        simp only [List.setIfInBounds_toArray, List.set_cons_zero, List.set_cons_succ]
        refine Ord.take (i := 7) (d := 46) (v := ?v7) rfl rfl (by kernel_rfl) (by kernel_rfl) (by kernel_rfl) (fun _ _ _ h => h) (by rfl) ?h7 trivial ?_
        case h7 => intro w hSw; go_simp; try with_reducible rfl
        simp only [List.setIfInBounds_toArray, List.set_cons_zero, List.set_cons_succ]
        refine wpAnyH_ready (rs := [4, 8]) (by kernel_rfl) (by simp) (AllReadyH.cons rfl (fun K hK => ?_) (AllReadyH.cons rfl (fun K hK => ?_) AllReadyH.nil))
        · rw [if_pos (by rfl)]
          refine wp_load_run 63 (.tmp 42) rfl (.pointer (some ⟨g, 65, none⟩)) (.agg (arr .u32 sb.list)) rfl (hl1 _ HE3.out) ?_
          refine hK.out _ _ trivial (fun _ => ?_)
          clear hK K
          simp only [Act.put, List.setIfInBounds_toArray]
          refine wpAnyH_ready (rs := [8]) (by kernel_rfl) (by simp) (AllReadyH.cons rfl (fun K hK => ?_) AllReadyH.nil)
          rw [if_pos (by rfl)]
          refine wp_load_run 48 (.tmp 46) rfl (.pointer (some ⟨g, 73, none⟩)) (.agg (arr .u8 ob)) rfl (hl2 _ HE3.out) ?_
          refine hK.out _ _ trivial (fun _ => ?_)
          clear hK K
          simp only [Act.put]
          refine wpAnyH_ready (rs := [9]) (by kernel_rfl) (by simp) (AllReadyH.cons rfl (fun K hK => ?_) AllReadyH.nil)
          go_simp
          refine (HST.out _ HLA2.out).mono ?_
          rintro _ w3 ⟨rfl, hb3⟩
          refine hK.out _ _ trivial (fun _ => ?_)
          clear hK K
          have HB3 := hid hb3
          clear hb3
          refine Ord.take (i := 10) (d := 49) (v := ?v10) rfl rfl (by kernel_rfl) (by kernel_rfl) (by kernel_rfl) (fun _ _ _ h => h) (by rfl) ?h10 trivial ?_
          case h10 => intro w hSw; go_simp; try with_reducible rfl
          simp only [List.setIfInBounds_toArray, List.set_cons_zero, List.set_cons_succ]
          refine Ord.take (i := 11) (d := 50) (v := ?v11) rfl rfl (by kernel_rfl) (by kernel_rfl) (by kernel_rfl) (fun _ _ _ h => h) (by rfl) ?h11 trivial ?_
          case h11 => intro w hSw; go_simp; try with_reducible rfl
          simp only [List.setIfInBounds_toArray, List.set_cons_zero, List.set_cons_succ]
          refine wpAnyH_ready (rs := [12]) (by kernel_rfl) (by simp) (AllReadyH.cons rfl (fun K hK => ?_) AllReadyH.nil)
          rw [if_pos (by rfl)]
          refine wp_store_run 63 (.tmp 50) (.tmp 48) rfl (.pointer (some ⟨g, 65, none⟩)) (.agg (arr .u32 (Sha.step sb ob).list)) rfl rfl (HSTR.out w3 HB3.out) ?_
          refine hK.out _ _ trivial (fun _ => ?_)
          clear hK K
          refine wpAnyH_done (by kernel_rfl) ?_ _
          have hF := HEND.out w3 HB3.out
          have HF := hid hF
          clear hF
          generalize w3.setRow g (mL pre (Sha.step sb ob) ob (M.length + k)).toArray = W4 at *
          simp only [Act.put, List.setIfInBounds_toArray]
          go_wp2
          exact ⟨⟨i + k, a2, cap2, yr, ob, by omega, HY2.out, rfl, HF.out⟩, by show yr.length < ys.length; rw [HYD.out]; omega⟩
        · rw [if_pos (by rfl)]
          refine wp_load_run 48 (.tmp 46) rfl (.pointer (some ⟨g, 73, none⟩)) (.agg (arr .u8 ob)) rfl (hl2 _ HE3.out) ?_
          refine hK.out _ _ trivial (fun _ => ?_)
          clear hK K
          simp only [Act.put, List.setIfInBounds_toArray]
          refine wpAnyH_ready (rs := [4]) (by kernel_rfl) (by simp) (AllReadyH.cons rfl (fun K hK => ?_) AllReadyH.nil)
          rw [if_pos (by rfl)]
          refine wp_load_run 63 (.tmp 42) rfl (.pointer (some ⟨g, 65, none⟩)) (.agg (arr .u32 sb.list)) rfl (hl1 _ HE3.out) ?_
          refine hK.out _ _ trivial (fun _ => ?_)
          clear hK K
          simp only [Act.put]
          refine wpAnyH_ready (rs := [9]) (by kernel_rfl) (by simp) (AllReadyH.cons rfl (fun K hK => ?_) AllReadyH.nil)
          go_simp
          refine (HST.out _ HLA2.out).mono ?_
          rintro _ w3 ⟨rfl, hb3⟩
          refine hK.out _ _ trivial (fun _ => ?_)
          clear hK K
          have HB3 := hid hb3
          clear hb3
          refine Ord.take (i := 10) (d := 49) (v := ?v10) rfl rfl (by kernel_rfl) (by kernel_rfl) (by kernel_rfl) (fun _ _ _ h => h) (by rfl) ?h10 trivial ?_
          case h10 => intro w hSw; go_simp; try with_reducible rfl
          simp only [List.setIfInBounds_toArray, List.set_cons_zero, List.set_cons_succ]
          refine Ord.take (i := 11) (d := 50) (v := ?v11) rfl rfl (by kernel_rfl) (by kernel_rfl) (by kernel_rfl) (fun _ _ _ h => h) (by rfl) ?h11 trivial ?_
          case h11 => intro w hSw; go_simp; try with_reducible rfl
          simp only [List.setIfInBounds_toArray, List.set_cons_zero, List.set_cons_succ]
          refine wpAnyH_ready (rs := [12]) (by kernel_rfl) (by simp) (AllReadyH.cons rfl (fun K hK => ?_) AllReadyH.nil)
          rw [if_pos (by rfl)]
          refine wp_store_run 63 (.tmp 50) (.tmp 48) rfl (.pointer (some ⟨g, 65, none⟩)) (.agg (arr .u32 (Sha.step sb ob).list)) rfl rfl (HSTR.out w3 HB3.out) ?_
          refine hK.out _ _ trivial (fun _ => ?_)
          clear hK K
          refine wpAnyH_done (by kernel_rfl) ?_ _
          have hF := HEND.out w3 HB3.out
          have HF := hid hF
          clear hF
          generalize w3.setRow g (mL pre (Sha.step sb ob) ob (M.length + k)).toArray = W4 at *
          simp only [Act.put, List.setIfInBounds_toArray]
          go_wp2
          exact ⟨⟨i + k, a2, cap2, yr, ob, by omega, HY2.out, rfl, HF.out⟩, by show yr.length < ys.length; rw [HYD.out]; omega⟩
      · have hcond : (((M.length : Int) + (k : Int)) % 64 == 0) = false := by rw [beq_eq_false_iff_ne]; omega
        go_wp2
        refine ⟨⟨i + k, a2, cap2, yr, putL op' (M.length % 64) (ys.take k), by omega, HY2.out, rfl, HRX2.out.kept HG2.out, ?_, grown_trans hgr HG2.out, hla.grown HG2.out h2⟩, ?_⟩
        · rw [← HM2.out]
          exact hm_less HOL.out HHS.out.lo HHS.out.tk HHS.out.hi HYT.out (by rw [HYTL.out]; omega) (by rw [HYTL.out]; exact HE3.out)
        · show yr.length < ys.length
          rw [HYD.out]; omega
end Go.Proofs.YtkipepodgmfbnaaDoor
