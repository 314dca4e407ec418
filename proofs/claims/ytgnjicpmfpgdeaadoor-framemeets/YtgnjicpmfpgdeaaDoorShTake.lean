/-
  The contracts of sha.New and of the Hash's take.
-/
import Derived.Test.YtgnjicpmfpgdeaaDoorShHash
import Derived.Test.YtgnjicpmfpgdeaaDoorShOrd
import Derived.Deep.RegionHeld
namespace Go.Proofs.YtgnjicpmfpgdeaaDoor.Sh
open Go.RowKit Sha

set_option maxRecDepth 100000 in
theorem z64_lt : ∀ j, z64.getD j 0 < 256 := by
  intro j
  by_cases hj : j < 64
  · have h : ∀ i : Fin 64, z64.getD i.val 0 < 256 := by decide +kernel
    exact h ⟨j, hj⟩
  · rw [List.getD, List.getElem?_eq_none (by show z64.length ≤ j; rw [show z64.length = 64 from rfl]; omega)]
    decide

/-- The cells of a Hash that nobody made. -/
def ZH : Array Value := (.bool false :: (lst .u32 z8 ++ (lst .u8 z64 ++ [.int .u64 0]))).toArray
set_option maxRecDepth 100000 in
theorem Tryd.zero123 : ∀ w, (zeroValue 123).run Tryd.prog w = .ok (.agg ZH) w := (zero_of_info (t := 123) (n := 74) (by kernel_rfl)).1
set_option maxRecDepth 100000 in
theorem ZH_size : ZH.size = 74 := rfl
set_option maxRecDepth 100000 in
theorem ZH_fill : List.foldl (fun (cs : Array Value) (x : Value × Nat) => cs.setIfInBounds (1 + x.snd) x.fst) (ZH.setIfInBounds 0 (.bool true)) (lst .u32 Sha.start.list).zipIdx = (hL Sha.start z64 0).toArray := by kernel_rfl

set_option maxRecDepth 100000 in
theorem new_word (w : World) (hl : Laid w) : Calls Tryd.prog 76 #[] w fun e w' => e = .returned (.pointer (some ⟨w.heap.size, 0, none⟩)) ∧ Hs w' w.heap.size [] z64 ∧ Below w.heap.size w w' := by
  have hr : w.rangeAt 0 0 (lst .u32 Sha.start.list) := by
    intro j v hv
    have hj : j < 8 := by have := (List.getElem?_eq_some_iff.1 hv).1; rw [lst_length] at this; exact this
    rw [Nat.zero_add, hl.s j hj, ← hv]
    simp [lst, List.getD, List.getElem?_eq_getElem (show j < Sha.start.list.length from hj)]
  have hsz : (Tryd.prog.info? 118).map (·.size) = some (lst .u32 Sha.start.list).length := Tryd.size118
  have h0 := Tryd.zero123
  have h1 := ZH_size
  have h2 : (ZH = #[]) = False := by simp; intro h; have := ZH_size; rw [h] at this; cases this
  have h3 : (lst .u32 Sha.start.list).length = 8 := rfl
  have h4 := ZH_fill
  have hn := heap_new w (.cells (hL Sha.start z64 0).toArray 123)
  have hb := bel_alloc w (.cells (hL Sha.start z64 0).toArray 123)
  have HN : Hid (Hs (w.alloc (.cells (hL Sha.start z64 0).toArray 123)) w.heap.size [] z64) := ⟨hn, rfl, z64_lt, rfl, fun j => by simp⟩
  generalize hL Sha.start z64 0 = HL at *
  go_enter Tryd.func76, Tryd.ntmps76
  go_wp2_with (refine wpList_load_mid rfl 118 _ rfl 0 0 rfl (lst .u32 Sha.start.list) _ hr Tryd.underlying118 rfl hsz ?_)
  go_ret
  exact ⟨rfl, HN.out, hb⟩

/-- A slice that reads as these bytes, which lie elsewhere than in block g. -/
structure Rx (g : Nat) (w : World) (v : Value) (a : Option Addr) (cap : Nat) (zs : List Nat) : Prop where
  rd : Rd w v a cap zs
  ne : 0 < zs.length → ∀ ad, a = some ad → ad.block ≠ g

set_option maxRecDepth 100000 in
theorem Rx.kept {g : Nat} {w w' : World} {v : Value} {a : Option Addr} {cap : Nat} {zs : List Nat} (h : Rx g w v a cap zs) (hg : w.grownBy w' (some g)) : Rx g w' v a cap zs := by
  refine ⟨⟨h.rd.val, h.rd.room, h.rd.most, fun h0 => ?_, h.rd.hi, h.rd.nil⟩, h.ne⟩
  obtain ⟨b, off, ha, hbw, hc⟩ := h.rd.cells h0
  have hne : b ≠ g := h.ne h0 _ ha
  refine ⟨b, off, ha, Nat.lt_of_lt_of_le hbw hg.size, fun j hj => ?_⟩
  rw [World.cell?_of_block (w := w) (hg.block b hbw (by intro h; injection h with h; exact hne h))]
  exact hc j hj

set_option maxRecDepth 100000 in
theorem grown_below {w w' : World} (h : Below w.heap.size w w') (r : Option Nat) : w.grownBy w' r := ⟨h.os, h.tape, h.output, h.size, fun k hk _ => h.block k hk⟩
set_option maxRecDepth 100000 in
theorem grown_trans {a b c : World} {r : Option Nat} (h : a.grownBy b r) (k : b.grownBy c r) : a.grownBy c r :=
  ⟨k.os.trans h.os, k.tape.trans h.tape, k.output.trans h.output, Nat.le_trans h.size k.size, fun i hi hr => (k.block i (Nat.lt_of_lt_of_le hi h.size) hr).trans (h.block i hi hr)⟩
set_option maxRecDepth 100000 in
theorem grown_setRow (w : World) (g : Nat) (cs : Array Value) : w.grownBy (w.setRow g cs) (some g) :=
  ⟨rfl, rfl, rfl, by simp [World.setRow], fun k _ hk => setRow_other w g k cs (fun h => hk (by rw [h]))⟩
set_option maxRecDepth 100000 in
theorem grown_drewN {w w' : World} {r : Option Nat} (h : w.grownBy w' r) (n : Nat) : w.grownBy (w'.drewN n) r := ⟨h.os, h.tape, h.output, h.size, h.block⟩
set_option maxRecDepth 100000 in
theorem Laid.grown {w w' : World} {g : Nat} (h : Laid w) (hg : w.grownBy w' (some g)) (h2 : 2 ≤ g) : Laid w' := by
  have hs := h.two
  refine ⟨fun i hi => ?_, fun i hi => ?_, Nat.le_trans hs hg.size⟩
  · rw [World.cell?_of_block (w := w) (hg.block 1 (by omega) (by intro h; injection h with h; omega))]; exact h.k i hi
  · rw [World.cell?_of_block (w := w) (hg.block 0 (by omega) (by intro h; injection h with h; omega))]; exact h.s i hi

set_option maxRecDepth 100000 in
theorem getD_dropN (zs : List Nat) (n j : Nat) : (zs.drop n).getD j 0 = zs.getD (n + j) 0 := by
  simp [List.getD, List.getElem?_drop]

set_option maxRecDepth 100000 in
open Go.ChangeShapes Go.WideShapes Go.ChangeAt in
/-- b[n:], as a value and as bytes. -/
theorem high_part {g : Nat} {w : World} {a : Option Addr} {cap : Nat} {zs : List Nat} (h : Rx g w (.slice a zs.length cap) a cap zs) (n : Nat) (hn : n ≤ zs.length) :
    ∃ a' cap', sliced a n zs.length cap 1 = .slice a' (zs.drop n).length cap' ∧ Rx g w (.slice a' (zs.drop n).length cap') a' cap' (zs.drop n) := by
  have hl : (zs.drop n).length = zs.length - n := by simp
  have hroom := h.rd.room
  have hmost := h.rd.most
  refine ⟨_, cap - n, by rw [hl]; rfl, ⟨rfl, by omega, by omega, fun h0 => ?_, fun j => by rw [getD_dropN]; exact h.rd.hi _, fun hn => ?_⟩, fun h0 b hb => ?_⟩
  · obtain ⟨b, off, rfl, hbw, hc⟩ := h.rd.cells (by omega)
    refine ⟨b, off + n, ?_, hbw, fun j hj => ?_⟩
    · rw [if_neg (by omega)]
      simp [WideShapes.add_plain]
    · rw [getD_dropN, Nat.add_assoc]
      exact hc (n + j) (by omega)
  · cases a with
    | none => have := h.rd.nil rfl; omega
    | some ad => split at hn <;> cases hn
  · cases a with
    | none => split at hb <;> cases hb
    | some ad =>
      split at hb
      · exact h.ne (by omega) b hb
      · injection hb with hb
        have hb1 : b.block = ad.block := by
          rw [← hb]
          unfold Addr.add
          split <;> rfl
        rw [hb1]
        exact h.ne (by omega) ad rfl

set_option maxRecDepth 100000 in
open Go.ChangeShapes Go.WideShapes Go.ChangeAt in
theorem slice_high (a : Option Addr) (len cap n : Nat) (h : n ≤ len) (W : World) : (Instr.slice 22 (.slice a len cap) (some (.int .i64 (n : Int))) none none).run Tryd.prog W = .ok (sliced a n len cap 1) W := by
  have := run_slice_l (P := Tryd.prog) W 22 a len cap Tryd.underlying22 .i64 (n : Int) (by omega) (by omega)
  rw [this, Int.toNat_natCast]
  rfl


set_option maxRecDepth 100000 in
theorem Tryd.follows : Tryd.prog.follows .mixedOrders = true := by kernel_rfl

set_option maxRecDepth 100000 in
theorem run_load_op {P : Program} {oi : Oper} {ts : Array Value} {df : List Deferred} {ty : TypeId} {x : Operand} (ho : oi.op = .load ty x) {p v : Value} (hx : Act.eval ⟨ts, df⟩ x = p) {w : World} (h : (Instr.loadAt ty p).run P w = .ok v w) :
    (execOp (Act.eval ⟨ts, df⟩) oi).run P w = .ok (.value v) w := by
  unfold execOp
  simp only [ho, hx, Sem.run_bind, h, Result.andThen_ok]
  rfl

set_option maxRecDepth 100000 in
theorem wp_load_run {P : Program} {op : Oper} {a : Act} {w : World} {K : Act → World → Prop} {Q : Exit → Act → World → Prop} (ty : TypeId) (x : Operand) (ho : op.op = .load ty x) (p v : Value) (hx : a.eval x = p)
    (h : (Instr.loadAt ty p).run P w = .ok v w) (hK : K (a.put op.dst v) w) : op.wp P a w K Q := by
  unfold Oper.wp execOp
  simp only [ho, hx, Sem.run_bind, h, Result.andThen_ok]
  exact hK
set_option maxRecDepth 100000 in
theorem wp_store_run {P : Program} {op : Oper} {a : Act} {w w' : World} {K : Act → World → Prop} {Q : Exit → Act → World → Prop} (ty : TypeId) (x y : Operand) (ho : op.op = .store ty x y) (p v : Value) (hx : a.eval x = p) (hy : a.eval y = v)
    (h : (Instr.storeAt ty p v).run P w = .ok () w') (hK : K (a.put op.dst undef) w') : op.wp P a w K Q := by
  unfold Oper.wp execOp
  simp only [ho, hx, hy, Sem.run_bind, h, Result.andThen_ok]
  exact hK

set_option maxRecDepth 100000 in
/-- A store of many cells into a part of a block that is known whole. -/
theorem run_storeAt_part {P : Program} (w : World) (g o : Nat) (ty t : TypeId) (cur cs : List Value) (hb : w.heap[g]? = some (.cells cur.toArray t (0, 0))) (hfit : o + cs.length ≤ cur.length) (h1 : ∀ v ∈ cs, v.oneCell' = true) (hi : (P.info? ty).map (·.size) = some cs.length) :
    (Instr.storeAt ty (.pointer (some ⟨g, o, none⟩)) (.agg cs.toArray)).run P w = .ok () (w.setRow g (splice cur o cs).toArray) := by
  have h := run_storeCells_at P g o t cs 0 cur.toArray w hb (by simpa using hfit) h1
  rw [Nat.add_zero, List.toList_toArray, List.append_assoc] at h
  cases hq : P.info? ty with
  | none => simp [hq] at hi
  | some i =>
    have hs : cs.length = i.size := by simp [hq] at hi; omega
    simp [Instr.storeAt, Instr.sureAddr, storeVar, sizeOf, typeInfo, hq, Value.cells, hs, Sem.run_bind, h, splice]

set_option maxRecDepth 100000 in
theorem Tryd.sizeB : ∀ w, (sizeOf 5).run Tryd.prog w = .ok 1 w := fun w => by
  obtain ⟨i0, hi, hz0, hz1, hz2⟩ := info_parts Tryd.info5
  simp [sizeOf, typeInfo, hi, hz1]

set_option maxRecDepth 100000 in
theorem slice_open (g L : Nat) (W : World) : (Instr.sliceAt 82 (.pointer (some ⟨g, 9, none⟩)) (some (.int .u64 ((L : Int) % 64))) none none).run Tryd.prog W = .ok (.slice (some ⟨g, 9 + L % 64, none⟩) (64 - L % 64) (64 - L % 64)) W := by
  have hlt : L % 64 < 64 := Nat.mod_lt _ (by decide)
  have h := run_sliceAt_array_l (P := Tryd.prog) W 82 ⟨g, 9, none⟩ Tryd.underlying82 .u64 ((L : Int) % 64) (by omega) (by show (L : Int) % 64 ≤ ((64 : Nat) : Int); omega)
  rw [h, show Tryd.prog.elem 82 = 5 from rfl, Tryd.sizeB, show Tryd.prog.arrayLen 82 = 64 from rfl, show ((L : Int) % 64).toNat = L % 64 from by omega]
  simp only [Result.andThen_ok, slicedAt]
  rw [if_neg (by omega)]
  simp [Addr.add]

set_option maxHeartbeats 4000000 in
set_option maxRecDepth 100000 in
theorem take_word (g : Nat) (a : Option Addr) (cap : Nat) (zs msg op : List Nat) (w : World) (hlaid : Laid w) (h2 : 2 ≤ g) (hr : Rx g w (.slice a zs.length cap) a cap zs) (hh : Hs w g msg op) (hbd : msg.length + zs.length ≤ 1099511627776) :
    Calls Tryd.prog 77 #[.pointer (some ⟨g, 0, none⟩), .slice a zs.length cap] w fun e w' => (∃ u, e = .returned u) ∧ (∃ op', Hs w' g (msg ++ zs) op') ∧ w.grownBy w' (some g) := by
  have HR := hid hr
  have HH := hid hh
  have HL := hid hlaid
  clear hr hh hlaid
  go_enter Tryd.func77, Tryd.ntmps77
  go_wp2_with fail
  go_loopw [1] (fun v wr => ∃ (i : Nat) (a' : Option Addr) (cap' : Nat) (ys op' : List Nat), i ≤ zs.length ∧ ys = zs.drop i ∧ v = .slice a' ys.length cap' ∧ Rx g wr (.slice a' ys.length cap') a' cap' ys ∧ Hs wr g (msg ++ zs.take i) op' ∧ w.grownBy wr (some g) ∧ Laid wr) (fun v _ => slen v)
  case atStart => exact ⟨0, a, cap, zs, op, by omega, rfl, rfl, HR.out, by rw [List.take_zero, List.append_nil]; exact HH.out, grown_refl _ _, HL.out⟩
  case round =>
    obtain ⟨i, a', cap', ys, op', hi, hys, rfl, hrx, hhs, hgr, hla⟩ := hrel
    have HYS := hid hys
    have hyl : ys.length + i ≤ zs.length := by rw [hys, List.length_drop]; omega
    have hyl' : zs.length ≤ ys.length + i := by rw [hys, List.length_drop]; omega
    clear hys
    by_cases h0 : ys.length = 0
    · have hzi : i = zs.length := by omega
      have HE : Hid (Hs wr g (msg ++ zs) op') := by
        have := hhs
        rw [hzi, List.take_length] at this
        exact this
      rw [h0]
      clear hhs hrx hyl h0
      go_wp2
      go_end0
      exact ⟨⟨_, rfl⟩, ⟨_, HE.out⟩, hgr⟩
    · have hcap := hrx.rd.room
      have hmost := hrx.rd.most
      unfold maxLen at hmost
      obtain ⟨bb, off, rfl, hbw, hcs⟩ := hrx.rd.cells (by omega)
      generalize hM : msg ++ zs.take i = M at *
      have hML : M.length ≤ 1099511627776 := by rw [← hM, List.length_append, List.length_take]; omega
      have hol := hhs.len
      have c73 : wr.cell? ⟨g, 73, none⟩ = some (.int .u64 (M.length : Int)) := by
        rw [Joins.cell_of_block hhs.blk 73, List.getElem?_toArray]; exact hL_n _ _ _ hol
      have f73 := Joins.unfrozen_of_block hhs.blk 73
      have HHS := hid hhs
      have HRX := hid hrx
      clear hhs hrx
      have hat : M.length % 64 < 64 := Nat.mod_lt _ (by decide)
      have hy0 : (0 : Int) < (ys.length : Int) := by omega
      have hsl := slice_open g M.length
      generalize hk : min ys.length (64 - M.length % 64) = k at *
      have hk1 : 0 < k := by omega
      have hk2 : k ≤ ys.length := by omega
      have hk3 : M.length % 64 + k ≤ 64 := by omega
      have HK := hid hk
      clear hk
      have hlk : (lst .u8 (ys.take k)).length = k := by rw [lst_length, List.length_take]; omega
      obtain ⟨a2, cap2, hsv, hrx2⟩ := high_part HRX.out k hk2
      have hsh := slice_high (some ⟨bb, off, none⟩) ys.length cap' k hk2
      rw [hsv] at hsh
      have hblk := HHS.out.blk
      have hcur := hL_length (blocks (M.length / 64) M Sha.start) op' M.length hol
      have hcopy := hL_splice_op (blocks (M.length / 64) M Sha.start) op' M.length (M.length % 64) (ys.take k) (by rw [List.length_take, hol]; omega)
      have hsrc : ∀ (j : Nat) (v : Value), (lst .u8 (ys.take k))[j]? = some v → wr.cell? (Addr.add ⟨bb, off, none⟩ j) = some v := by
        intro j v hv
        have hj : j < k := by have := (List.getElem?_eq_some_iff.1 hv).1; omega
        rw [Go.WideShapes.add_plain, hcs j (by omega), ← hv]
        simp [lst, List.getD, hj, List.getElem?_eq_getElem (show j < ys.length from by omega)]
      have hcp : (Builtin.copy_ #[22, 22] 3 #[.slice (some ⟨g, 9 + M.length % 64, none⟩) (64 - M.length % 64) (64 - M.length % 64), .slice (some ⟨bb, off, none⟩) ys.length cap']).run Tryd.prog wr = .ok (.int .i64 (k : Int)) (wr.setRow g (hL (blocks (M.length / 64) M Sha.start) (putL op' (M.length % 64) (ys.take k)) M.length).toArray) := by
        have h := run_copy_row (P := Tryd.prog) wr 22 22 3 5 g (9 + M.length % 64) (64 - M.length % 64) (64 - M.length % 64) ⟨bb, off, none⟩ ys.length cap' _ 123 (lst .u8 (ys.take k)) Tryd.underlying22 (by kernel_rfl) hblk (by rw [hlk]; exact HK.out.symm) hsrc (by rw [hlk, List.size_toArray, hcur]; omega) (lst_one _ _)
        rw [h, List.toList_toArray, List.append_assoc, ← hcopy, splice, hlk]
        rfl
      have hsv2 := hsv
      have e2 : (wr.setRow g (hL (blocks (M.length / 64) M Sha.start) (putL op' (M.length % 64) (ys.take k)) M.length).toArray).heap[g]? = some (.cells (hL (blocks (M.length / 64) M Sha.start) (putL op' (M.length % 64) (ys.take k)) M.length).toArray 123 (0, 0)) := setRow_heap _ _ _ _ _ _ hblk
      have hpl : (putL op' (M.length % 64) (ys.take k)).length = 64 := by rw [putL_length _ _ _ (by rw [List.length_take, hol]; omega)]; exact hol
      have c73b : (wr.setRow g (hL (blocks (M.length / 64) M Sha.start) (putL op' (M.length % 64) (ys.take k)) M.length).toArray).cell? ⟨g, 73, none⟩ = some (.int .u64 (M.length : Int)) := by
        rw [Joins.cell_of_block e2 73, List.getElem?_toArray]; exact hL_n _ _ _ hpl
      have f73b := Joins.unfrozen_of_block e2 73
      have g1 := grown_setRow wr g (hL (blocks (M.length / 64) M Sha.start) (putL op' (M.length % 64) (ys.take k)) M.length).toArray
      have HPL := hid hpl
      have HE2 := hid e2
      have HG1 := hid g1
      have HRX2 := hid hrx2
      have HLK := hid hlk
      have HOL := hid hol
      have HHI := hid (HRX.out.rd.hi)
      clear hsv hsv2 hcopy hcur hblk hlk hsrc hcs hrx2 hpl e2 g1 hol HRX hat
      generalize hW1 : wr.setRow g (hL (blocks (M.length / 64) M Sha.start) (putL op' (M.length % 64) (ys.take k)) M.length).toArray = W1 at *
      have HW1 := hid hW1
      clear hW1
      have hyd : (ys.drop k).length = ys.length - k := List.length_drop
      have HYD := hid hyd
      clear hyd
      generalize hyr : ys.drop k = yr at *
      have HYR := hid hyr
      clear hyr
      have e3 : (W1.setCell ⟨g, 73, none⟩ (.int .u64 ((M.length : Int) + (k : Int)))).heap[g]? = some (.cells (hL (blocks (M.length / 64) M Sha.start) (putL op' (M.length % 64) (ys.take k)) (M.length + k)).toArray 123 (0, 0)) := by
        rw [Joins.block_setCell HE2.out, show ((M.length : Int) + (k : Int)) = ((M.length + k : Nat) : Int) from by omega, List.setIfInBounds_toArray, hL_set_n _ _ _ _ HPL.out]
      have g2 : wr.grownBy (W1.setCell ⟨g, 73, none⟩ (.int .u64 ((M.length : Int) + (k : Int)))) (some g) :=
        grown_trans HG1.out ⟨rfl, rfl, rfl, by simp, fun j _ hj => heap_put_other HE2.out (fun h => hj (by rw [h])) _⟩
      have hytl : (ys.take k).length = k := by rw [List.length_take]; omega
      have HM2 : Hid (M ++ ys.take k = msg ++ zs.take (i + k)) := by
        show _ = _
        rw [← hM, HYS.out, List.append_assoc, List.take_add]
      have HY2 : Hid (yr = zs.drop (i + k)) := by
        show _ = _
        rw [← HYR.out, HYS.out, List.drop_drop]
      have hyt : ∀ j, (ys.take k).getD j 0 < 256 := by
        rw [all_lt]; intro z hz
        exact (all_lt ys).1 HHI.out z (List.mem_of_mem_take hz)
      have HYT := hid hyt
      have HYTL := hid hytl
      have HE3 := hid e3
      have HG2 := hid g2
      clear hyt hytl e3 g2
      by_cases hc : M.length % 64 + k = 64
      · have hcond : (((M.length : Int) + (k : Int)) % 64 == 0) = true := by rw [beq_iff_eq]; omega
        go_wp2_with fail
        generalize hW2 : W1.setCell ⟨g, 73, none⟩ (.int .u64 ((M.length : Int) + (k : Int))) = W2 at *
        have hl1 : ∀ W : World, W.heap[g]? = some (.cells (hL (blocks (M.length / 64) M Sha.start) (putL op' (M.length % 64) (ys.take k)) (M.length + k)).toArray 123 (0, 0)) → (Instr.loadAt 118 (.pointer (some ⟨g, 1, none⟩))).run Tryd.prog W = .ok (.agg (arr .u32 (blocks (M.length / 64) M Sha.start).list)) W := by
          intro W hW
          refine run_loadAt_mid W g 1 118 (lst .u32 (blocks (M.length / 64) M Sha.start).list) _ (fun j v hv => ?_) Tryd.underlying118 rfl Tryd.size118
          rw [Joins.cell_of_block hW (1 + j), List.getElem?_toArray]
          exact hL_st _ _ _ _ _ hv
        have hl2 : ∀ W : World, W.heap[g]? = some (.cells (hL (blocks (M.length / 64) M Sha.start) (putL op' (M.length % 64) (ys.take k)) (M.length + k)).toArray 123 (0, 0)) → (Instr.loadAt 82 (.pointer (some ⟨g, 9, none⟩))).run Tryd.prog W = .ok (.agg (arr .u8 (putL op' (M.length % 64) (ys.take k)))) W := by
          intro W hW
          refine run_loadAt_mid W g 9 82 (lst .u8 (putL op' (M.length % 64) (ys.take k))) _ (fun j v hv => ?_) Tryd.underlying82 rfl (by rw [lst_length, HPL.out]; exact Tryd.size82)
          rw [Joins.cell_of_block hW (9 + j), List.getElem?_toArray]
          exact hL_op _ _ _ _ _ hv
        have HST := hid (fun (W : World) (h : Laid W) => step_word (blocks (M.length / 64) M Sha.start) (putL op' (M.length % 64) (ys.take k)) W (blocks_ok _ _ _ start_ok) HPL.out (putL_lt _ _ _ HHS.out.lo HYT.out) h)
        have HFU := hid (fun W hb => @hs_full W g M op' (ys.take k) HOL.out HHS.out.lo HHS.out.tk HHS.out.hi HYT.out (by rw [HYTL.out]; exact hc) hb)
        rw [HYTL.out] at HFU
        have HSS := hid (fun t : St => hL_splice_st (blocks (M.length / 64) M Sha.start) t (putL op' (M.length % 64) (ys.take k)) (M.length + k))
        have HLN := hid (hL_length (blocks (M.length / 64) M Sha.start) (putL op' (M.length % 64) (ys.take k)) (M.length + k) HPL.out)
        clear hsl hsh hcp c73b f73b c73 f73
        generalize blocks (M.length / 64) M Sha.start = sb at *
        generalize putL op' (M.length % 64) (ys.take k) = ob at *
        have hW2s : g < W2.heap.size := (Array.getElem?_eq_some_iff.1 HE3.out).1
        have HLA2 : Hid (Laid W2.drew) := (hla.grown HG2.out h2).drewN 1
        have HSTR : Hid (∀ W3 : World, Below W2.drew.heap.size W2.drew W3 → (Instr.storeAt 118 (.pointer (some ⟨g, 1, none⟩)) (.agg (arr .u32 (Sha.step sb ob).list))).run Tryd.prog W3 = .ok () (W3.setRow g (hL (Sha.step sb ob) ob (M.length + k)).toArray)) := by
          intro W3 hb
          have hS3 : W3.heap[g]? = some (.cells (hL sb ob (M.length + k)).toArray 123 (0, 0)) := by rw [hb.block g hW2s]; exact HE3.out
          have := run_storeAt_part (P := Tryd.prog) W3 g 1 118 123 _ (lst .u32 (Sha.step sb ob).list) hS3 (by rw [HLN.out, lst_length, list8]; omega) (lst_one _ _) Tryd.size118
          rw [HSS.out] at this
          exact this
        have HEND : Hid (∀ W3 : World, Below W2.drew.heap.size W2.drew W3 → Rx g (W3.setRow g (hL (Sha.step sb ob) ob (M.length + k)).toArray) (.slice a2 yr.length cap2) a2 cap2 yr ∧ Hs (W3.setRow g (hL (Sha.step sb ob) ob (M.length + k)).toArray) g (msg ++ zs.take (i + k)) ob ∧ w.grownBy (W3.setRow g (hL (Sha.step sb ob) ob (M.length + k)).toArray) (some g) ∧ Laid (W3.setRow g (hL (Sha.step sb ob) ob (M.length + k)).toArray)) := by
          intro W3 hb
          have hS3 : W3.heap[g]? = some (.cells (hL sb ob (M.length + k)).toArray 123 (0, 0)) := by rw [hb.block g hW2s]; exact HE3.out
          have hg3 : wr.grownBy (W3.setRow g (hL (Sha.step sb ob) ob (M.length + k)).toArray) (some g) := grown_trans HG2.out (grown_trans (grown_drewN (grown_refl W2 _) 1) (grown_trans (grown_below hb _) (grown_setRow W3 g _)))
          refine ⟨HRX2.out.kept hg3, ?_, grown_trans hgr hg3, hla.grown hg3 h2⟩
          rw [← HM2.out]
          exact HFU.out _ (setRow_heap _ _ _ _ _ _ hS3)
        clear HHS HOL HE2 HW1 HG1 HSS HFU HLN hla
        refine wp_region_held_drew (S := fun _ => True) Tryd.follows trivial (fun hS => ?_)
        refine Ord.take (i := 0) (d := 39) (v := ?v0) rfl rfl (by kernel_rfl) (by kernel_rfl) (by kernel_rfl) (fun _ _ _ h => h) (by rfl) ?h0 trivial ?_
        case h0 => intro w hSw; go_simp; try with_reducible rfl
        simp only [List.setIfInBounds_toArray, List.set_cons_zero, List.set_cons_succ]
        refine Ord.take (i := 1) (d := 40) (v := ?v1) rfl rfl (by kernel_rfl) (by kernel_rfl) (by kernel_rfl) (fun _ _ _ h => h) (by rfl) ?h1 trivial ?_
        case h1 => intro w hSw; go_simp; try with_reducible rfl
        simp only [List.setIfInBounds_toArray, List.set_cons_zero, List.set_cons_succ]
        refine Ord.take (i := 2) (d := 41) (v := ?v2) rfl rfl (by kernel_rfl) (by kernel_rfl) (by kernel_rfl) (fun _ _ _ h => h) (by rfl) ?h2 trivial ?_
        case h2 => intro w hSw; go_simp; try with_reducible rfl
        simp only [List.setIfInBounds_toArray, List.set_cons_zero, List.set_cons_succ]
        refine Ord.take (i := 3) (d := 42) (v := ?v3) rfl rfl (by kernel_rfl) (by kernel_rfl) (by kernel_rfl) (fun _ _ _ h => h) (by rfl) ?h3 trivial ?_
        case h3 => intro w hSw; go_simp; try with_reducible rfl
        simp only [List.setIfInBounds_toArray, List.set_cons_zero, List.set_cons_succ]
        refine Ord.take (i := 5) (d := 44) (v := ?v5) rfl rfl (by kernel_rfl) (by kernel_rfl) (by kernel_rfl) (fun _ _ _ h => h) (by rfl) ?h5 trivial ?_
        case h5 => intro w hSw; go_simp; try with_reducible rfl
        simp only [List.setIfInBounds_toArray, List.set_cons_zero, List.set_cons_succ]
        refine Ord.take (i := 6) (d := 45) (v := ?v6) rfl rfl (by kernel_rfl) (by kernel_rfl) (by kernel_rfl) (fun _ _ _ h => h) (by rfl) ?h6 trivial ?_
        case h6 => intro w hSw; go_simp; try with_reducible rfl
        simp only [List.setIfInBounds_toArray, List.set_cons_zero, List.set_cons_succ]
        refine Ord.take (i := 7) (d := 46) (v := ?v7) rfl rfl (by kernel_rfl) (by kernel_rfl) (by kernel_rfl) (fun _ _ _ h => h) (by rfl) ?h7 trivial ?_
        case h7 => intro w hSw; go_simp; try with_reducible rfl
        simp only [List.setIfInBounds_toArray, List.set_cons_zero, List.set_cons_succ]
        refine wpAnyH_ready (rs := [4, 8]) (by kernel_rfl) (by simp) (AllReadyH.cons rfl (fun K hK => ?_) (AllReadyH.cons rfl (fun K hK => ?_) AllReadyH.nil))
        · rw [if_pos (by rfl)]
          refine wp_load_run 118 (.tmp 42) rfl (.pointer (some ⟨g, 1, none⟩)) (.agg (arr .u32 sb.list)) rfl (hl1 _ HE3.out) ?_
          refine hK.out _ _ trivial (fun _ => ?_)
          clear hK K
          simp only [Act.put, List.setIfInBounds_toArray]
          refine wpAnyH_ready (rs := [8]) (by kernel_rfl) (by simp) (AllReadyH.cons rfl (fun K hK => ?_) AllReadyH.nil)
          rw [if_pos (by rfl)]
          refine wp_load_run 82 (.tmp 46) rfl (.pointer (some ⟨g, 9, none⟩)) (.agg (arr .u8 ob)) rfl (hl2 _ HE3.out) ?_
          refine hK.out _ _ trivial (fun _ => ?_)
          clear hK K
          simp only [Act.put]
          refine wpAnyH_ready (rs := [9]) (by kernel_rfl) (by simp) (AllReadyH.cons rfl (fun K hK => ?_) AllReadyH.nil)
          go_simp
          refine (HST.out _ HLA2.out).mono ?_
          rintro _ w3 ⟨rfl, hb3⟩
          refine hK.out _ _ trivial (fun _ => ?_)
          clear hK K
          have HB3 := hid hb3
          clear hb3
          refine Ord.take (i := 10) (d := 49) (v := ?v10) rfl rfl (by kernel_rfl) (by kernel_rfl) (by kernel_rfl) (fun _ _ _ h => h) (by rfl) ?h10 trivial ?_
          case h10 => intro w hSw; go_simp; try with_reducible rfl
          simp only [List.setIfInBounds_toArray, List.set_cons_zero, List.set_cons_succ]
          refine Ord.take (i := 11) (d := 50) (v := ?v11) rfl rfl (by kernel_rfl) (by kernel_rfl) (by kernel_rfl) (fun _ _ _ h => h) (by rfl) ?h11 trivial ?_
          case h11 => intro w hSw; go_simp; try with_reducible rfl
          simp only [List.setIfInBounds_toArray, List.set_cons_zero, List.set_cons_succ]
          refine wpAnyH_ready (rs := [12]) (by kernel_rfl) (by simp) (AllReadyH.cons rfl (fun K hK => ?_) AllReadyH.nil)
          rw [if_pos (by rfl)]
          refine wp_store_run 118 (.tmp 50) (.tmp 48) rfl (.pointer (some ⟨g, 1, none⟩)) (.agg (arr .u32 (Sha.step sb ob).list)) rfl rfl (HSTR.out w3 HB3.out) ?_
          refine hK.out _ _ trivial (fun _ => ?_)
          clear hK K
          refine wpAnyH_done (by kernel_rfl) ?_ _
          have hF := HEND.out w3 HB3.out
          have HF := hid hF
          clear hF
          generalize w3.setRow g (hL (Sha.step sb ob) ob (M.length + k)).toArray = W4 at *
          simp only [Act.put, List.setIfInBounds_toArray]
          go_wp2
          exact ⟨⟨i + k, a2, cap2, yr, ob, by omega, HY2.out, rfl, HF.out⟩, by show yr.length < ys.length; rw [HYD.out]; omega⟩
        · rw [if_pos (by rfl)]
          refine wp_load_run 82 (.tmp 46) rfl (.pointer (some ⟨g, 9, none⟩)) (.agg (arr .u8 ob)) rfl (hl2 _ HE3.out) ?_
          refine hK.out _ _ trivial (fun _ => ?_)
          clear hK K
          simp only [Act.put, List.setIfInBounds_toArray]
          refine wpAnyH_ready (rs := [4]) (by kernel_rfl) (by simp) (AllReadyH.cons rfl (fun K hK => ?_) AllReadyH.nil)
          rw [if_pos (by rfl)]
          refine wp_load_run 118 (.tmp 42) rfl (.pointer (some ⟨g, 1, none⟩)) (.agg (arr .u32 sb.list)) rfl (hl1 _ HE3.out) ?_
          refine hK.out _ _ trivial (fun _ => ?_)
          clear hK K
          simp only [Act.put]
          refine wpAnyH_ready (rs := [9]) (by kernel_rfl) (by simp) (AllReadyH.cons rfl (fun K hK => ?_) AllReadyH.nil)
          go_simp
          refine (HST.out _ HLA2.out).mono ?_
          rintro _ w3 ⟨rfl, hb3⟩
          refine hK.out _ _ trivial (fun _ => ?_)
          clear hK K
          have HB3 := hid hb3
          clear hb3
          refine Ord.take (i := 10) (d := 49) (v := ?v10) rfl rfl (by kernel_rfl) (by kernel_rfl) (by kernel_rfl) (fun _ _ _ h => h) (by rfl) ?h10 trivial ?_
          case h10 => intro w hSw; go_simp; try with_reducible rfl
          simp only [List.setIfInBounds_toArray, List.set_cons_zero, List.set_cons_succ]
          refine Ord.take (i := 11) (d := 50) (v := ?v11) rfl rfl (by kernel_rfl) (by kernel_rfl) (by kernel_rfl) (fun _ _ _ h => h) (by rfl) ?h11 trivial ?_
          case h11 => intro w hSw; go_simp; try with_reducible rfl
          simp only [List.setIfInBounds_toArray, List.set_cons_zero, List.set_cons_succ]
          refine wpAnyH_ready (rs := [12]) (by kernel_rfl) (by simp) (AllReadyH.cons rfl (fun K hK => ?_) AllReadyH.nil)
          rw [if_pos (by rfl)]
          refine wp_store_run 118 (.tmp 50) (.tmp 48) rfl (.pointer (some ⟨g, 1, none⟩)) (.agg (arr .u32 (Sha.step sb ob).list)) rfl rfl (HSTR.out w3 HB3.out) ?_
          refine hK.out _ _ trivial (fun _ => ?_)
          clear hK K
          refine wpAnyH_done (by kernel_rfl) ?_ _
          have hF := HEND.out w3 HB3.out
          have HF := hid hF
          clear hF
          generalize w3.setRow g (hL (Sha.step sb ob) ob (M.length + k)).toArray = W4 at *
          simp only [Act.put, List.setIfInBounds_toArray]
          go_wp2
          exact ⟨⟨i + k, a2, cap2, yr, ob, by omega, HY2.out, rfl, HF.out⟩, by show yr.length < ys.length; rw [HYD.out]; omega⟩
      · have hcond : (((M.length : Int) + (k : Int)) % 64 == 0) = false := by rw [beq_eq_false_iff_ne]; omega
        go_wp2
        refine ⟨⟨i + k, a2, cap2, yr, putL op' (M.length % 64) (ys.take k), by omega, HY2.out, rfl, HRX2.out.kept HG2.out, ?_, grown_trans hgr HG2.out, hla.grown HG2.out h2⟩, ?_⟩
        · rw [← HM2.out]
          exact hs_less HOL.out HHS.out.lo HHS.out.tk HHS.out.hi HYT.out (by rw [HYTL.out]; omega) (by rw [HYTL.out]; exact HE3.out)
        · show yr.length < ys.length
          rw [HYD.out]; omega
end Go.Proofs.YtgnjicpmfpgdeaaDoor.Sh
