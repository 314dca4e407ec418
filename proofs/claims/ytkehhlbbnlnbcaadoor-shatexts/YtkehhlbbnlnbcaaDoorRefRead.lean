/-
  The contract of the document's Read.
-/
import Derived.Test.YtkehhlbbnlnbcaaDoorReadW
namespace Go.Proofs.YtkehhlbbnlnbcaaDoor
open Go.RowKit Sha

theorem dig_at (c : Nat) (hc : c < 256) (h : hexV c < 16) : dig (hexV c) = c := by
  have : ∀ i : Fin 256, hexV i.val < 16 → dig (hexV i.val) = i.val := by decide +kernel
  exact this ⟨c, hc⟩ h
theorem dig_below (c j : Nat) (hc : c < 256) (hj : j < hexV c) : dig j ≠ c := by
  have : ∀ i : Fin 256, ∀ q : Fin 16, q.val < hexV i.val → dig q.val ≠ i.val := by decide +kernel
  exact this ⟨c, hc⟩ ⟨j, by have := hexV_le c; omega⟩ hj

set_option maxHeartbeats 3200000 in
set_option maxRecDepth 100000 in
theorem readr_good (s : ByteArray) (w : World) (hs : s.size = 64) (hh : allHex (strL s) 64) :
    Calls Tryd.prog 20 #[.string s] w fun e w' => e = .returned (.tuple #[.agg (arr .u8 (readL (strL s) 64)), .int .i64 0]) ∧ Below w.heap.size w w' := by
  have hM0 := MemR.start w 24
  have HH := hid hh
  have HM0 := hid hM0
  clear hh hM0
  go_enter Tryd.func20, Tryd.ntmps20
  go_wp2_with (first
    | (refine wpList_alloc_at rfl 24 rfl (some 2) rfl (arr .u8 z32) Tryd.zero24 w.heap.size rfl ?_)
    | (refine wpList_alloc_at rfl 24 rfl (some 4) rfl (arr .u8 z32) Tryd.zero24 (w.heap.size + 1) (by simp) ?_))
  generalize (w.alloc (.cells (arr .u8 z32) 24)).alloc (.cells (arr .u8 z32) 24) = w2 at *
  go_loopw [5] (fun i wr => ∃ k : Nat, k ≤ 64 ∧ i = .int .i64 k ∧ MemR w wr 24 (readL (strL s) k)) (fun i _ => 64 - (intOf i).toNat)
  case atStart => exact ⟨0, by omega, rfl, HM0.out⟩
  case round =>
    obtain ⟨k, hk, rfl, hM⟩ := hrel
    by_cases hlt : k < 64
    · have hk64 : (k : Int) < 64 := by omega
      have hks : k < s.size := by omega
      have hx := HH.out k hlt
      have HG := hid (strL_get s k)
      have hc := strL_lt s k
      have HDA := hid (dig_at _ hc hx)
      have HDB := hid (fun j => dig_below _ j hc)
      have HMk := hid hM
      have hl := readL_length (strL s) k
      have HPUT := hid (fun (W : World) (h : MemR w W 24 (readL (strL s) k)) => h.put (k / 2) ((readL (strL s) k).getD (k / 2) 0 * 16 % 256 + hexV ((strL s).getD k 0)))
      have HRN : Hid (readL (strL s) (k + 1) = (readL (strL s) k).set (k / 2) ((readL (strL s) k).getD (k / 2) 0 * 16 % 256 + hexV ((strL s).getD k 0))) := rfl
      have hdl := readL_lt (strL s) k (fun j hj => HH.out j (by omega)) (k / 2)
      clear hM
      generalize (strL s).getD k 0 = c at *
      generalize hexV c = x at *
      go_wp2_with fail
      go_loopw [6] (fun kv wq => ∃ j : Nat, j ≤ x ∧ kv = .int .i64 j ∧ ∃ n, wq = wr.drewN n) (fun kv _ => 16 - (intOf kv).toNat)
      case atStart => exact ⟨0, by omega, rfl, 0, rfl⟩
      case round =>
        obtain ⟨j, hj, rfl, n, rfl⟩ := hrel
        have hj16 : (j : Int) < 16 := by omega
        have hjb : j < 16 := by omega
        have GD := hid (dig_get j)
        generalize hWn : wr.drewN n = Wn at *
        have HWn := hid hWn
        clear hWn
        by_cases hjx : j < x
        · have hne := HDB.out j hjx
          have hne' : (((dig j : Nat) : Int) != (c : Int)) = true := by rw [bne_iff_ne]; omega
          have HNE := hid hne'
          clear hne hne'
          go_wp2_with fail
          go_quiet (fail)
          rw [GD.out, HG.out, HNE.out]
          have HW2 : Hid (∃ m, Wn.drewN nq = wr.drewN m) := ⟨n + nq, by rw [← HWn.out, World.drewN_drewN]⟩
          generalize Wn.drewN nq = W3 at *
          go_wp2
          exact ⟨⟨j + 1, by omega, by go_num, HW2.out⟩, by simp [intOf]; omega⟩
        · obtain rfl : j = x := by omega
          have heq : (((dig j : Nat) : Int) != (c : Int)) = false := by rw [HDA.out]; simp
          have HEQ := hid heq
          have hj16n : ((j : Int) == 16) = false := by rw [beq_eq_false_iff_ne]; omega
          clear heq
          go_wp2_with fail
          go_quiet (fail)
          rw [GD.out, HG.out, HEQ.out]
          have hM3 : MemR w (Wn.drewN nq) 24 (readL (strL s) k) := by
            rw [← HWn.out, World.drewN_drewN]
            exact ⟨HMk.out.res, HMk.out.dv, Wd.bel_drewN HMk.out.bel _⟩
          have cd := (Joins.cell_of_block hM3.dv (k / 2)).trans (arr_get .u8 _ (k / 2) (by omega))
          have fz := Joins.unfrozen_of_block hM3.dv (k / 2)
          have HP := hid (HPUT.out _ hM3)
          rw [← HRN.out] at HP
          clear hM3 hl
          generalize Wn.drewN nq = W3 at *
          generalize (readL (strL s) k).getD (k / 2) 0 = dq at *
          go_wp2
          rw [show ((dq : Int) * 16 % 256 + (j : Int)) = ((dq * 16 % 256 + j : Nat) : Int) from by omega]
          exact ⟨⟨k + 1, by omega, by go_num, HP.out⟩, by simp [intOf]; omega⟩
    · obtain rfl : k = 64 := by omega
      have hres := hM.res
      have hdv := hM.dv
      have hbel := hM.bel
      have hsz : (arr .u8 (readL (strL s) 64)).size = 32 := by rw [arr_size, readL_length]
      have hasz : (Tryd.prog.info? 24).map (·.size) = some (arr .u8 (readL (strL s) 64)).size := by rw [hsz]; exact Tryd.size24
      have hld := run_loadVar_mid (P := Tryd.prog) (wr.setRow w.heap.size (arr .u8 (readL (strL s) 64))) w.heap.size 0 24 (lst .u8 (readL (strL s) 64)) _ (fun j v hv => by rw [Nat.zero_add, Joins.cell_of_block (setRow_heap _ _ _ _ _ _ hres) j, ← arr_lst, List.getElem?_toArray]; exact hv) Tryd.underlying24 rfl (by rw [lst_length, readL_length]; exact Tryd.size24)
      rw [arr_lst] at hld
      clear hM HM0 HH
      have ho := arr_one .u8 (readL (strL s) 64)
      have h1 : (arr .u8 z32).size = (arr .u8 (readL (strL s) 64)).size := by rw [hsz]; rfl
      generalize hAR : arr .u8 (readL (strL s) 64) = AR at *
      have HAR := hid hAR
      clear hAR
      go_wp2_with (first
        | (refine wpList_load_row rfl 24 _ rfl (w.heap.size + 1) rfl 24 AR (0, 0) _ hdv Tryd.underlying24 rfl hasz ?_)
        | (refine wpList_store_rowTo rfl 24 _ _ rfl rfl w.heap.size AR rfl rfl 24 _ hres hasz h1 ho ?_))
      refine bodyPost_ret (results_row_tmp rfl _ _ w.heap.size _ rfl hld) rfl ?_
      exact ⟨by rw [HAR.out]; rfl, below_setRow hbel (Nat.le_refl _) _⟩

set_option maxHeartbeats 800000 in
set_option maxRecDepth 100000 in
theorem readr_len (s : ByteArray) (w : World) (hs : ((s.size : Int) != 64) = true) :
    Calls Tryd.prog 20 #[.string s] w fun e w' => e = .returned (.tuple #[.agg (arr .u8 z32), .int .i64 1]) ∧ Below w.heap.size w w' := by
  have hM := MemR.start w 24
  have hres := hM.res
  have hdv := hM.dv
  have hbel := hM.bel
  have hz := Tryd.zero24
  have hld := run_loadVar_mid (P := Tryd.prog) (((w.alloc (.cells (arr .u8 z32) 24)).alloc (.cells (arr .u8 z32) 24)).setRow w.heap.size (arr .u8 z32)) w.heap.size 0 24 (lst .u8 z32) _ (fun j v hv => by rw [Nat.zero_add, Joins.cell_of_block (setRow_heap _ _ _ _ _ _ hres) j, ← arr_lst, List.getElem?_toArray]; exact hv) Tryd.underlying24 rfl Tryd.size24
  rw [arr_lst] at hld
  have HB : Hid (Below w.heap.size w (((w.alloc (.cells (arr .u8 z32) 24)).alloc (.cells (arr .u8 z32) 24)).setRow w.heap.size (arr .u8 z32))) := below_setRow hbel (Nat.le_refl _) _
  clear hM hbel
  have ho := arr_one .u8 z32
  have hsz : (arr .u8 z32).size = 32 := rfl
  generalize arr .u8 z32 = AZ at *
  have hasz : (Tryd.prog.info? 24).map (·.size) = some AZ.size := by rw [hsz]; exact Tryd.size24
  go_enter Tryd.func20, Tryd.ntmps20
  go_wp2_with (first
    | (refine wpList_alloc_at rfl 24 rfl (some 2) rfl AZ hz w.heap.size rfl ?_)
    | (refine wpList_alloc_at rfl 24 rfl (some 4) rfl AZ hz (w.heap.size + 1) (by simp) ?_)
    | (refine wpList_load_row rfl 24 _ rfl (w.heap.size + 1) rfl 24 AZ (0, 0) _ hdv Tryd.underlying24 rfl hasz ?_)
    | (refine wpList_store_rowTo rfl 24 _ _ rfl rfl w.heap.size AZ rfl rfl 24 _ hres hasz rfl ho ?_))
  refine bodyPost_ret (results_row_tmp rfl _ _ w.heap.size _ rfl hld) rfl ?_
  exact ⟨rfl, HB.out⟩

set_option maxHeartbeats 3200000 in
set_option maxRecDepth 100000 in
theorem readr_bad (s : ByteArray) (w : World) (m : Nat) (hs : s.size = 64) (hm : m < 64) (hh : allHex (strL s) m) (hb : ¬ hexV ((strL s).getD m 0) < 16) :
    Calls Tryd.prog 20 #[.string s] w fun e w' => e = .returned (.tuple #[.agg (arr .u8 z32), .int .i64 1]) ∧ Below w.heap.size w w' := by
  have hM0 := MemR.start w 24
  have HH := hid hh
  have HM0 := hid hM0
  have HBD := hid hb
  clear hh hM0 hb
  go_enter Tryd.func20, Tryd.ntmps20
  go_wp2_with (first
    | (refine wpList_alloc_at rfl 24 rfl (some 2) rfl (arr .u8 z32) Tryd.zero24 w.heap.size rfl ?_)
    | (refine wpList_alloc_at rfl 24 rfl (some 4) rfl (arr .u8 z32) Tryd.zero24 (w.heap.size + 1) (by simp) ?_))
  generalize (w.alloc (.cells (arr .u8 z32) 24)).alloc (.cells (arr .u8 z32) 24) = w2 at *
  go_loopw [5] (fun i wr => ∃ k : Nat, k ≤ m ∧ i = .int .i64 k ∧ MemR w wr 24 (readL (strL s) k)) (fun i _ => 64 - (intOf i).toNat)
  case atStart => exact ⟨0, by omega, rfl, HM0.out⟩
  case round =>
    obtain ⟨k, hk, rfl, hM⟩ := hrel
    have hlt : k < 64 := by omega
    by_cases hlm : k < m
    · have hk64 : (k : Int) < 64 := by omega
      have hks : k < s.size := by omega
      have hx := HH.out k hlm
      have HG := hid (strL_get s k)
      have hc := strL_lt s k
      have HDA := hid (dig_at _ hc hx)
      have HDB := hid (fun j => dig_below _ j hc)
      have HMk := hid hM
      have hl := readL_length (strL s) k
      have HPUT := hid (fun (W : World) (h : MemR w W 24 (readL (strL s) k)) => h.put (k / 2) ((readL (strL s) k).getD (k / 2) 0 * 16 % 256 + hexV ((strL s).getD k 0)))
      have HRN : Hid (readL (strL s) (k + 1) = (readL (strL s) k).set (k / 2) ((readL (strL s) k).getD (k / 2) 0 * 16 % 256 + hexV ((strL s).getD k 0))) := rfl
      have hdl := readL_lt (strL s) k (fun j hj => HH.out j (by omega)) (k / 2)
      clear hM
      generalize (strL s).getD k 0 = c at *
      generalize hexV c = x at *
      go_wp2_with fail
      go_loopw [6] (fun kv wq => ∃ j : Nat, j ≤ x ∧ kv = .int .i64 j ∧ ∃ n, wq = wr.drewN n) (fun kv _ => 16 - (intOf kv).toNat)
      case atStart => exact ⟨0, by omega, rfl, 0, rfl⟩
      case round =>
        obtain ⟨j, hj, rfl, n, rfl⟩ := hrel
        have hj16 : (j : Int) < 16 := by omega
        have hjb : j < 16 := by omega
        have GD := hid (dig_get j)
        generalize hWn : wr.drewN n = Wn at *
        have HWn := hid hWn
        clear hWn
        by_cases hjx : j < x
        · have hne := HDB.out j hjx
          have hne' : (((dig j : Nat) : Int) != (c : Int)) = true := by rw [bne_iff_ne]; omega
          have HNE := hid hne'
          clear hne hne'
          go_wp2_with fail
          go_quiet (fail)
          rw [GD.out, HG.out, HNE.out]
          have HW2 : Hid (∃ m, Wn.drewN nq = wr.drewN m) := ⟨n + nq, by rw [← HWn.out, World.drewN_drewN]⟩
          generalize Wn.drewN nq = W3 at *
          go_wp2
          exact ⟨⟨j + 1, by omega, by go_num, HW2.out⟩, by simp [intOf]; omega⟩
        · obtain rfl : j = x := by omega
          have heq : (((dig j : Nat) : Int) != (c : Int)) = false := by rw [HDA.out]; simp
          have HEQ := hid heq
          have hj16n : ((j : Int) == 16) = false := by rw [beq_eq_false_iff_ne]; omega
          clear heq
          go_wp2_with fail
          go_quiet (fail)
          rw [GD.out, HG.out, HEQ.out]
          have hM3 : MemR w (Wn.drewN nq) 24 (readL (strL s) k) := by
            rw [← HWn.out, World.drewN_drewN]
            exact ⟨HMk.out.res, HMk.out.dv, Wd.bel_drewN HMk.out.bel _⟩
          have cd := (Joins.cell_of_block hM3.dv (k / 2)).trans (arr_get .u8 _ (k / 2) (by omega))
          have fz := Joins.unfrozen_of_block hM3.dv (k / 2)
          have HP := hid (HPUT.out _ hM3)
          rw [← HRN.out] at HP
          clear hM3 hl
          generalize Wn.drewN nq = W3 at *
          generalize (readL (strL s) k).getD (k / 2) 0 = dq at *
          go_wp2
          rw [show ((dq : Int) * 16 % 256 + (j : Int)) = ((dq * 16 % 256 + j : Nat) : Int) from by omega]
          exact ⟨⟨k + 1, by omega, by go_num, HP.out⟩, by simp [intOf]; omega⟩
    · obtain rfl : k = m := by omega
      have hk64 : (k : Int) < 64 := by omega
      have hks : k < s.size := by omega
      have HG := hid (strL_get s k)
      have hc := strL_lt s k
      have HDB := hid (fun j => dig_below _ j hc)
      have hx16 : hexV ((strL s).getD k 0) = 16 := by have := hexV_le ((strL s).getD k 0); have := HBD.out; omega
      rw [hx16] at HDB
      have HM := hid hM
      clear hM HBD HH HM0 hx16
      generalize (strL s).getD k 0 = c at *
      go_wp2_with fail
      go_loopw [6] (fun kv wq => ∃ j : Nat, j ≤ 16 ∧ kv = .int .i64 j ∧ ∃ n, wq = wr.drewN n) (fun kv _ => 16 - (intOf kv).toNat)
      case atStart => exact ⟨0, by omega, rfl, 0, rfl⟩
      case round =>
        obtain ⟨j, hj, rfl, n, rfl⟩ := hrel
        have GD := hid (dig_get j)
        have hM3 : MemR w (wr.drewN n) 24 (readL (strL s) k) := ⟨HM.out.res, HM.out.dv, Wd.bel_drewN HM.out.bel _⟩
        generalize hWn : wr.drewN n = Wn at *
        have HWn := hid hWn
        clear hWn
        by_cases hjx : j < 16
        · have hj16 : (j : Int) < 16 := by omega
          have hne := HDB.out j hjx
          have hne' : (((dig j : Nat) : Int) != (c : Int)) = true := by rw [bne_iff_ne]; omega
          have HNE := hid hne'
          clear hne hne' hM3
          go_wp2_with fail
          go_quiet (fail)
          rw [GD.out, HG.out, HNE.out]
          have HW2 : Hid (∃ m, Wn.drewN nq = wr.drewN m) := ⟨n + nq, by rw [← HWn.out, World.drewN_drewN]⟩
          generalize Wn.drewN nq = W3 at *
          go_wp2
          exact ⟨⟨j + 1, by omega, by go_num, HW2.out⟩, by simp [intOf]; omega⟩
        · obtain rfl : j = 16 := by omega
          have HM3 := hid hM3
          clear hM3
          go_wp2_with fail
          go_quiet (fail)
          have hres : (Wn.drewN nq).heap[w.heap.size]? = some (.cells (arr .u8 z32) 24 (0, 0)) := HM3.out.res
          have hbel := Wd.bel_drewN HM3.out.bel nq
          generalize Wn.drewN nq = W3 at *
          have hz := Tryd.zero24
          have hld := run_loadVar_mid (P := Tryd.prog) (W3.setRow w.heap.size (arr .u8 z32)) w.heap.size 0 24 (lst .u8 z32) _ (fun j v hv => by rw [Nat.zero_add, Joins.cell_of_block (setRow_heap _ _ _ _ _ _ hres) j, ← arr_lst, List.getElem?_toArray]; exact hv) Tryd.underlying24 rfl Tryd.size24
          rw [arr_lst] at hld
          have ho := arr_one .u8 z32
          have hasz : (Tryd.prog.info? 24).map (·.size) = some (arr .u8 z32).size := Tryd.size24
          generalize hAZ : arr .u8 z32 = AZ at *
          have HAZ := hid hAZ
          clear hAZ
          go_wp2_with (refine wpList_store_rowTo rfl 24 _ _ rfl rfl w.heap.size AZ rfl rfl 24 _ hres hasz rfl ho ?_)
          refine bodyPost_ret (results_row_tmp rfl _ _ w.heap.size _ rfl hld) rfl ?_
          exact ⟨by rw [HAZ.out]; rfl, below_setRow hbel (Nat.le_refl _) _⟩
end Go.Proofs.YtkehhlbbnlnbcaaDoor
