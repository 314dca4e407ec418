/-
  The contract of sha.Read: the digest of a text, or ErrArg.
-/
import Derived.Test.YtkehhlbbnlnbcaaDoorMethods
namespace Go.Proofs.YtkehhlbbnlnbcaaDoor
open Go.RowKit Sha

/-- The number of a sign, or 16 where it is none. -/
def hexV (c : Nat) : Nat := hexL.idxOf c
theorem hexV_le (c : Nat) : hexV c ≤ 16 := by
  have : hexL.idxOf c ≤ hexL.length := List.idxOf_le_length
  exact this

/-- One sign more. -/
def rd1 (d : List Nat) (i c : Nat) : List Nat := d.set (i / 2) (d.getD (i / 2) 0 * 16 % 256 + hexV c)
/-- The digest behind the first i signs. -/
def readL (s : List Nat) : Nat → List Nat
  | 0 => z32
  | i + 1 => rd1 (readL s i) i (s.getD i 0)
theorem readL_length (s : List Nat) (i : Nat) : (readL s i).length = 32 := by
  induction i with
  | zero => rfl
  | succ i ih => rw [readL, rd1, List.length_set, ih]

/-- strings.IndexByte over the sixteen signs: the sign's number, or -1. -/
theorem index_hex (c : Nat) (hc : c < 256) : Lib.indexByte digB.data.toList ((c : Int).toNat.toUInt8) = if hexV c < 16 then ((hexV c : Nat) : Int) else -1 := by
  have : ∀ i : Fin 256, Lib.indexByte digB.data.toList (((i.val : Nat) : Int).toNat.toUInt8) = if hexV i.val < 16 then ((hexV i.val : Nat) : Int) else -1 := by decide +kernel
  exact this ⟨c, hc⟩

theorem or_nib (d x : Nat) (hx : x < 16) : bits .or .u8 (((d : Int) * 16) % 256) (x : Int) = ((d * 16 % 256 + x : Nat) : Int) := by
  have key : ∀ m y : Nat, m < 16 → y < 16 → bits .or .u8 ((m : Int) * 16) (y : Int) = ((m * 16 + y : Nat) : Int) := by
    have : ∀ (i j : Fin 16), bits .or .u8 (((i.val : Nat) : Int) * 16) ((j.val : Nat) : Int) = ((i.val * 16 + j.val : Nat) : Int) := by decide +kernel
    intro m y hm hy
    exact this ⟨m, hm⟩ ⟨y, hy⟩
  have e : ((d : Int) * 16) % 256 = ((d % 16 : Nat) : Int) * 16 := by omega
  have e2 : d * 16 % 256 = d % 16 * 16 := by omega
  rw [e, e2]
  exact key _ _ (by omega) hx
theorem readL_lt (s : List Nat) (i : Nat) (h : ∀ j, j < i → hexV (s.getD j 0) < 16) : ∀ q, (readL s i).getD q 0 < 256 := by
  induction i with
  | zero =>
    intro q
    by_cases hq : q < 32
    · have : ∀ j : Fin 32, (readL s 0).getD j.val 0 < 256 := by
        intro j
        show z32.getD j.val 0 < 256
        have : ∀ j : Fin 32, z32.getD j.val 0 < 256 := by decide
        exact this j
      exact this ⟨q, hq⟩
    · rw [List.getD, List.getElem?_eq_none (by rw [readL_length]; omega)]; decide
  | succ i ih =>
    intro q
    have h1 := ih (fun j hj => h j (by omega))
    have h2 := h i (by omega)
    rw [readL, rd1, List.getD, List.getElem?_set]
    split
    · split
      · show _ < 256
        simp only [Option.getD_some]
        omega
      · decide
    · exact h1 q

/-- A string's bytes. -/
def strL (s : ByteArray) : List Nat := s.data.toList.map fun b => b.toNat
theorem strL_length (s : ByteArray) : (strL s).length = s.size := by simp [strL]
theorem strL_get (s : ByteArray) (k : Nat) (h : k < s.size) : (s[k]'h).toNat = (strL s).getD k 0 := by
  have h2 : k < s.data.toList.length := by simpa using h
  simp only [strL, List.getD, List.getElem?_map, List.getElem?_eq_getElem h2, Option.map_some, Option.getD_some]
  rfl
theorem strL_lt (s : ByteArray) (k : Nat) : (strL s).getD k 0 < 256 := by
  simp only [strL, List.getD, List.getElem?_map]
  cases s.data.toList[k]? with
  | none => decide
  | some b => exact b.toNat_lt

/-- All signs are a digest's. -/
def allHex (l : List Nat) (n : Nat) : Prop := ∀ j, j < n → hexV (l.getD j 0) < 16

structure MemR (w wr : World) (t : TypeId) (d : List Nat) : Prop where
  res : wr.heap[w.heap.size]? = some (.cells (arr .u8 z32) t (0, 0))
  dv : wr.heap[w.heap.size + 1]? = some (.cells (arr .u8 d) t (0, 0))
  bel : Below w.heap.size w wr
theorem MemR.put {w wr : World} {t : TypeId} {d : List Nat} (h : MemR w wr t d) (i v : Nat) : MemR w (wr.setCell ⟨w.heap.size + 1, i, none⟩ (.int .u8 (v : Int))) t (d.set i v) := by
  refine ⟨?_, ?_, h.bel.setCell (by simp) _⟩
  · rw [heap_put_other h.dv (by omega)]; exact h.res
  · rw [Joins.block_setCell h.dv, arr_set]
theorem MemR.start (w : World) (t : TypeId) : MemR w ((w.alloc (.cells (arr .u8 z32) t)).alloc (.cells (arr .u8 z32) t)) t z32 := by
  have b1 := bel_alloc w (.cells (arr .u8 z32) t)
  have s1 : (w.alloc (.cells (arr .u8 z32) t)).heap.size = w.heap.size + 1 := by simp
  have b2 := bel_alloc (w.alloc (.cells (arr .u8 z32) t)) (.cells (arr .u8 z32) t)
  have e2 := heap_new (w.alloc (.cells (arr .u8 z32) t)) (.cells (arr .u8 z32) t)
  rw [s1] at e2
  exact ⟨by rw [b2.block _ (by omega)]; exact heap_new _ _, e2, Bn b1 b2⟩

set_option maxHeartbeats 1600000 in
set_option maxRecDepth 100000 in
theorem read_good (s : ByteArray) (w : World) (hs : s.size = 64) (hh : allHex (strL s) 64) :
    Calls Tryd.prog 19 #[.string s] w fun e w' => e = .returned (.tuple #[.agg (arr .u8 (readL (strL s) 64)), .int .i64 0]) ∧ Below w.heap.size w w' := by
  have hM0 := MemR.start w 25
  have HH := hid hh
  have HM0 := hid hM0
  clear hh hM0
  go_enter Tryd.func19, Tryd.ntmps19
  go_wp2_with (first
    | (refine wpList_alloc_at rfl 25 rfl (some 2) rfl (arr .u8 z32) Tryd.zero25 w.heap.size rfl ?_)
    | (refine wpList_alloc_at rfl 25 rfl (some 4) rfl (arr .u8 z32) Tryd.zero25 (w.heap.size + 1) (by simp) ?_))
  generalize (w.alloc (.cells (arr .u8 z32) 25)).alloc (.cells (arr .u8 z32) 25) = w2 at *
  go_loopw [13] (fun i wr => ∃ k : Nat, k ≤ 64 ∧ i = .int .i64 k ∧ MemR w wr 25 (readL (strL s) k)) (fun i _ => 64 - (intOf i).toNat)
  case atStart => exact ⟨0, by omega, rfl, HM0.out⟩
  case round =>
    obtain ⟨k, hk, rfl, hM⟩ := hrel
    by_cases hlt : k < 64
    · have hk64 : (k : Int) < 64 := by omega
      have hks : k < s.size := by omega
      have hx := HH.out k hlt
      have HG := hid (strL_get s k)
      have HI := hid (index_hex _ (strL_lt s k))
      rw [if_pos hx] at HI
      have hl := readL_length (strL s) k
      have hdl := readL_lt (strL s) k (fun j hj => HH.out j (by omega)) (k / 2)
      have cd := (Joins.cell_of_block hM.dv (k / 2)).trans (arr_get .u8 _ (k / 2) (by omega))
      have fz := Joins.unfrozen_of_block hM.dv (k / 2)
      have hput := hM.put (k / 2) ((readL (strL s) k).getD (k / 2) 0 * 16 % 256 + hexV ((strL s).getD k 0))
      have HP : Hid (MemR w _ 25 (readL (strL s) (k + 1))) := hput
      have HO := hid (or_nib ((readL (strL s) k).getD (k / 2) 0) _ hx)
      have hc := strL_lt s k
      clear hput hM hl
      generalize (strL s).getD k 0 = c at *
      generalize (readL (strL s) k).getD (k / 2) 0 = dq at *
      have HX := hid (Tryd.strings_IndexByte digB (c : Int))
      rw [HI.out] at HX
      generalize hexV c = x at *
      go_wp2_with fail
      rw [HG.out]
      go_at_call 37
      refine (HX.out _).mono ?_
      rintro _ w3 ⟨rfl, hw⟩
      obtain rfl := hw.symm
      clear hw
      go_wp2
      rw [HO.out]
      exact ⟨⟨k + 1, by omega, by go_num, HP.out⟩, by simp [intOf]; omega⟩
    · obtain rfl : k = 64 := by omega
      have hres := hM.res
      have hdv := hM.dv
      have hbel := hM.bel
      have hsz : (arr .u8 (readL (strL s) 64)).size = 32 := by rw [arr_size, readL_length]
      have hasz : (Tryd.prog.info? 25).map (·.size) = some (arr .u8 (readL (strL s) 64)).size := by rw [hsz]; exact Tryd.size25
      have hld := run_loadVar_mid (P := Tryd.prog) (wr.setRow w.heap.size (arr .u8 (readL (strL s) 64))) w.heap.size 0 25 (lst .u8 (readL (strL s) 64)) _ (fun j v hv => by rw [Nat.zero_add, Joins.cell_of_block (setRow_heap _ _ _ _ _ _ hres) j, ← arr_lst, List.getElem?_toArray]; exact hv) Tryd.underlying25 rfl (by rw [lst_length, readL_length]; exact Tryd.size25)
      rw [arr_lst] at hld
      clear hM HM0 HH
      have ho := arr_one .u8 (readL (strL s) 64)
      have h1 : (arr .u8 z32).size = (arr .u8 (readL (strL s) 64)).size := by rw [hsz]; rfl
      generalize hAR : arr .u8 (readL (strL s) 64) = AR at *
      have HAR := hid hAR
      clear hAR
      go_wp2_with (first
        | (refine wpList_load_row rfl 25 _ rfl (w.heap.size + 1) rfl 25 AR (0, 0) _ hdv Tryd.underlying25 rfl hasz ?_)
        | (refine wpList_store_rowTo rfl 25 _ _ rfl rfl w.heap.size AR rfl rfl 25 _ hres hasz h1 ho ?_))
      refine bodyPost_ret (results_row_tmp rfl _ _ w.heap.size _ rfl hld) rfl ?_
      exact ⟨by rw [HAR.out]; rfl, below_setRow hbel (Nat.le_refl _) _⟩

set_option maxHeartbeats 800000 in
set_option maxRecDepth 100000 in
theorem read_len (s : ByteArray) (w : World) (hs : ((s.size : Int) != 64) = true) :
    Calls Tryd.prog 19 #[.string s] w fun e w' => e = .returned (.tuple #[.agg (arr .u8 z32), .int .i64 1]) ∧ Below w.heap.size w w' := by
  have hM := MemR.start w 25
  have hres := hM.res
  have hbel := hM.bel
  have hz := Tryd.zero25
  have hld := run_loadVar_mid (P := Tryd.prog) (((w.alloc (.cells (arr .u8 z32) 25)).alloc (.cells (arr .u8 z32) 25)).setRow w.heap.size (arr .u8 z32)) w.heap.size 0 25 (lst .u8 z32) _ (fun j v hv => by rw [Nat.zero_add, Joins.cell_of_block (setRow_heap _ _ _ _ _ _ hres) j, ← arr_lst, List.getElem?_toArray]; exact hv) Tryd.underlying25 rfl Tryd.size25
  rw [arr_lst] at hld
  have HB : Hid (Below w.heap.size w (((w.alloc (.cells (arr .u8 z32) 25)).alloc (.cells (arr .u8 z32) 25)).setRow w.heap.size (arr .u8 z32))) := below_setRow hbel (Nat.le_refl _) _
  clear hM hbel
  have ho := arr_one .u8 z32
  have hsz : (arr .u8 z32).size = 32 := rfl
  generalize arr .u8 z32 = AZ at *
  have hasz : (Tryd.prog.info? 25).map (·.size) = some AZ.size := by rw [hsz]; exact Tryd.size25
  go_enter Tryd.func19, Tryd.ntmps19
  go_wp2_with (first
    | (refine wpList_alloc_at rfl 25 rfl (some 2) rfl AZ hz w.heap.size rfl ?_)
    | (refine wpList_alloc_at rfl 25 rfl (some 4) rfl AZ hz (w.heap.size + 1) (by simp) ?_)
    | (refine wpList_store_rowTo rfl 25 _ _ rfl rfl w.heap.size AZ rfl rfl 25 _ hres hasz rfl ho ?_))
  refine bodyPost_ret (results_row_tmp rfl _ _ w.heap.size _ rfl hld) rfl ?_
  exact ⟨rfl, HB.out⟩

set_option maxHeartbeats 1600000 in
set_option maxRecDepth 100000 in
theorem read_bad (s : ByteArray) (w : World) (m : Nat) (hs : s.size = 64) (hm : m < 64) (hh : allHex (strL s) m) (hb : ¬ hexV ((strL s).getD m 0) < 16) :
    Calls Tryd.prog 19 #[.string s] w fun e w' => e = .returned (.tuple #[.agg (arr .u8 z32), .int .i64 1]) ∧ Below w.heap.size w w' := by
  have hM0 := MemR.start w 25
  have HH := hid hh
  have HM0 := hid hM0
  have HBD := hid hb
  clear hh hM0 hb
  go_enter Tryd.func19, Tryd.ntmps19
  go_wp2_with (first
    | (refine wpList_alloc_at rfl 25 rfl (some 2) rfl (arr .u8 z32) Tryd.zero25 w.heap.size rfl ?_)
    | (refine wpList_alloc_at rfl 25 rfl (some 4) rfl (arr .u8 z32) Tryd.zero25 (w.heap.size + 1) (by simp) ?_))
  generalize (w.alloc (.cells (arr .u8 z32) 25)).alloc (.cells (arr .u8 z32) 25) = w2 at *
  go_loopw [13] (fun i wr => ∃ k : Nat, k ≤ m ∧ i = .int .i64 k ∧ MemR w wr 25 (readL (strL s) k)) (fun i _ => 64 - (intOf i).toNat)
  case atStart => exact ⟨0, by omega, rfl, HM0.out⟩
  case round =>
    obtain ⟨k, hk, rfl, hM⟩ := hrel
    have hlt : k < 64 := by omega
    by_cases hlm : k < m
    · have hk64 : (k : Int) < 64 := by omega
      have hks : k < s.size := by omega
      have hx := HH.out k hlm
      have HG := hid (strL_get s k)
      have HI := hid (index_hex _ (strL_lt s k))
      rw [if_pos hx] at HI
      have hl := readL_length (strL s) k
      have hdl := readL_lt (strL s) k (fun j hj => HH.out j (by omega)) (k / 2)
      have cd := (Joins.cell_of_block hM.dv (k / 2)).trans (arr_get .u8 _ (k / 2) (by omega))
      have fz := Joins.unfrozen_of_block hM.dv (k / 2)
      have hput := hM.put (k / 2) ((readL (strL s) k).getD (k / 2) 0 * 16 % 256 + hexV ((strL s).getD k 0))
      have HP : Hid (MemR w _ 25 (readL (strL s) (k + 1))) := hput
      have HO := hid (or_nib ((readL (strL s) k).getD (k / 2) 0) _ hx)
      have hc := strL_lt s k
      clear hput hM hl
      generalize (strL s).getD k 0 = c at *
      generalize (readL (strL s) k).getD (k / 2) 0 = dq at *
      have HX := hid (Tryd.strings_IndexByte digB (c : Int))
      rw [HI.out] at HX
      generalize hexV c = x at *
      go_wp2_with fail
      rw [HG.out]
      go_at_call 37
      refine (HX.out _).mono ?_
      rintro _ w3 ⟨rfl, hw⟩
      obtain rfl := hw.symm
      clear hw
      go_wp2
      rw [HO.out]
      exact ⟨⟨k + 1, by omega, by go_num, HP.out⟩, by simp [intOf]; omega⟩
    · obtain rfl : k = m := by omega
      have hk64 : (k : Int) < 64 := by omega
      have hks : k < s.size := by omega
      have HG := hid (strL_get s k)
      have HI := hid (index_hex _ (strL_lt s k))
      rw [if_neg HBD.out] at HI
      have hc := strL_lt s k
      have hres := hM.res
      have hbel := hM.bel
      have HX := hid (Tryd.strings_IndexByte digB (((strL s).getD k 0 : Nat) : Int))
      rw [HI.out] at HX
      have hz := Tryd.zero25
      have hld := run_loadVar_mid (P := Tryd.prog) (wr.setRow w.heap.size (arr .u8 z32)) w.heap.size 0 25 (lst .u8 z32) _ (fun j v hv => by rw [Nat.zero_add, Joins.cell_of_block (setRow_heap _ _ _ _ _ _ hres) j, ← arr_lst, List.getElem?_toArray]; exact hv) Tryd.underlying25 rfl Tryd.size25
      rw [arr_lst] at hld
      have ho := arr_one .u8 z32
      have hsz : (arr .u8 z32).size = 32 := rfl
      have hasz : (Tryd.prog.info? 25).map (·.size) = some (arr .u8 z32).size := Tryd.size25
      clear hM HI HBD HH HM0
      generalize (strL s).getD k 0 = c at *
      generalize hAZ : arr .u8 z32 = AZ at *
      have HAZ := hid hAZ
      clear hAZ
      go_wp2_with fail
      rw [HG.out]
      go_at_call 37
      refine (HX.out _).mono ?_
      rintro _ w3 ⟨rfl, hw⟩
      obtain rfl := hw.symm
      clear hw
      go_wp2_with (refine wpList_store_rowTo rfl 25 _ _ rfl rfl w.heap.size AZ rfl rfl 25 _ hres hasz rfl ho ?_)
      refine bodyPost_ret (results_row_tmp rfl _ _ w.heap.size _ rfl hld) rfl ?_
      exact ⟨by rw [HAZ.out]; rfl, below_setRow hbel (Nat.le_refl _) _⟩
end Go.Proofs.YtkehhlbbnlnbcaaDoor
