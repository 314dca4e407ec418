/-
  The contracts of mac.Derive and of the document's Of and Derive.
-/
import Derived.Test.YtgnjicpmfpgdeaaDoorShMark
import Derived.Test.YtgnjicpmfpgdeaaDoorShRefMac
namespace Go.Proofs.YtgnjicpmfpgdeaaDoor.Sh
open Go.RowKit Sha

/-- The bytes of a string. -/
def strL (s : ByteArray) : List Nat := s.data.toList.map fun b => b.toNat
theorem strL_length (s : ByteArray) : (strL s).length = s.size := by simp [strL]
theorem strL_lt (s : ByteArray) (k : Nat) : (strL s).getD k 0 < 256 := by
  simp only [strL, List.getD, List.getElem?_map]
  cases s.data.toList[k]? with
  | none => decide
  | some b => exact b.toNat_lt

/-- A number's bytes, the highest first. -/
def beL (n j : Nat) : List Nat := (List.range j).map fun i => n / 256 ^ (7 - i) % 256
theorem beL_length (n j : Nat) : (beL n j).length = j := by simp [beL]
theorem beL_succ (n j : Nat) : beL n (j + 1) = beL n j ++ [n / 256 ^ (7 - j) % 256] := by rw [beL, List.range_succ, List.map_append]; rfl
theorem beL_lt (n j : Nat) : ∀ i, (beL n j).getD i 0 < 256 := by
  rw [all_lt]
  intro z hz
  rw [beL, List.mem_map] at hz
  obtain ⟨i, _, rfl⟩ := hz
  exact Nat.mod_lt _ (by decide)
theorem be_bytes (n : Nat) : Wd.bytesF 8 1 (n : Int) = ints (beL n 8) := by
  apply List.ext_getElem?
  intro j
  have h1 : (Wd.bytesF 8 1 (n : Int)).length = 8 := Wd.bytesF_length _ _ _
  have h2 : (ints (beL n 8)).length = 8 := by rw [ints_length, beL_length]
  by_cases hj : j < 8
  · have e1 := Wd.bytesF_getD 8 1 (n : Int) j hj
    have e2 := ints_getD (beL n 8) j
    rw [List.getD, List.getElem?_eq_getElem (by omega), Option.getD_some] at e1 e2
    rw [List.getElem?_eq_getElem (by omega), List.getElem?_eq_getElem (by omega), e1, e2]
    have e3 : (beL n 8).getD j 0 = n / 256 ^ (7 - j) % 256 := by
      simp [beL, List.getD, hj]
    rw [e3, Wd.shF, if_pos rfl, ← Wd.pow256]
    rw [show (256 : Int) ^ (8 - 1 - j) = ((256 ^ (7 - j) : Nat) : Int) from by simp, ← Int.natCast_ediv]
    congr 1
  · rw [List.getElem?_eq_none (by omega), List.getElem?_eq_none (by omega)]

/-- What a purpose's key is the MAC of. -/
def purposeL (s : ByteArray) (n : Nat) : List Nat := strL s ++ [0] ++ beL n 8

theorem conv_own (w : World) (s : ByteArray) (hs : s.size ≤ 1000000) : OwnM (Lib.bytesWorld w 5 s) w.heap.size (.slice (some ⟨w.heap.size, 0, none⟩) s.size (grownCap w s.size 0 5)) s.size (V (strL s)) := by
  have hge := grownCap_ge w s.size 0 5
  have hcm : grownCap w s.size 0 5 ≤ maxLen := grownCap_le_maxLen w s.size 0 5 (by unfold maxLen; omega)
  have hsz : (Lib.bytesCells w 5 s).size = grownCap w s.size 0 5 := by
    simp only [Lib.bytesCells, Array.size_append, Array.size_map, Array.size_replicate, ByteArray.size_data]
    omega
  refine ⟨by simp [V, strL_length], w.heap.size, _, _, _, rfl, Nat.le_refl _, Lib.bytesWorld_at_new w 5 s, Or.inr (by rw [hsz]; exact Nat.le_refl _), hge, hcm, hsz, ?_⟩
  rw [Lib.bytesCells, Array.toList_append, List.take_append_of_le_length (by simp)]
  rw [List.take_of_length_le (by simp)]
  simp [V, strL]
theorem conv_bel (w : World) (s : ByteArray) : Below w.heap.size w (Lib.bytesWorld w 5 s) :=
  ⟨rfl, rfl, rfl, by rw [Lib.bytesWorld_size]; omega, fun k hk => Lib.bytesWorld_at_old w 5 s k hk⟩

/-- Three rows as a new list of rows. -/
theorem Ps.three {w : World} {v1 v2 v3 : Value} {a1 a2 a3 : Option Addr} {c1 c2 c3 : Nat} {z1 z2 z3 : List Nat} (h1 : Rd w v1 a1 c1 z1) (h2 : Rd w v2 a2 c2 z2) (h3 : Rd w v3 a3 c3 z3) (g : Nat) (hg : g = w.heap.size) :
    Ps (w.alloc (.cells #[v1, v2, v3] 22)) (some ⟨g, 0, none⟩) 3 [z1, z2, z3] := by
  subst hg
  have hb := bel_alloc w (.cells #[v1, v2, v3] 22)
  refine ⟨Nat.le_refl _, by unfold maxLen; omega, fun _ => ⟨w.heap.size, 0, rfl, by simp, fun j hj => ?_⟩⟩
  have hc := World.cell?_alloc_mark w #[v1, v2, v3] 22 (0, 0)
  match j, hj with
  | 0, _ => exact ⟨v1, a1, c1, hc 0, h1.later hb⟩
  | 1, _ => exact ⟨v2, a2, c2, hc 1, h2.later hb⟩
  | 2, _ => exact ⟨v3, a3, c3, hc 2, h3.later hb⟩

set_option maxHeartbeats 800000 in
set_option maxRecDepth 100000 in
theorem macOf_ref (a : Option Addr) (cap : Nat) (key : List Nat) (b : Option Addr) (capb : Nat) (z : List Nat) (w : World) (hr : Rd w (.slice a key.length cap) a cap key) (hrb : Rd w (.slice b z.length capb) b capb z) (hk : key.length ≤ 100000) (hz : z.length ≤ 300000) :
    Calls Tryd.prog 34 #[.slice a key.length cap, .slice b z.length capb] w fun e w' => e = .returned (.agg (arr .u8 (hmac key z))) ∧ Below w.heap.size w w' := by
  have b0 := bel_alloc w (.cells (arr .u8 z32) 39)
  have e0 := heap_new w (.cells (arr .u8 z32) 39)
  have s0 : (w.alloc (.cells (arr .u8 z32) 39)).heap.size = w.heap.size + 1 := by simp
  have b1 := bel_alloc (w.alloc (.cells (arr .u8 z32) 39)) (.cells #[.slice b z.length capb] 22)
  have hp := Ps.one (hrb.later b0) (w.heap.size + 1) s0.symm
  have e1 : ((w.alloc (.cells (arr .u8 z32) 39)).alloc (.cells #[.slice b z.length capb] 22)).heap[w.heap.size]? = some (.cells (arr .u8 z32) 39 (0, 0)) := by rw [b1.block _ (by omega)]; exact e0
  have s1 : ((w.alloc (.cells (arr .u8 z32) 39)).alloc (.cells #[.slice b z.length capb] 22)).heap.size = w.heap.size + 1 + 1 := by simp
  have hS := macSum_ref a cap key ⟨w.heap.size + 1, 0, none⟩ 1 [z] _ (hr.later (Bn b0 b1)) hk hp (by simp) (by simp) (by simp; omega)
  rw [show [z].flatten = z from by simp] at hS
  have HS := hid hS
  have HB := hid (Bn b0 b1)
  clear hS hp hr hrb b0 b1 e0
  go_enter Tryd.func34, Tryd.ntmps34
  go_wp2_with (refine wpList_alloc_at rfl 39 rfl (some 4) rfl (arr .u8 z32) Tryd.zero39 w.heap.size rfl ?_)
  go_at_call 54
  refine HS.out.mono ?_
  rintro _ w2 ⟨rfl, hb2⟩
  have hres : w2.heap[w.heap.size]? = some (.cells (arr .u8 z32) 39 (0, 0)) := by rw [hb2.block _ (by omega)]; exact e1
  have hbel := Bn HB.out hb2
  have hsz : (arr .u8 (hmac key z)).size = 32 := by rw [arr_size, hmac_length]
  have hasz : (Tryd.prog.info? 39).map (·.size) = some (arr .u8 (hmac key z)).size := by rw [hsz]; exact Tryd.size39'
  clear hb2 HS e1
  go_wp2_with (refine wpList_store_rowTo rfl 39 _ _ rfl rfl w.heap.size (arr .u8 (hmac key z)) rfl rfl 39 _ hres hasz (by rw [hsz]; rfl) (arr_one _ _) ?_)
  refine bodyPost_ret (results_cell_row (ty := 39) rfl _ _ _ _ _ _ _ rfl (setRow_heap _ _ _ _ _ _ hres) Tryd.underlying39 rfl hasz) rfl ?_
  exact ⟨rfl, below_setRow hbel (Nat.le_refl _) _⟩

set_option maxHeartbeats 1600000 in
set_option maxRecDepth 100000 in
theorem derive_word (a : Option Addr) (cap : Nat) (key : List Nat) (s : ByteArray) (n : Nat) (w : World) (hlaid : Laid w) (hr : Rd w (.slice a key.length cap) a cap key) (hk : key.length ≤ 100000) (hs : s.size ≤ 100000) (hn : n < 2 ^ 64) :
    Calls Tryd.prog 35 #[.slice a key.length cap, .string s, .int .u64 (n : Int)] w fun e w' => e = .returned (.agg (arr .u8 (hmac key (purposeL s n)))) ∧ Below w.heap.size w w' := by
  have b0 := bel_alloc w (.cells (arr .u8 z32) 39)
  have e0 := heap_new w (.cells (arr .u8 z32) 39)
  have s0 : (w.alloc (.cells (arr .u8 z32) 39)).heap.size = w.heap.size + 1 := by simp
  have HBW := hid (fun W : World => Wd.bytes_word (n : Int) 64 1 8 W (by omega) (by omega) (by decide) (by decide) (by decide))
  have HBE := hid (be_bytes n)
  have HBL := hid (beL_length n 8)
  have HBT := hid (beL_lt n 8)
  have HSL := hid (strL_length s)
  have kcv := fun W : World => Lib.run_convert_string_bytes (P := Tryd.prog) W 9 22 5 s Tryd.underlying9 Tryd.underlying22 Tryd.underlying5
  have HR := hid hr
  have HL := hid hlaid
  have HB0 := hid b0
  have HP : Hid (purposeL s n = strL s ++ [0] ++ beL n 8) := rfl
  have HPL : Hid ([strL s, [0], beL n 8].flatten = purposeL s n) := by show _ = _; simp [purposeL]
  have hMl := hmac_length key (purposeL s n)
  clear hr hlaid b0
  generalize beL n 8 = tl at *
  go_enter Tryd.func35, Tryd.ntmps35
  go_wp2_with (refine wpList_alloc_at rfl 39 rfl (some 6) rfl (arr .u8 z32) Tryd.zero39 w.heap.size rfl ?_)
  generalize w.alloc (.cells (arr .u8 z32) 39) = w1 at *
  go_at_call 55
  refine (HBW.out w1).mono ?_
  rintro _ w2 ⟨pv, rfl, hpo, hpb⟩
  rw [HBE.out, ints_length, V_ints] at hpo
  obtain ⟨pg, pc, rfl, hpg, hprd⟩ := rd_own hpo (by rw [HBL.out]; decide) HBT.out
  have hB2 := Bn HB0.out hpb
  have hco := conv_own w2 s (by omega)
  have hcb := conv_bel w2 s
  have hcz := Lib.bytesWorld_size w2 5 s
  rw [← HSL.out] at hco
  obtain ⟨cg, cc, hcv, hcr⟩ := rd_ownM hco (strL_lt s)
  have hkc := kcv w2
  rw [← HSL.out, hcv] at hkc
  have hfr := Rd.fresh (Lib.bytesWorld w2 5 s) #[.int .u8 0] (0, 0) [0] 1 (w2.heap.size + 1) hcz.symm rfl (by decide) rfl (by decide)
  have hb4 := bel_alloc (Lib.bytesWorld w2 5 s) (.cells #[.int .u8 0] 5)
  have hz4 : ((Lib.bytesWorld w2 5 s).alloc (.cells #[.int .u8 0] 5)).heap.size = w2.heap.size + 1 + 1 := by simp [hcz]
  rw [hcv] at hcr
  clear hco hcv kcv
  have hp5 := Ps.three (hcr.later hb4) hfr (hprd.later (Bn hcb hb4)) (w2.heap.size + 1 + 1) hz4.symm
  have hb5 := bel_alloc ((Lib.bytesWorld w2 5 s).alloc (.cells #[.int .u8 0] 5)) (.cells #[.slice (some ⟨cg, 0, none⟩) (strL s).length cc, .slice (some ⟨w2.heap.size + 1, 0, none⟩) 1 1, .slice (some ⟨pg, 0, none⟩) tl.length pc] 22)
  have hB5 := Bn (Bn hcb hb4) hb5
  have hBw := Bn hB2 hB5
  have hms := macSum_word a cap key ⟨w2.heap.size + 1 + 1, 0, none⟩ 3 [strL s, [0], tl] _ (HL.out.later hBw) (HR.out.later hBw) hk hp5 (by simp) (by simp) (by simp [HSL.out, HBL.out]; omega)
  rw [HPL.out] at hms
  have HMS := hid hms
  have hres5 : (((Lib.bytesWorld w2 5 s).alloc (.cells #[.int .u8 0] 5)).alloc (.cells #[.slice (some ⟨cg, 0, none⟩) (strL s).length cc, .slice (some ⟨w2.heap.size + 1, 0, none⟩) 1 1, .slice (some ⟨pg, 0, none⟩) tl.length pc] 22)).heap[w.heap.size]? = some (.cells (arr .u8 z32) 39 (0, 0)) := by rw [(Bn hpb hB5).block _ (by omega)]; exact e0
  have hz5 : w.heap.size < (((Lib.bytesWorld w2 5 s).alloc (.cells #[.int .u8 0] 5)).alloc (.cells #[.slice (some ⟨cg, 0, none⟩) (strL s).length cc, .slice (some ⟨w2.heap.size + 1, 0, none⟩) 1 1, .slice (some ⟨pg, 0, none⟩) tl.length pc] 22)).heap.size := (Array.getElem?_eq_some_iff.1 hres5).1
  have HBw := hid hBw
  clear hp5 hb5 hB5 hms hcr hfr hprd hpo hb4 hcb e0 hB2 hpb hBw
  go_wp2_with fail
  go_at_call 36
  generalize ((Lib.bytesWorld w2 5 s).alloc (.cells #[.int .u8 0] 5)).alloc (.cells #[.slice (some ⟨cg, 0, none⟩) (strL s).length cc, .slice (some ⟨w2.heap.size + 1, 0, none⟩) 1 1, .slice (some ⟨pg, 0, none⟩) tl.length pc] 22) = w5 at *
  refine HMS.out.mono ?_
  rintro _ w6 ⟨rfl, hb6⟩
  have hres : w6.heap[w.heap.size]? = some (.cells (arr .u8 z32) 39 (0, 0)) := by rw [hb6.block _ hz5]; exact hres5
  have hbel := Bn HBw.out hb6
  generalize hMM : hmac key (purposeL s n) = MM at *
  have HMM := hid hMM
  have hsz : (arr .u8 MM).size = 32 := by rw [arr_size, hMl]
  have hasz : (Tryd.prog.info? 39).map (·.size) = some (arr .u8 MM).size := by rw [hsz]; exact Tryd.size39'
  clear hb6 HMS hres5 hMM hkc
  go_wp2_with (refine wpList_store_rowTo rfl 39 _ _ rfl rfl w.heap.size (arr .u8 MM) rfl rfl 39 _ hres hasz (by rw [hsz]; rfl) (arr_one _ _) ?_)
  refine bodyPost_ret (results_cell_row (ty := 39) rfl _ _ _ _ _ _ _ rfl (setRow_heap _ _ _ _ _ _ hres) Tryd.underlying39 rfl hasz) rfl ?_
  exact ⟨by rw [HMM.out], below_setRow hbel (Nat.le_refl _) _⟩
end Go.Proofs.YtgnjicpmfpgdeaaDoor.Sh
