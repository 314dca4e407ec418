/-
  The contract of the document's Derive.
-/
import Derived.Test.YtkipepodgmfbnaaDoorDerive
namespace Go.Proofs.YtkipepodgmfbnaaDoor
open Go.RowKit Sha

theorem one_cell5 (w : World) (u : Value) : (w.alloc (.cells #[u] 5)).cell? ⟨w.heap.size, 0, none⟩ = some u := by
  exact World.cell?_alloc_mark w #[u] 5 (0, 0) 0

set_option maxHeartbeats 400000 in
set_option maxRecDepth 100000 in
theorem derive_ref (a : Option Addr) (cap : Nat) (key : List Nat) (s : ByteArray) (n : Nat) (w : World) (hr : Rd w (.slice a key.length cap) a cap key) (hk : key.length ≤ 100000) (hs : s.size ≤ 100000) (_hn : n < 2 ^ 64) :
    Calls Tryd.prog 13 #[.slice a key.length cap, .string s, .int .u64 (n : Int)] w fun e w' => e = .returned (.agg (arr .u8 (hmac key (purposeL s n)))) ∧ Below w.heap.size w w' := by
  have b0 := bel_alloc w (.cells (arr .u8 z32) 26)
  have e0 := heap_new w (.cells (arr .u8 z32) 26)
  have s0 : (w.alloc (.cells (arr .u8 z32) 26)).heap.size = w.heap.size + 1 := by simp
  have HSL := hid (strL_length s)
  have HSU := hid (beL_succ n)
  have HBL := hid (beL_length n)
  have HR := hid hr
  have HB0 := hid b0
  have HP : Hid (purposeL s n = strL s ++ [0] ++ beL n 8) := rfl
  have hMl := hmac_length key (purposeL s n)
  clear hr b0
  generalize hw1 : w.alloc (.cells (arr .u8 z32) 26) = w1 at *
  have kcv := Lib.run_convert_string_bytes (P := Tryd.prog) w1 9 22 5 s Tryd.underlying9 Tryd.underlying22 Tryd.underlying5
  have hco := conv_own w1 s (by omega)
  have hcb := conv_bel w1 s
  have hcz := Lib.bytesWorld_size w1 5 s
  generalize hG : grownCap w1 s.size 0 5 = G at *
  clear hG
  generalize hwc : Lib.bytesWorld w1 5 s = wc at *
  clear hwc
  have hb3 := bel_alloc wc (.cells #[.int .u8 0] 5)
  have hz3 : (wc.alloc (.cells #[.int .u8 0] 5)).heap.size = w1.heap.size + 1 + 1 := by simp [hcz]
  have hc3 := one_cell5 wc (.int .u8 0)
  rw [hcz] at hc3
  obtain ⟨v4, w4, hap, hown4, hgr4⟩ := append_M _ w1.heap.size _ _ _ (hco.later hb3) ⟨w1.heap.size + 1, 0, none⟩ (.int .u8 0) rfl hc3 (by omega) (by omega) 22
  have hb4 : Below w1.heap.size w1 w4 := (Bn hcb hb3).grown hgr4 (by omega) hco.lt
  have HO4 : Hid (OwnM w4 w1.heap.size v4 (s.size + 1 + 0) (V (strL s ++ [0] ++ beL n 0))) := by
    show OwnM _ _ _ _ _
    rw [show beL n 0 = [] from rfl, List.append_nil, show V (strL s ++ [0]) = V (strL s) ++ [.int .u8 0] from by simp [V]]
    exact hown4
  have HB4 := hid hb4
  clear hown4 hgr4 hb4 hco hc3 hb3 hcb
  rw [s0] at hap
  go_enter Tryd.func13, Tryd.ntmps13
  go_wp2_with (first
    | (refine wpList_alloc_at rfl 26 rfl (some 6) rfl (arr .u8 z32) Tryd.zero26 w.heap.size rfl ?_; rw [hw1]; clear hw1)
    | (at_builtin; refine Lib.wpList_append_run _ rfl _ _ _ _ rfl _ _ rfl rfl _ _ hap ?_))
  go_loopw [7, 8] (fun v i wr => ∃ k : Nat, k ≤ 8 ∧ i = .int .i64 (7 - (k : Int)) ∧ OwnM wr w1.heap.size v (s.size + 1 + k) (V (strL s ++ [0] ++ beL n k)) ∧ Below w1.heap.size w1 wr) (fun _ i _ => (intOf i + 1).toNat)
  case atStart => exact ⟨0, by omega, rfl, HO4.out, HB4.out⟩
  case round =>
    obtain ⟨k, hk8, rfl, hown, hbel⟩ := hrel
    have hsz := hbel.size
    by_cases hlt : k < 8
    · have hge : (7 - (k : Int)) ≥ 0 := by omega
      obtain ⟨j, hj⟩ : ∃ j : Nat, j + k = 7 := ⟨7 - k, by omega⟩
      have hjk : (7 - (k : Int)) = (j : Int) := by omega
      have hx : ((n : Int) / 2 ^ (8 * j) % 256) = ((n / 256 ^ (7 - k) % 256 : Nat) : Int) := by
        rw [show 7 - k = j from by omega, show (2 : Int) ^ (8 * j) = ((256 ^ j : Nat) : Int) from by rw [Int.pow_mul]; simp, ← Int.natCast_ediv]
        rfl
      have HX := hid hx
      generalize hX : ((n : Int) / 2 ^ (8 * j) % 256) = X at *
      have hb5 := bel_alloc wr (.cells #[.int .u8 X] 5)
      have hz5 : (wr.alloc (.cells #[.int .u8 X] 5)).heap.size = wr.heap.size + 1 := by simp
      obtain ⟨v6, w6, hap6, hown6, hgr6⟩ := append_M _ w1.heap.size _ _ _ (hown.later hb5) ⟨wr.heap.size, 0, none⟩ (.int .u8 X) rfl (one_cell5 wr _) (by omega) (by omega) 22
      have hb6 := (hbel.alloc hsz (.cells #[.int .u8 X] 5)).grown hgr6 (by omega) hown.lt
      have HO6 : Hid (OwnM w6 w1.heap.size v6 (s.size + 1 + (k + 1)) (V (strL s ++ [0] ++ beL n (k + 1)))) := by
        show OwnM _ _ _ _ _
        rw [HSU.out k, ← List.append_assoc, ← V_snoc, ← HX.out]
        exact hown6
      have HB6 := hid hb6
      rw [← hX] at hap6
      rw [hjk]
      clear hap kcv hown6 hgr6 hb6 hb5 hz5 hown hX hx
      go_wp2_with (at_builtin; refine Lib.wpList_append_run _ rfl _ _ _ _ rfl _ _ rfl rfl _ _ hap6 ?_)
      exact ⟨⟨k + 1, by omega, by go_num, HO6.out, HB6.out⟩, by simp [intOf]⟩
    · obtain rfl : k = 8 := by omega
      have hll : (strL s ++ [0] ++ beL n 8).length = s.size + 1 + 8 := by simp [HSL.out, HBL.out]
      rw [← hll] at hown
      obtain ⟨g7, c7, hv7, hrd7⟩ := rd_ownM hown (getD_app _ _ (getD_app _ _ (strL_lt s) (by intro j; match j with | 0 => decide | j + 1 => simp)) (beL_lt n 8))
      have hB7 := Bn HB0.out hbel
      have hof := macOf_ref a cap key (some ⟨g7, 0, none⟩) c7 _ wr (HR.out.later hB7) (by rw [hv7] at hrd7; exact hrd7) hk (by rw [hll]; omega)
      rw [← HP.out] at hof hv7
      rw [← HP.out] at hll
      have HOF := hid hof
      have hres7 : wr.heap[w.heap.size]? = some (.cells (arr .u8 z32) 26 (0, 0)) := by rw [hbel.block _ (by omega)]; exact e0
      have hz7 : w.heap.size < wr.heap.size := by omega
      have HB7 := hid hB7
      subst hv7
      clear hap kcv hown hrd7 hof hB7 hll
      generalize (purposeL s n).length = pl at *
      go_wp2_with fail
      go_at_call 22
      refine HOF.out.mono ?_
      rintro _ w8 ⟨rfl, hb8⟩
      have hres : w8.heap[w.heap.size]? = some (.cells (arr .u8 z32) 26 (0, 0)) := by rw [hb8.block _ hz7]; exact hres7
      have hbel8 := Bn HB7.out hb8
      generalize hMM : hmac key (purposeL s n) = MM at *
      have HMM := hid hMM
      have hsz8 : (arr .u8 MM).size = 32 := by rw [arr_size, hMl]
      have hasz : (Tryd.prog.info? 26).map (·.size) = some (arr .u8 MM).size := by rw [hsz8]; exact Tryd.size26'
      clear hb8 HOF hres7 hMM
      go_wp2_with (refine wpList_store_rowTo rfl 26 _ _ rfl rfl w.heap.size (arr .u8 MM) rfl rfl 26 _ hres hasz (by rw [hsz8]; rfl) (arr_one _ _) ?_)
      refine bodyPost_ret (results_cell_row (ty := 26) rfl _ _ _ _ _ _ _ rfl (setRow_heap _ _ _ _ _ _ hres) Tryd.underlying26 rfl hasz) rfl ?_
      exact ⟨by rw [HMM.out], below_setRow hbel8 (Nat.le_refl _) _⟩
end Go.Proofs.YtkipepodgmfbnaaDoor
