/-
  The contracts of Add and Back, the code's and the document's.
-/
import Derived.Test.YtohbghniangknaaRow
namespace Go.Proofs.Ytohbghniangknaa
open Go.RowKit Crc

theorem not_word (s : Nat) (h : s < 2 ^ 32) : bits .xor .u32 IntKind.u32.max (s : Int) = ((s ^^^ ones : Nat) : Int) := by
  rw [show IntKind.u32.max = ((ones : Nat) : Int) from rfl, xor32 _ _ (by decide) h, Nat.xor_comm]

theorem take_snoc (zs : List Nat) (k : Nat) (hk : k < zs.length) : zs.take (k + 1) = zs.take k ++ [zs.getD k 0] := by
  rw [List.take_succ_eq_append_getElem hk]
  simp [List.getD, List.getElem?_eq_getElem hk]

theorem inR_take (r : Nat) (zs : List Nat) (k : Nat) (hk : k < zs.length) : inR r (zs.take (k + 1)) = inB (inR r (zs.take k)) (zs.getD k 0) := by
  rw [take_snoc zs k hk, inR_append]; rfl

theorem add_ref (s : Nat) (a : Option Addr) (cap : Nat) (zs : List Nat) (w : World) (hs : s < 2 ^ 32) (hr : Rd w (.slice a zs.length cap) a cap zs) :
    Calls Try.prog 11 #[.int .u32 (s : Int), .slice a zs.length cap] w fun e w' => e = .returned (.int .u32 ((add s zs : Nat) : Int)) ∧ w' = w := by
  have hcells := hr.cells
  have hroom := hr.room
  have hmost := hr.most
  unfold maxLen at hmost
  have HI := hid hr.hi
  have hlt0 := ones_lt s hs
  have HT := hid (inR_take (s ^^^ ones) zs)
  have HR := hid (fun k => inR_lt (zs.take k) (s ^^^ ones) hlt0)
  have HF : Hid (inR (s ^^^ ones) (zs.take zs.length) ^^^ ones = add s zs) := by rw [List.take_length]; exact rfl
  have HN := hid (not_word s hs)
  clear hr
  generalize zs.length = n at *
  go_enter Try.func11, Try.ntmps11
  go_wp2
  go_loop [5, 6] (fun r i => ∃ k : Nat, k ≤ n ∧ i = .int .i64 k ∧ r = .int .u32 ((inR (s ^^^ ones) (zs.take k) : Nat) : Int)) (fun _ i => n - (intOf i).toNat)
  case atStart => exact ⟨0, by omega, rfl, by rw [HN.out]; rfl⟩
  case round =>
    obtain ⟨k, hk, rfl, rfl⟩ := hrel
    by_cases hlt : k < n
    · obtain ⟨b, off, rfl, hbw, hc⟩ := hcells (by omega)
      have hck := hc k hlt
      have hyk := HI.out k
      have hrk := HR.out k
      have HTk := hid (HT.out k hlt)
      have hkn : (k : Int) < (n : Int) := by omega
      generalize zs.getD k 0 = c at *
      generalize inR (s ^^^ ones) (zs.take k) = x at *
      clear hc hcells
      go_wp2_with (go_at_call 26; refine (in_ref x c _ hrk hyk).mono ?_; rintro e w' ⟨rfl, hw⟩; obtain rfl := hw.symm; clear hw)
      go_round
      case rel => exact ⟨k + 1, by omega, by go_num, by rw [HTk.out]⟩
      case measure => simp [intOf]; omega
    · have hkn : k = n := by omega
      subst hkn
      have HE := hid (not_word _ (HR.out k))
      go_wp2
      go_ret
      exact ⟨ret_int (by rw [HE.out, HF.out]), rfl⟩

theorem table_word (x c : Nat) (hx : x < 2 ^ 32) (hc : c < 256) : bits .xor .u32 ((inB 0 (x % 256 ^^^ c) : Nat) : Int) ((x : Int) / 256) = ((inB x c : Nat) : Int) := by
  rw [show (x : Int) / 256 = ((x / 256 : Nat) : Int) from by omega, xor32 _ _ (inB_lt _ _ (by omega)) (by omega), Nat.xor_comm, ← inB_table x c hc]

theorem low_byte (x c : Nat) (hc : c < 256) : bits .xor .u8 ((x : Int) % 256) (c : Int) = ((x % 256 ^^^ c : Nat) : Int) := by
  rw [show (x : Int) % 256 = ((x % 256 : Nat) : Int) from by omega, u8_xor_nat _ _ (by omega) hc]

theorem entry_word' (z : Int) (c : Nat) (w : World) (h : c < 256) (hz : z = (c : Int)) : Calls Try.prog 14 #[.int .u8 z] w fun e w' => e = .returned (.int .u32 ((inB 0 c : Nat) : Int)) ∧ w' = w := by
  subst hz; exact entry_word c w h

theorem add_word (s : Nat) (a : Option Addr) (cap : Nat) (zs : List Nat) (w : World) (hs : s < 2 ^ 32) (hr : Rd w (.slice a zs.length cap) a cap zs) :
    Calls Try.prog 10 #[.int .u32 (s : Int), .slice a zs.length cap] w fun e w' => e = .returned (.int .u32 ((add s zs : Nat) : Int)) ∧ w' = w := by
  have hcells := hr.cells
  have hroom := hr.room
  have hmost := hr.most
  unfold maxLen at hmost
  have HI := hid hr.hi
  have hlt0 := ones_lt s hs
  have HT := hid (inR_take (s ^^^ ones) zs)
  have HR := hid (fun k => inR_lt (zs.take k) (s ^^^ ones) hlt0)
  have HF : Hid (inR (s ^^^ ones) (zs.take zs.length) ^^^ ones = add s zs) := by rw [List.take_length]; exact rfl
  have HN := hid (not_word s hs)
  clear hr
  generalize zs.length = n at *
  go_enter Try.func10, Try.ntmps10
  go_wp2
  go_loop [5, 12] (fun r i => ∃ k : Nat, k ≤ n ∧ i = .int .i64 k ∧ r = .int .u32 ((inR (s ^^^ ones) (zs.take k) : Nat) : Int)) (fun _ i => n - (intOf i).toNat)
  case atStart => exact ⟨0, by omega, rfl, by rw [HN.out]; rfl⟩
  case round =>
    obtain ⟨k, hk, rfl, rfl⟩ := hrel
    by_cases hlt : k < n
    · obtain ⟨b, off, rfl, hbw, hc⟩ := hcells (by omega)
      have hck := hc k hlt
      have hyk := HI.out k
      have hrk := HR.out k
      have HTk := hid (HT.out k hlt)
      have hkn : (k : Int) < (n : Int) := by omega
      generalize zs.getD k 0 = c at *
      generalize inR (s ^^^ ones) (zs.take k) = x at *
      have hxc : x % 256 ^^^ c < 2 ^ 8 := Nat.xor_lt_two_pow (by omega) (by omega)
      have HLB := hid (low_byte x c hyk)
      have HTW := hid (table_word x c hrk hyk)
      clear hc hcells
      go_wp2_with (go_at_call 14; refine (entry_word' _ (x % 256 ^^^ c) _ hxc HLB.out).mono ?_; rintro e w' ⟨rfl, hw⟩; obtain rfl := hw.symm; clear hw)
      go_round
      case rel => exact ⟨k + 1, by omega, by go_num, by rw [HTW.out, HTk.out]⟩
      case measure => simp [intOf]; omega
    · have hkn : k = n := by omega
      subst hkn
      have HE := hid (not_word _ (HR.out k))
      go_wp2
      go_ret
      exact ⟨ret_int (by rw [HE.out, HF.out]), rfl⟩

theorem drop_cons (zs : List Nat) (k : Nat) (hk : k < zs.length) : zs.drop k = zs.getD k 0 :: zs.drop (k + 1) := by
  rw [List.drop_eq_getElem_cons hk]
  simp [List.getD, List.getElem?_eq_getElem hk]

theorem outR_drop (r : Nat) (zs : List Nat) (k : Nat) (hk : k < zs.length) : outR r (zs.drop k) = outB (outR r (zs.drop (k + 1))) (zs.getD k 0) := by
  rw [drop_cons zs k hk, outR_cons]

theorem back_ref (s : Nat) (a : Option Addr) (cap : Nat) (zs : List Nat) (w : World) (hs : s < 2 ^ 32) (hr : Rd w (.slice a zs.length cap) a cap zs) :
    Calls Try.prog 22 #[.int .u32 (s : Int), .slice a zs.length cap] w fun e w' => e = .returned (.int .u32 ((back s zs : Nat) : Int)) ∧ w' = w := by
  have hcells := hr.cells
  have hroom := hr.room
  have hmost := hr.most
  unfold maxLen at hmost
  have HI := hid hr.hi
  have hlt0 := ones_lt s hs
  have HT := hid (outR_drop (s ^^^ ones) zs)
  have HR := hid (fun k => outR_lt (zs.drop k) (s ^^^ ones) hlt0)
  have HZ : Hid (outR (s ^^^ ones) (zs.drop zs.length) = s ^^^ ones) := by rw [List.drop_length]; exact rfl
  have HF : Hid (outR (s ^^^ ones) zs ^^^ ones = back s zs) := rfl
  have HN := hid (not_word s hs)
  clear hr
  generalize zs.length = n at *
  go_enter Try.func22, Try.ntmps22
  go_wp2
  go_loop [5, 6] (fun r i => ∃ k : Nat, k ≤ n ∧ i = .int .i64 ((k : Int) - 1) ∧ r = .int .u32 ((outR (s ^^^ ones) (zs.drop k) : Nat) : Int)) (fun _ i => (intOf i + 1).toNat)
  case atStart => exact ⟨n, by omega, rfl, by rw [HN.out, HZ.out]⟩
  case round =>
    obtain ⟨k, hk, rfl, rfl⟩ := hrel
    by_cases hlt : 0 < k
    · obtain ⟨j, rfl⟩ : ∃ j, k = j + 1 := ⟨k - 1, by omega⟩
      have e1 : ((j + 1 : Nat) : Int) - 1 = (j : Int) := by omega
      rw [e1]
      obtain ⟨b, off, rfl, hbw, hc⟩ := hcells (by omega)
      have hck := hc j (by omega)
      have hyk := HI.out j
      have hrk := HR.out (j + 1)
      have HTk := hid (HT.out j (by omega))
      generalize zs.getD j 0 = c at *
      generalize outR (s ^^^ ones) (zs.drop (j + 1)) = x at *
      have hjn : (j : Int) < (n : Int) := by omega
      clear hc hcells
      go_wp2_with (go_at_call 31; refine (out_ref x c _ hrk hyk).mono ?_; rintro e w' ⟨rfl, hw⟩; obtain rfl := hw.symm; clear hw)
      exact ⟨⟨j, by omega, rfl, by rw [HTk.out]⟩, by simp [intOf]⟩
    · have hkn : k = 0 := by omega
      subst hkn
      have HE := hid (not_word _ (outR_lt zs _ hlt0))
      go_wp2
      go_ret
      exact ⟨ret_int (by rw [HE.out, HF.out]), rfl⟩

theorem out_move (x c : Nat) (hx : x < 2 ^ 32) (hc : c < 256) : bits .xor .u32 ((outB x 0 : Nat) : Int) (c : Int) = ((outB x c : Nat) : Int) := by
  rw [xor32 _ _ (outB_lt x 0 hx) (by omega), ← outB_move x c hc hx]

theorem back_word (s : Nat) (a : Option Addr) (cap : Nat) (zs : List Nat) (w : World) (hs : s < 2 ^ 32) (hr : Rd w (.slice a zs.length cap) a cap zs) :
    Calls Try.prog 21 #[.int .u32 (s : Int), .slice a zs.length cap] w fun e w' => e = .returned (.int .u32 ((back s zs : Nat) : Int)) ∧ ∃ m, w' = w.drewN m := by
  have hcells := hr.cells
  have hroom := hr.room
  have hmost := hr.most
  unfold maxLen at hmost
  have HI := hid hr.hi
  have hlt0 := ones_lt s hs
  have HT := hid (outR_drop (s ^^^ ones) zs)
  have HR := hid (fun k => outR_lt (zs.drop k) (s ^^^ ones) hlt0)
  have HZ : Hid (outR (s ^^^ ones) (zs.drop zs.length) = s ^^^ ones) := by rw [List.drop_length]; exact rfl
  have HF : Hid (outR (s ^^^ ones) zs ^^^ ones = back s zs) := rfl
  have HN := hid (not_word s hs)
  clear hr
  generalize zs.length = n at *
  go_enter Try.func21, Try.ntmps21
  go_wp2
  go_loopw [5, 6] (fun r i wr => ∃ k : Nat, k ≤ n ∧ i = .int .i64 ((k : Int) - 1) ∧ r = .int .u32 ((outR (s ^^^ ones) (zs.drop k) : Nat) : Int) ∧ ∃ m, wr = w.drewN m) (fun _ i _ => (intOf i + 1).toNat)
  case atStart => exact ⟨n, by omega, rfl, by rw [HN.out, HZ.out], 0, rfl⟩
  case round =>
    obtain ⟨k, hk, rfl, rfl, m, rfl⟩ := hrel
    by_cases hlt : 0 < k
    · obtain ⟨j, rfl⟩ : ∃ j, k = j + 1 := ⟨k - 1, by omega⟩
      have e1 : ((j + 1 : Nat) : Int) - 1 = (j : Int) := by omega
      rw [e1]
      obtain ⟨b, off, rfl, hbw, hc⟩ := hcells (by omega)
      have hck : (w.drewN m).cell? ⟨b, off + j, none⟩ = some (.int .u8 ((zs.getD j 0 : Nat) : Int)) := by simpa using hc j (by omega)
      have hyk := HI.out j
      have hrk := HR.out (j + 1)
      have HTk := hid (HT.out j (by omega))
      generalize zs.getD j 0 = c at *
      generalize outR (s ^^^ ones) (zs.drop (j + 1)) = x at *
      have hjn : (j : Int) < (n : Int) := by omega
      have HO := hid (out_move x c hrk hyk)
      generalize hW : w.drewN m = W at *
      have HW := hid hW
      clear hc hcells hW
      go_wp2_with fail
      go_quiet ((go_at_call 30; exact Calls.quiet_of_same (zeroByteOut_any x _ hrk)))
      go_wp2
      exact ⟨⟨j, by omega, rfl, by rw [HO.out, HTk.out], m + nq, by rw [← HW.out, World.drewN_drewN]⟩, by simp [intOf]⟩
    · have hkn : k = 0 := by omega
      subst hkn
      have HE := hid (not_word _ (outR_lt zs _ hlt0))
      go_wp2
      go_ret
      exact ⟨ret_int (by rw [HE.out, HF.out]), m, rfl⟩

theorem one_ref (a : Option Addr) (cap : Nat) (zs : List Nat) (w : World) (hr : Rd w (.slice a zs.length cap) a cap zs) :
    Calls Try.prog 25 #[.slice a zs.length cap] w fun e w' => e = .returned (.int .u32 ((add 0 zs : Nat) : Int)) ∧ w' = w := by
  go_enter Try.func25, Try.ntmps25
  go_wp2_with (go_at_call 11; refine (add_ref 0 a cap zs _ (by omega) hr).mono ?_; rintro e w' ⟨rfl, hw⟩; obtain rfl := hw.symm; clear hw)
  go_ret
  exact ⟨rfl, rfl⟩
end Go.Proofs.Ytohbghniangknaa
