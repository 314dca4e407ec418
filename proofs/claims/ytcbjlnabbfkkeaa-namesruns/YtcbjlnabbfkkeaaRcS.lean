/-
  The document's side: a file's size, a path.
-/
import Derived.Test.YtcbjlnabbfkkeaaRcE
namespace Go.Proofs.Ytcbjlnabbfkkeaa
open Go.ChangeShapes Go.WideShapes Go.ChangeAt Go.RowKit Go.Deep

set_option maxHeartbeats 3200000 in
set_option maxRecDepth 100000 in
theorem dsize_word (a : Option Addr) (cap : Nat) (l : List Pc) (w : World) (hr : Rp w a cap l) :
    Calls Try.prog 31 #[.slice a l.length cap] w fun e w' => e = .returned (.tuple #[.int .i64 (sizO l).1, .int .i64 (sizO l).2]) ∧ w' = w := by
  have hroom := hr.room
  have hmost := hr.most
  unfold maxLen at hmost
  have HR := hid hr
  obtain ⟨len, hle⟩ : ∃ n, n = l.length := ⟨_, rfl⟩
  have HL := hid hle
  rw [← hle] at hroom ⊢
  clear hr hle
  by_cases hlong : 4096 < len
  · have e1 : ((4096 : Nat) : Int) < (len : Int) := by omega
    have HS : Hid (sizO l = (0, 130)) := by show _ = _; unfold sizO; rw [← HL.out, if_pos hlong]
    go_enter Try.func31, Try.ntmps31
    go_wp2
    go_ret2
    exact ⟨by rw [HS.out]; rfl, rfl⟩
  go_enter Try.func31, Try.ntmps31
  go_wp2
  go_loop [4, 5] (fun x4 x5 => ∃ k : Nat, k ≤ len ∧ x5 = .int .i64 (k : Int) ∧ x4 = .int .i64 (sumP (l.take k)) ∧ Hid ((l.take k).all nOk = true)) (fun _ x5 => len - (intOf x5).toNat)
  case atStart => exact ⟨0, by omega, rfl, rfl, rfl⟩
  case round =>
    obtain ⟨k, hk, rfl, rfl, HA⟩ := hrel
    have hsb := sumP_bound _ HA.out
    have htl : (l.take k).length ≤ 4096 := by simp; omega
    by_cases hlt : k < len
    · have hkz : (k : Int) < (len : Int) := by omega
      obtain ⟨b, off, rfl, hbw, hc⟩ := HR.out.cells (by rw [← HL.out]; omega)
      have hrg := (hc k (by rw [← HL.out]; exact hlt))
      have hok := HR.out.get (j := k) (by rw [← HL.out]; exact hlt)
      have HTK := hid (take_pc l k (by rw [← HL.out]; exact hlt))
      have HNO := hid (all_false l k (by rw [← HL.out]; exact hlt))
      generalize hx : l.getD k pc0 = x at *
      have hcn : w.cell? ⟨b, off + k * 33 + 32, none⟩ = some (.int .i64 x.2) := hrg 32 _ (pcC_n hok.len)
      have hwf := wf_i64 hok.i64
      clear hrg hc hok
      obtain ⟨S, hS⟩ : ∃ S, S = sumP (l.take k) := ⟨_, rfl⟩
      have HS := hid hS
      rw [← hS] at hsb ⊢
      clear hS
      by_cases hx1 : x.2 < 1
      · have HX : Hid (nOk x = false) := decide_eq_false (by omega)
        go_wp2
        go_ret2
        refine ⟨?_, rfl⟩
        unfold sizO
        rw [← HL.out, if_neg hlong, HNO.out HX.out]
        rfl
      · by_cases hx2 : 4096 < x.2
        · have HX : Hid (nOk x = false) := decide_eq_false (by omega)
          go_wp2
          go_ret2
          refine ⟨?_, rfl⟩
          unfold sizO
          rw [← HL.out, if_neg hlong, HNO.out HX.out]
          rfl
        · have HX : Hid (nOk x = true) := decide_eq_true (by omega)
          go_wp2
          go_round
          case rel => exact ⟨k + 1, by omega, by go_num, by rw [HTK.out, sumP_app, HS.out]; simp [sumP], by show _ = _; rw [HTK.out, List.all_append, HA.out]; simp [HX.out]⟩
          case measure => simp [intOf]; omega
    · have hkl : k = len := by omega
      subst hkl
      have HT : Hid (l.take k = l) := List.take_of_length_le (by rw [HL.out]; exact Nat.le_refl _)
      rw [HT.out] at hsb HA ⊢
      obtain ⟨S, hS⟩ : ∃ S, S = sumP l := ⟨_, rfl⟩
      have HS := hid hS
      rw [← hS] at hsb ⊢
      clear hS
      by_cases hbig : 1048576 < S
      · go_wp2
        go_ret2
        refine ⟨?_, rfl⟩
        unfold sizO
        rw [← HL.out, if_neg hlong, if_pos HA.out, ← HS.out, if_pos (by omega)]
        rfl
      · go_wp2
        go_ret2
        refine ⟨?_, rfl⟩
        unfold sizO
        rw [← HL.out, if_neg hlong, if_pos HA.out, ← HS.out, if_neg (by omega)]
        rfl
set_option maxHeartbeats 3200000 in
set_option maxRecDepth 100000 in
theorem dpath_word (s : ByteArray) (w : World) (hs : s.size ≤ maxLen) : Calls Try.prog 51 #[.string s] w fun e w' => e = .returned (.bool (pathB s)) ∧ w' = w := by
  unfold maxLen at hs
  by_cases hx0 : (s.size : Int) < 1
  · have HX : Hid (decide (1 ≤ s.size ∧ s.size ≤ 255) = false) := decide_eq_false (by omega)
    have HP : Hid (pathB s = false) := by show _ = _; unfold pathB; rw [HX.out]; rfl
    go_enter Try.func51, Try.ntmps51
    go_wp2
    go_ret
    exact ⟨by rw [HP.out]; rfl, rfl⟩
  by_cases hx1 : 255 < (s.size : Int)
  · have HX : Hid (decide (1 ≤ s.size ∧ s.size ≤ 255) = false) := decide_eq_false (by omega)
    have HP : Hid (pathB s = false) := by show _ = _; unfold pathB; rw [HX.out]; rfl
    go_enter Try.func51, Try.ntmps51
    go_wp2
    go_ret
    exact ⟨by rw [HP.out]; rfl, rfl⟩
  have HX : Hid (decide (1 ≤ s.size ∧ s.size ≤ 255) = true) := decide_eq_true (by omega)
  have e0 : decide ((s.size : Int) < 1) = false := decide_eq_false hx0
  have e1 : decide (255 < (s.size : Int)) = false := decide_eq_false hx1
  have e2 : decide (255 < s.size) = false := decide_eq_false (by omega)
  go_enter Try.func51, Try.ntmps51
  go_wp2
  go_loop [3] (fun x => ∃ k : Nat, k ≤ s.size ∧ x = .int .i64 (k : Int) ∧ Hid ((s.data.toList.take k).all chr8 = true)) (fun x => s.size - (intOf x).toNat)
  case atStart => exact ⟨0, by omega, rfl, rfl⟩
  case round =>
    obtain ⟨k, hk, rfl, HA⟩ := hrel
    by_cases hlt : k < s.size
    · have hkz : (k : Int) < (s.size : Int) := by omega
      have HTK := hid (str_take s k hlt)
      by_cases h33 : (33 : Int) ≤ (s[k].toNat : Int)
      · by_cases h126 : (s[k].toNat : Int) ≤ 126
        · have HC : Hid (chr8 s[k] = true) := decide_eq_true (by omega)
          go_wp2
          go_round
          case rel => exact ⟨k + 1, by omega, by go_num, by show _ = _; rw [HTK.out, List.all_append, HA.out]; simp [HC.out]⟩
          case measure => simp [intOf]; omega
        · have HC : Hid (chr8 s[k] = false) := decide_eq_false (by omega)
          go_wp2
          go_ret
          exact ⟨(path_no s k hlt HC.out) ▸ rfl, rfl⟩
      · have HC : Hid (chr8 s[k] = false) := decide_eq_false (by omega)
        go_wp2
        go_ret
        exact ⟨(path_no s k hlt HC.out) ▸ rfl, rfl⟩
    · have hkl : k = s.size := by omega
      have HP : Hid (pathB s = true) := by
        show _ = _
        have := HA.out
        rw [List.take_of_length_le (by show s.size ≤ k; omega)] at this
        unfold pathB
        rw [HX.out, this]
        rfl
      go_wp2
      go_ret
      exact ⟨HP.out ▸ rfl, rfl⟩
end Go.Proofs.Ytcbjlnabbfkkeaa
