/-
  Which records may be: the contracts of record's within, Size, IsPath, mayOfKind, may, Check.
-/
import Derived.Test.YtplinkmagnihmaaDoorRcA
namespace Go.Proofs.YtplinkmagnihmaaDoor
open Go.ChangeShapes Go.WideShapes Go.ChangeAt Go.RowKit Go.Deep

theorem within_word (n m : Int) (w : World) : Calls Tryd.prog 95 #[.int .i64 n, .int .i64 m] w fun e w' => e = .returned (.bool (decide (1 ≤ n ∧ n ≤ m))) ∧ w' = w := by
  by_cases h1 : 1 ≤ n
  · by_cases h2 : n ≤ m
    · rw [decide_eq_true (show 1 ≤ n ∧ n ≤ m from ⟨h1, h2⟩)]
      go_enter Tryd.func95, Tryd.ntmps95
      go_wp2
      go_ret
      exact ⟨rfl, rfl⟩
    · rw [decide_eq_false (show ¬ (1 ≤ n ∧ n ≤ m) from fun h => h2 h.2)]
      go_enter Tryd.func95, Tryd.ntmps95
      go_wp2
      go_ret
      exact ⟨rfl, rfl⟩
  · rw [decide_eq_false (show ¬ (1 ≤ n ∧ n ≤ m) from fun h => h1 h.1)]
    go_enter Tryd.func95, Tryd.ntmps95
    go_wp2
    go_ret
    exact ⟨rfl, rfl⟩

def nOk (x : Pc) : Bool := decide (1 ≤ x.2 ∧ x.2 ≤ 4096)
def sumP : List Pc → Int
  | [] => 0
  | x :: l => x.2 + sumP l
theorem sumP_app (l m : List Pc) : sumP (l ++ m) = sumP l + sumP m := by
  induction l with
  | nil => simp [sumP]
  | cons x l ih => simp only [List.cons_append, sumP, ih]; omega
theorem sumP_bound (l : List Pc) (h : l.all nOk = true) : 0 ≤ sumP l ∧ sumP l ≤ 4096 * l.length := by
  induction l with
  | nil => simp [sumP]
  | cons x l ih =>
    simp only [List.all_cons, Bool.and_eq_true] at h
    have := ih h.2
    have hx := of_decide_eq_true h.1
    simp only [sumP, List.length_cons]
    omega
def sizO (l : List Pc) : Int × Int := if 4096 < l.length then (0, 130) else if l.all nOk = true then (if 1048576 < sumP l then (0, 130) else (sumP l, 0)) else (0, 130)
theorem take_pc (l : List Pc) (k : Nat) (h : k < l.length) : l.take (k + 1) = l.take k ++ [l.getD k pc0] := by
  rw [List.take_add_one]
  simp [List.getD, List.getElem?_eq_getElem h]
theorem all_false (l : List Pc) (k : Nat) (h : k < l.length) (hx : nOk (l.getD k pc0) = false) : l.all nOk = false := by
  rw [List.all_eq_false]
  exact ⟨l.getD k pc0, by simp [List.getD, List.getElem?_eq_getElem h], by rw [hx]; simp⟩
def pcZ : Array Value := (pcC (z32, 0)).toArray
theorem Tryd.zero80 : ∀ w, (zeroValue 80).run Tryd.prog w = .ok (.agg pcZ) w := fun w => by kernel_rfl
theorem pcZ_size {x : Pc} (h : (pcC x).length = 33) : pcZ.size = (pcC x).toArray.size := by rw [show (pcC x).toArray.size = (pcC x).length from rfl, h]; rfl
theorem size_long (a : Option Addr) (n cap : Nat) (w : World) (hn : 4096 < n) (hm : n ≤ maxLen) :
    Calls Tryd.prog 99 #[.slice a n cap] w fun e w' => e = .returned (.tuple #[.int .i64 0, .int .i64 130]) ∧ w' = w := by
  have e1 : ((4096 : Nat) : Int) < (n : Int) := by omega
  unfold maxLen at hm
  go_enter Tryd.func99, Tryd.ntmps99
  go_wp2
  go_ret2
  exact ⟨rfl, rfl⟩
set_option maxHeartbeats 3200000 in
set_option maxRecDepth 100000 in
theorem size_word (a : Option Addr) (cap : Nat) (l : List Pc) (w : World) (hr : Rp w a cap l) :
    Calls Tryd.prog 99 #[.slice a l.length cap] w fun e w' => e = .returned (.tuple #[.int .i64 (sizO l).1, .int .i64 (sizO l).2]) ∧ Below w.heap.size w w' := by
  have hroom := hr.room
  have hmost := hr.most
  by_cases hlong : 4096 < l.length
  · refine (size_long a l.length cap w hlong (by omega)).mono ?_
    rintro e w' ⟨rfl, rfl⟩
    unfold sizO
    rw [if_pos hlong]
    exact ⟨rfl, Below.refl _ _⟩
  unfold maxLen at hmost
  have HR := hid hr
  obtain ⟨len, hle⟩ : ∃ n, n = l.length := ⟨_, rfl⟩
  have HL := hid hle
  rw [← hle] at hlong hroom ⊢
  clear hr hle
  go_enter Tryd.func99, Tryd.ntmps99
  go_wp2
  go_loopw [4, 12] (fun x4 x12 wr => ∃ k : Nat, k ≤ len ∧ x12 = .int .i64 (k : Int) ∧ x4 = .int .i64 (sumP (l.take k)) ∧ Below w.heap.size w wr ∧ Hid ((l.take k).all nOk = true)) (fun _ x12 _ => len - (intOf x12).toNat)
  case atStart => exact ⟨0, by omega, rfl, rfl, Below.refl _ _, rfl⟩
  case round =>
    obtain ⟨k, hk, rfl, rfl, hbel, HA⟩ := hrel
    have hsb := sumP_bound _ HA.out
    have htl : (l.take k).length ≤ 4096 := by simp; omega
    by_cases hlt : k < len
    · have hkz : (k : Int) < (len : Int) := by omega
      obtain ⟨b, off, rfl, hbw, hc⟩ := HR.out.cells (by rw [← HL.out]; omega)
      have hrg := (hc k (by rw [← HL.out]; exact hlt))
      have HRG : Hid (wr.rangeAt b (off + k * 33) (pcC (l.getD k pc0))) := fun j v hv => (hbel.cell (p := ⟨b, off + k * 33 + j, none⟩) hbw).trans (hrg j v hv)
      have hok := HR.out.get (j := k) (by rw [← HL.out]; exact hlt)
      have HTK := hid (take_pc l k (by rw [← HL.out]; exact hlt))
      have HNO := hid (all_false l k (by rw [← HL.out]; exact hlt))
      generalize hx : l.getD k pc0 = x at *
      have HLP := hid (pcC_len hok.len)
      have HE : Hid ((wr.alloc (.cells (pcC x).toArray 80)).heap[wr.heap.size]? = some (.cells (pcC x).toArray 80)) := heap_alc _ _
      have hcn : (wr.alloc (.cells (pcC x).toArray 80)).cell? ⟨wr.heap.size, 32, none⟩ = some (.int .i64 x.2) := (Joins.cell_of_block HE.out 32).trans (by rw [List.getElem?_toArray]; exact pcC_n hok.len)
      have HB2 := hid (Bn hbel (bel_alc wr (.cells (pcC x).toArray 80)))
      have HW := hid (fun V => within_word x.2 4096 V)
      have hwf := wf_i64 hok.i64
      clear hbel hrg hc hok
      obtain ⟨S, hS⟩ : ∃ S, S = sumP (l.take k) := ⟨_, rfl⟩
      have HS := hid hS
      rw [← hS] at hsb ⊢
      clear hS
      go_wp2_with (first | refine wpList_load_mid rfl 80 _ rfl b (off + k * 33) rfl (pcC x) _ HRG.out Tryd.underlying80 rfl (by rw [HLP.out]; exact Tryd.size80) ?_ | refine wpList_alloc_at rfl 80 rfl (some 6) rfl _ Tryd.zero80 wr.heap.size rfl ?_ | refine wpList_store_new rfl 80 _ _ rfl rfl wr pcZ (pcC x).toArray rfl rfl rfl (by rw [List.size_toArray, HLP.out]; exact Tryd.size80) (pcZ_size HLP.out) (all_oneCell_toArray (pcC_one x)) ?_ | fail)
      refine (HW.out _).mono ?_
      rintro _ w0 ⟨rfl, hw⟩
      obtain rfl := hw.symm
      clear hw HW
      by_cases hx : 1 ≤ x.2 ∧ x.2 ≤ 4096
      · rw [decide_eq_true hx]
        have hx1 := hx.1
        have hx2 := hx.2
        have HX : Hid (nOk x = true) := decide_eq_true hx
        clear hx
        go_wp2
        go_round
        case rel => exact ⟨k + 1, by omega, by go_num, by rw [HTK.out, sumP_app, HS.out]; simp [sumP], HB2.out, by show _ = _; rw [HTK.out, List.all_append, HA.out]; simp [HX.out]⟩
        case measure => simp [intOf]; omega
      · rw [decide_eq_false hx]
        have HX : Hid (nOk x = false) := decide_eq_false hx
        clear hx
        go_wp2
        go_ret2
        refine ⟨?_, HB2.out⟩
        unfold sizO
        rw [← HL.out, if_neg hlong, HNO.out HX.out]
        rfl
    · have hkl : k = len := by omega
      subst hkl
      have HT : Hid (l.take k = l) := List.take_of_length_le (by rw [HL.out]; exact Nat.le_refl _)
      rw [HT.out] at hsb HA ⊢
      have HB := hid hbel
      clear hbel
      obtain ⟨S, hS⟩ : ∃ S, S = sumP l := ⟨_, rfl⟩
      have HS := hid hS
      rw [← hS] at hsb ⊢
      clear hS
      by_cases hbig : 1048576 < S
      · go_wp2
        go_ret2
        refine ⟨?_, HB.out⟩
        unfold sizO
        rw [← HL.out, if_neg hlong, if_pos HA.out, ← HS.out, if_pos (by omega)]
        rfl
      · go_wp2
        go_ret2
        refine ⟨?_, HB.out⟩
        unfold sizO
        rw [← HL.out, if_neg hlong, if_pos HA.out, ← HS.out, if_neg (by omega)]
        rfl

def chr8 (c : UInt8) : Bool := decide (33 ≤ c.toNat ∧ c.toNat ≤ 126)
def pathB (s : ByteArray) : Bool := decide (1 ≤ s.size ∧ s.size ≤ 255) && s.data.toList.all chr8
theorem str_take (s : ByteArray) (k : Nat) (h : k < s.size) : s.data.toList.take (k + 1) = s.data.toList.take k ++ [s[k]] := by
  have h' : k < s.data.toList.length := h
  rw [List.take_add_one, List.getElem?_eq_getElem h']
  rfl
theorem path_no (s : ByteArray) (k : Nat) (h : k < s.size) (hc : chr8 s[k] = false) : pathB s = false := by
  unfold pathB
  rw [Bool.and_eq_false_iff]
  right
  rw [List.all_eq_false]
  exact ⟨s[k], List.getElem_mem (l := s.data.toList) (show k < s.data.toList.length from h), by rw [hc]; simp⟩
set_option maxHeartbeats 3200000 in
set_option maxRecDepth 100000 in
theorem path_word (s : ByteArray) (w : World) (hs : s.size ≤ maxLen) : Calls Tryd.prog 100 #[.string s] w fun e w' => e = .returned (.bool (pathB s)) ∧ w' = w := by
  unfold maxLen at hs
  have HW := hid (fun V => within_word (s.size : Int) 255 V)
  go_enter Tryd.func100, Tryd.ntmps100
  go_wp2_with fail
  refine (HW.out _).mono ?_
  rintro _ w0 ⟨rfl, hw⟩
  obtain rfl := hw.symm
  clear hw HW
  by_cases hx : 1 ≤ (s.size : Int) ∧ (s.size : Int) ≤ 255
  · rw [decide_eq_true hx]
    have hx2 := hx.2
    have HX : Hid (decide (1 ≤ s.size ∧ s.size ≤ 255) = true) := decide_eq_true (by omega)
    clear hx
    go_wp2
    go_loop [10] (fun x => ∃ k : Nat, k ≤ s.size ∧ x = .int .i64 (k : Int) ∧ Hid ((s.data.toList.take k).all chr8 = true)) (fun x => s.size - (intOf x).toNat)
    case atStart => exact ⟨0, by omega, rfl, rfl⟩
    case round =>
      obtain ⟨k, hk, rfl, HA⟩ := hrel
      by_cases hlt : k < s.size
      · have hkz : (k : Int) < (s.size : Int) := by omega
        have HTK := hid (str_take s k hlt)
        by_cases h33 : (33 : Int) ≤ (s[k].toNat : Int)
        · by_cases h126 : (s[k].toNat : Int) ≤ 126
          · have HC : Hid (chr8 s[k] = true) := decide_eq_true (by omega)
            go_wp2
            go_round
            case rel => exact ⟨k + 1, by omega, by go_num, by show _ = _; rw [HTK.out, List.all_append, HA.out]; simp [HC.out]⟩
            case measure => simp [intOf]; omega
          · have HC : Hid (chr8 s[k] = false) := decide_eq_false (by omega)
            go_wp2
            go_ret
            exact ⟨(path_no s k hlt HC.out) ▸ rfl, rfl⟩
        · have HC : Hid (chr8 s[k] = false) := decide_eq_false (by omega)
          go_wp2
          go_ret
          exact ⟨(path_no s k hlt HC.out) ▸ rfl, rfl⟩
      · have hkl : k = s.size := by omega
        have HP : Hid (pathB s = true) := by
          show _ = _
          have := HA.out
          rw [List.take_of_length_le (by show s.size ≤ k; omega)] at this
          unfold pathB
          rw [HX.out, this]
          rfl
        go_wp2
        go_ret
        exact ⟨HP.out ▸ rfl, rfl⟩
  · rw [decide_eq_false hx]
    have HX : Hid (decide (1 ≤ s.size ∧ s.size ≤ 255) = false) := decide_eq_false (by omega)
    clear hx
    go_wp2
    go_ret
    exact ⟨by unfold pathB; rw [HX.out]; rfl, rfl⟩
end Go.Proofs.YtplinkmagnihmaaDoor
