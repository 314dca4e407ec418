/-
  A chunk with the next bytes, as far as they are its own: the contract of begun.with.
-/
import Derived.Test.YtcapkkldjgmhfaaPart00
import Derived.Laws.StructEq
import Derived.Lib.SmallJoins
import Derived.Laws.CopyOwn
import Derived.RangeFuncNested
import Derived.TacticsIn
import Derived.OrdersIn
import Derived.OrdersHeld
import Derived.Deep.Quiet
import Derived.Deep.RegionHeld
import Derived.Test.YtcapkkldjgmhfaaRows
import Derived.RangeFuncBound
import Derived.RangeFuncCalls
import Derived.RangeFuncLeaves
import Derived.Shelf.Abstract
import Derived.Shelf.RegionOpen
import Derived.OwnWalkIn
import Derived.TacticsInMore
import Derived.LoopNIn
import Derived.LoopIn
namespace Go.Proofs.Ytcapkkldjgmhfaa
open Go.RowKit

/-- A chunk of s bytes with the hash h, and the next bytes. -/
def withL (l m b : Int) : Int → Int → List Int → Int × Int
  | s, h, [] => (s, h)
  | s, h, x :: r => if endB l m b (s + 1) (stepZ h x) = true then (s + 1, stepZ h x) else withL l m b (s + 1) (stepZ h x) r
theorem drop_at (zs : List Int) (k : Nat) (hk : k < zs.length) : zs.drop k = zs.getD k 0 :: zs.drop (k + 1) := by
  rw [List.drop_eq_getElem_cons hk]
  simp [List.getD, List.getElem?_eq_getElem hk]
/-- Block B is a chunk that is begun. -/
def Bg (W : World) (B : Nat) (s h : Int) : Prop := W.heap[B]? = some (.cells #[.int .i64 s, .int .u64 h] 61 (0, 0))
def put2 (W : World) (B : Nat) (s h : Int) : World := (W.setCell ⟨B, 0, none⟩ (.int .i64 s)).setCell ⟨B, 1, none⟩ (.int .u64 h)
theorem Bg.set {W : World} {B : Nat} {s h : Int} (k : Bg W B s h) (s' h' : Int) : Bg (put2 W B s' h') B s' h' := by
  unfold Bg put2
  rw [Joins.block_setCell (Joins.block_setCell k _) _]
  simp
theorem put2_other {W : World} {B : Nat} {s h s' h' : Int} (k : Bg W B s h) {j : Nat} (hj : j ≠ B) : (put2 W B s' h').heap[j]? = W.heap[j]? := by
  unfold put2
  rw [heap_put_other (Joins.block_setCell k _) hj, heap_put_other k hj]
theorem put2_bel {W w : World} {n B : Nat} (hb : Below n w W) (hB : n ≤ B) (s h : Int) : Below n w (put2 W B s h) :=
  (hb.setCell (p := ⟨B, 0, none⟩) hB _).setCell (p := ⟨B, 1, none⟩) hB _
theorem not_end {l m b n h : Int} (e : ¬ endB l m b n h = true) : n ≠ m := by
  rintro rfl
  exact e (by simp [endB])
/-- One byte of a row. -/
theorem Ri.byte {w : World} {b off cap : Nat} {zs : List Int} (h : Ri w .u8 (some ⟨b, off, none⟩) cap zs) (k : Nat) (hk : k < zs.length) (c : Nat) (hc1 : 1 ≤ c) (hc2 : c ≤ maxLen) : Ri w .u8 (some ⟨b, off + k, none⟩) c [zs.getD k 0] := by
  obtain ⟨b', off', he, hbw, hcell⟩ := h.cells (by omega)
  cases he
  refine ⟨hc1, hc2, fun _ => ⟨b, off + k, rfl, hbw, fun j hj => ?_⟩, fun j => ?_⟩
  · have : j = 0 := by simpa using hj
    subst this
    rw [Nat.add_zero]
    exact hcell k hk
  · cases j with
    | zero => exact h.fits k
    | succ j => simp; exact wf_zero _

set_option maxHeartbeats 6400000 in
set_option maxRecDepth 100000 in
theorem with_word (l m b s0 h0 : Int) (a : Option Addr) (cap : Nat) (bs : List Int) (w : World) (hr : Ri w .u8 a cap bs) (hc : chkC l m b = 0) (hs0 : 0 ≤ s0) (hs1 : s0 < m) (hh0 : 0 ≤ h0) (hh1 : h0 < 18446744073709551616) :
    Calls Try.prog 29 #[.agg #[.int .i64 s0, .int .u64 h0], .agg #[.int .i64 l, .int .i64 m, .int .i64 b], .slice a bs.length cap] w fun e w' =>
      e = .returned (.agg #[.int .i64 (withL l m b s0 h0 bs).1, .int .u64 (withL l m b s0 h0 bs).2]) ∧ Below w.heap.size w w' := by
  have hroom := hr.room
  have hmost := hr.most
  obtain ⟨k1, k2, k3, k4, k5⟩ := chkC_ok hc
  have HMX := hid hmost
  unfold maxLen at hmost
  have HEN : Hid (∀ n h W, 0 ≤ h → h < 18446744073709551616 → Calls Try.prog 30 #[.agg #[.int .i64 n, .int .u64 h], .agg #[.int .i64 l, .int .i64 m, .int .i64 b]] W fun e w' => e = .returned (.bool (endB l m b n h)) ∧ Below W.heap.size W w') := fun n h W e1 e2 => ended_word l m b n h W hc e1 e2
  have HR := hid hr
  obtain ⟨R, hRe⟩ : ∃ R, R = withL l m b s0 h0 bs := ⟨_, rfl⟩
  have HRE := hid hRe
  rw [← hRe]
  clear hr hc k1 k2 k4 k5 hRe
  obtain ⟨len, hl⟩ : ∃ n, n = bs.length := ⟨_, rfl⟩
  have HL := hid hl
  rw [← hl] at hroom ⊢
  clear hl
  have e0 := heap_new w (.cells #[.int .i64 s0, .int .u64 h0] 61)
  have e1 := heap_new (w.alloc (.cells #[.int .i64 s0, .int .u64 h0] 61)) (.cells #[.int .i64 l, .int .i64 m, .int .i64 b] 23)
  have e2 := heap_new ((w.alloc (.cells #[.int .i64 s0, .int .u64 h0] 61)).alloc (.cells #[.int .i64 l, .int .i64 m, .int .i64 b] 23)) (.cells #[.int .i64 0, .int .u64 0] 61)
  simp only [World.size_alloc] at e1 e2
  have HB0 := hid (Bn (Bn (bel_alloc w (.cells #[.int .i64 s0, .int .u64 h0] 61)) (bel_alloc _ (.cells #[.int .i64 l, .int .i64 m, .int .i64 b] 23))) (bel_alloc _ (.cells #[.int .i64 0, .int .u64 0] 61)))
  have HG0 := hid (heap_old _ (.cells #[.int .i64 0, .int .u64 0] 61) (heap_old _ (.cells #[.int .i64 l, .int .i64 m, .int .i64 b] 23) e0))
  have HG1 := hid (heap_old _ (.cells #[.int .i64 0, .int .u64 0] 61) e1)
  have HG2 := hid e2
  clear e0 e1 e2
  go_enter Try.func29, Try.ntmps29
  go_wp2_with fail
  generalize (((w.alloc (.cells #[.int .i64 s0, .int .u64 h0] 61)).alloc (.cells #[.int .i64 l, .int .i64 m, .int .i64 b] 23)).alloc (.cells #[.int .i64 0, .int .u64 0] 61)) = wA at *
  go_loopw [10] (fun y wr => ∃ (k : Nat) (s h : Int), k ≤ len ∧ y = .int .i64 (k : Int) ∧ 0 ≤ s ∧ s < m ∧ 0 ≤ h ∧ h < 18446744073709551616 ∧ Hid (R = withL l m b s h (bs.drop k)) ∧ Hid (wr.heap[w.heap.size]? = some (.cells #[.int .i64 s, .int .u64 h] 61 (0, 0))) ∧ Hid (wr.heap[w.heap.size + 1]? = some (.cells #[.int .i64 l, .int .i64 m, .int .i64 b] 23 (0, 0))) ∧ Hid (wr.heap[w.heap.size + 1 + 1]? = some (.cells #[.int .i64 0, .int .u64 0] 61 (0, 0))) ∧ Hid (Below w.heap.size w wr)) (fun y _ => len - (intOf y).toNat)
  case atStart => exact ⟨0, s0, h0, Nat.zero_le _, rfl, hs0, hs1, hh0, hh1, HRE.out, HG0.out, HG1.out, HG2.out, HB0.out⟩
  case round =>
    clear HG0 HG1 HG2 HB0 HRE
    obtain ⟨k, s, h, hk, rfl, hsa, hsb, hha, hhb, HRE, HG0, HG1, HG2, HB⟩ := hrel
    by_cases hlt : k < len
    · obtain ⟨gb, off, rfl, hbw, hcc⟩ := HR.out.cells (by rw [← HL.out]; omega)
      have hkb : k < bs.length := by rw [← HL.out]; exact hlt
      have hd := drop_at bs k hkb
      have hb1 := (HR.out.byte k hkb (cap - k) (by omega) (by have := HMX.out; omega))
      have HHS : Hid (∀ W, Below w.heap.size w W → Calls Try.prog 14 #[.int .u64 h, .slice (some ⟨gb, off + k, none⟩) 1 (cap - k)] W fun e w' => e = .returned (.int .u64 (stepZ h (bs.getD k 0))) ∧ w' = W) := fun W hW => hash_word h _ (cap - k) [bs.getD k 0] W (hb1.later hW) hha hhb
      rw [hd, withL] at HRE
      clear hb1 hd hcc hbw hkb
      have hst := step_rng h (bs.getD k 0)
      generalize stepZ h (bs.getD k 0) = h' at *
      generalize bs.getD k 0 = z at *
      have hki : (k : Int) < (len : Int) := by omega
      have hw1 : IntKind.i64.wrap (s + 1) = s + 1 := IntWalk.i64_in _ ⟨by omega, by omega⟩
      have hw2 : IntKind.i64.wrap ((k : Int) + 1) = ((k + 1 : Nat) : Int) := by rw [IntWalk.i64_in _ ⟨by omega, by omega⟩]; omega
      have hsl1 : (0 : Int) ≤ (k : Int) + 1 := by omega
      have hsl2 : (k : Int) + 1 ≤ (cap : Int) := by omega
      have hsl3 : ¬ cap = k := by omega
      have hS0 : wr.drew.heap[w.heap.size]? = some (.cells #[.int .i64 s, .int .u64 h] 61 (0, 0)) := HG0.out
      go_wp2_with fail
      refine OrdE.region (fun W => W.heap[w.heap.size]? = some (.cells #[.int .i64 s, .int .u64 h] 61 (0, 0))) 12 (by kernel_rfl) hS0 (fun hSS => ?_)
      have HBD : Hid (Below w.heap.size w wr.drew) := HB.out.drew
      have HG1D : Hid (wr.drew.heap[w.heap.size + 1]? = some (.cells #[.int .i64 l, .int .i64 m, .int .i64 b] 23 (0, 0))) := HG1.out
      have HG2D : Hid (wr.drew.heap[w.heap.size + 1 + 1]? = some (.cells #[.int .i64 0, .int .u64 0] 61 (0, 0))) := HG2.out
      clear hS0 HB HG0 HG1 HG2
      generalize wr.drew = wD at *
      refine OrdE.take (i := 0) (d := 13) (v := ?v0) rfl rfl rfl (by as_aux_lemma => kernel_rfl) (by as_aux_lemma => kernel_rfl) (by as_aux_lemma => kernel_rfl) (by as_aux_lemma => kernel_rfl) (fun _ _ _ h => h) (by rfl) ?h0 (by assumption) ?_
      case h0 => intro w hSw; go_simp; try with_reducible rfl
      simp only [List.setIfInBounds_toArray, List.set_cons_zero, List.set_cons_succ]
      refine OrdE.take (i := 1) (d := 14) (v := .int .i64 s) rfl rfl rfl (by as_aux_lemma => kernel_rfl) (by as_aux_lemma => kernel_rfl) (by as_aux_lemma => kernel_rfl) (by as_aux_lemma => kernel_rfl) (fun _ _ _ h => h) (by rfl) ?h1 (by assumption) ?_
      case h1 => intro w hSw; have c := Joins.cell_of_block hSw 0; simp only [List.getElem?_toArray, List.getElem?_cons_zero] at c; go_simp; try with_reducible rfl
      simp only [List.setIfInBounds_toArray, List.set_cons_zero, List.set_cons_succ]
      refine OrdE.take (i := 2) (d := 15) (v := .int .i64 (s + 1)) rfl rfl rfl (by as_aux_lemma => kernel_rfl) (by as_aux_lemma => kernel_rfl) (by as_aux_lemma => kernel_rfl) (by as_aux_lemma => kernel_rfl) (fun _ _ _ h => h) (by rfl) ?h2 (by assumption) ?_
      case h2 => intro w hSw; go_simp; try with_reducible rfl
      simp only [List.setIfInBounds_toArray, List.set_cons_zero, List.set_cons_succ]
      refine OrdE.take (i := 3) (d := 16) (v := ?v3) rfl rfl rfl (by as_aux_lemma => kernel_rfl) (by as_aux_lemma => kernel_rfl) (by as_aux_lemma => kernel_rfl) (by as_aux_lemma => kernel_rfl) (fun _ _ _ h => h) (by rfl) ?h3 (by assumption) ?_
      case h3 => intro w hSw; go_simp; try with_reducible rfl
      simp only [List.setIfInBounds_toArray, List.set_cons_zero, List.set_cons_succ]
      refine OrdE.take (i := 4) (d := 17) (v := .int .u64 h) rfl rfl rfl (by as_aux_lemma => kernel_rfl) (by as_aux_lemma => kernel_rfl) (by as_aux_lemma => kernel_rfl) (by as_aux_lemma => kernel_rfl) (fun _ _ _ h => h) (by rfl) ?h4 (by assumption) ?_
      case h4 => intro w hSw; have c := Joins.cell_of_block hSw 1; simp only [List.getElem?_toArray, List.getElem?_cons_zero, List.getElem?_cons_succ] at c; go_simp; try with_reducible rfl
      simp only [List.setIfInBounds_toArray, List.set_cons_zero, List.set_cons_succ]
      refine OrdE.take (i := 5) (d := 18) (v := ?v5) rfl rfl rfl (by as_aux_lemma => kernel_rfl) (by as_aux_lemma => kernel_rfl) (by as_aux_lemma => kernel_rfl) (by as_aux_lemma => kernel_rfl) (fun _ _ _ h => h) (by rfl) ?h5 (by assumption) ?_
      case h5 => intro w hSw; go_simp; try with_reducible rfl
      simp only [List.setIfInBounds_toArray, List.set_cons_zero, List.set_cons_succ]
      refine OrdE.take (i := 6) (d := 19) (v := ?v6) rfl rfl rfl (by as_aux_lemma => kernel_rfl) (by as_aux_lemma => kernel_rfl) (by as_aux_lemma => kernel_rfl) (by as_aux_lemma => kernel_rfl) (fun _ _ _ h => h) (by rfl) ?h6 (by assumption) ?_
      case h6 => intro w hSw; go_simp; try with_reducible rfl
      simp only [List.setIfInBounds_toArray, List.set_cons_zero, List.set_cons_succ]
      refine OrdE.take (i := 7) (d := 20) (v := ?v7) rfl rfl rfl (by as_aux_lemma => kernel_rfl) (by as_aux_lemma => kernel_rfl) (by as_aux_lemma => kernel_rfl) (by as_aux_lemma => kernel_rfl) (fun _ _ _ h => h) (by rfl) ?h7 (by assumption) ?_
      case h7 => intro w hSw; go_simp; try with_reducible rfl
      simp only [List.setIfInBounds_toArray, List.set_cons_zero, List.set_cons_succ]
      refine OrdE.take (i := 8) (d := 21) (v := ?v8) rfl rfl rfl (by as_aux_lemma => kernel_rfl) (by as_aux_lemma => kernel_rfl) (by as_aux_lemma => kernel_rfl) (by as_aux_lemma => kernel_rfl) (fun _ _ _ h => h) (by rfl) ?h8 (by assumption) ?_
      case h8 => intro w hSw; go_simp; try with_reducible rfl
      simp only [List.setIfInBounds_toArray, List.set_cons_zero, List.set_cons_succ]
      refine OrdE.take (i := 9) (d := 22) (v := ?v9) rfl rfl rfl (by as_aux_lemma => kernel_rfl) (by as_aux_lemma => kernel_rfl) (by as_aux_lemma => kernel_rfl) (by as_aux_lemma => kernel_rfl) (fun _ _ _ h => h) (by rfl) ?h9 (by assumption) ?_
      case h9 => intro w hSw; go_simp; try with_reducible rfl
      simp only [List.setIfInBounds_toArray, List.set_cons_zero, List.set_cons_succ]
      refine OrdE.one (i := 10) (by as_aux_lemma => kernel_rfl) rfl (fun K hK => ?_)
      go_simp
      refine (HHS.out wD HBD.out).mono ?_
      rintro _ w1 ⟨rfl, rfl⟩
      refine hK.out _ _ (fun _ => hSS) ?_
      clear hK K
      try refine OrdE.put (d := 23) rfl ?_
      try simp only [List.setIfInBounds_toArray, List.set_cons_zero, List.set_cons_succ]
      refine OrdE.take (i := 11) (d := 24) (v := .agg #[.int .i64 (s + 1), .int .u64 h']) rfl rfl rfl (by as_aux_lemma => kernel_rfl) (by as_aux_lemma => kernel_rfl) (by as_aux_lemma => kernel_rfl) (by as_aux_lemma => kernel_rfl) (fun _ _ _ h => h) (by rfl) ?h11 (by assumption) ?_
      case h11 => intro w hSw; go_simp; try with_reducible rfl
      simp only [List.setIfInBounds_toArray, List.set_cons_zero, List.set_cons_succ]
      refine OrdE.one (i := 12) (by as_aux_lemma => kernel_rfl) rfl (fun K hK => ?_)
      rw [if_pos (by rfl)]
      refine wp_store_row 61 (.tmp 3) (.tmp 24) rfl w.heap.size #[.int .i64 (s + 1), .int .u64 h'] rfl rfl 61 _ hSS (by kernel_rfl) rfl (by simp [Value.oneCell']) ?_
      refine hK.out _ _ (fun h => absurd rfl h) ?_
      clear hK K
      refine OrdE.done (by as_aux_lemma => kernel_rfl) ?_ _
      have hG0 := setRow_heap w1 w.heap.size _ #[.int .i64 (s + 1), .int .u64 h'] _ _ hSS
      have hG1 := (setRow_other w1 w.heap.size (w.heap.size + 1) #[.int .i64 (s + 1), .int .u64 h'] (by omega)).trans HG1D.out
      have hG2 := (setRow_other w1 w.heap.size (w.heap.size + 1 + 1) #[.int .i64 (s + 1), .int .u64 h'] (by omega)).trans HG2D.out
      have hB := below_setRow HBD.out (Nat.le_refl _) #[.int .i64 (s + 1), .int .u64 h']
      clear hSS HG1D HG2D HBD HHS
      generalize w1.setRow w.heap.size #[.int .i64 (s + 1), .int .u64 h'] = w2 at *
      have HG0 := hid hG0
      have HG1 := hid hG1
      have HG2 := hid hG2
      have HB := hid hB
      have HE := hid (HEN.out (s + 1) h' w2 hst.1 hst.2)
      have ca0 := Joins.cell_of_block hG0 0
      have ca1 := Joins.cell_of_block hG0 1
      simp only [List.getElem?_toArray, List.getElem?_cons_zero, List.getElem?_cons_succ] at ca0 ca1
      have cb0 := Joins.cell_of_block hG1 0
      have cb1 := Joins.cell_of_block hG1 1
      have cb2 := Joins.cell_of_block hG1 2
      simp only [List.getElem?_toArray, List.getElem?_cons_zero, List.getElem?_cons_succ] at cb0 cb1 cb2
      clear hG0 hG1 hG2 hB
      go_wp2_with fail
      refine HE.out.mono ?_
      rintro _ w3 ⟨rfl, hb3⟩
      have hsz := (Array.getElem?_eq_some_iff.1 HG2.out).1
      have hG0 := (hb3.block w.heap.size (by omega)).trans HG0.out
      have hG1 := (hb3.block (w.heap.size + 1) (by omega)).trans HG1.out
      have hG2 := (hb3.block (w.heap.size + 1 + 1) hsz).trans HG2.out
      have hB := HB.out.trans (hb3.mono (by omega))
      clear HE hb3 HG0 HG1 HG2 HB ca0 ca1 cb0 cb1 cb2 hsz
      have HB := hid hB
      have HG0 := hid hG0
      have HG1 := hid hG1
      have HG2 := hid hG2
      by_cases he : endB l m b (s + 1) h' = true
      · rw [if_pos he] at HRE
        rw [he]
        have ca0 := Joins.cell_of_block hG0 0
        have ca1 := Joins.cell_of_block hG0 1
        simp only [List.getElem?_toArray, List.getElem?_cons_zero, List.getElem?_cons_succ] at ca0 ca1
        have hbg : Bg w3 (w.heap.size + 1 + 1) 0 0 := hG2
        have fz0 := Joins.unfrozen_of_block hG2 0
        have fz1 := Joins.unfrozen_of_block hG2 1
        have d0 := Joins.cell_of_block hG2 0
        have d1 := Joins.cell_of_block hG2 1
        simp only [List.getElem?_toArray, List.getElem?_cons_zero, List.getElem?_cons_succ] at d0 d1
        have HX := hid (hbg.set (s + 1) h')
        have HXB := hid (put2_bel hB (show w.heap.size ≤ w.heap.size + 1 + 1 by omega) (s + 1) h')
        clear hG0 hG1 hG2 hB hbg
        go_wp2_with fail
        refine bodyPost_ret (results_cell_row (ty := 61) (cs := #[.int .i64 (s + 1), .int .u64 h']) rfl _ _ _ _ _ _ rfl HX.out Try.underlying61 rfl (by kernel_rfl)) rfl ?_
        exact ⟨by rw [HRE.out], HXB.out⟩
      · rw [if_neg he] at HRE
        have hne := not_end he
        have hef : endB l m b (s + 1) h' = false := by simpa using he
        rw [hef]
        clear hG0 hG1 hG2 hB
        go_wp2_with fail
        exact ⟨⟨k + 1, s + 1, h', hlt, by go_num, by omega, by omega, hst.1, hst.2, HRE, HG0, HG1, HG2, HB⟩, by simp only [intOf]; omega⟩
    · have hkn : k = len := by omega
      have hki : ¬ (k : Int) < (len : Int) := by omega
      subst hkn
      have hd : bs.drop k = [] := by rw [HL.out, List.drop_length]
      rw [hd, withL] at HRE
      have hG0 := HG0.out
      have hG2 := HG2.out
      have ca0 := Joins.cell_of_block hG0 0
      have ca1 := Joins.cell_of_block hG0 1
      simp only [List.getElem?_toArray, List.getElem?_cons_zero, List.getElem?_cons_succ] at ca0 ca1
      have hbg : Bg wr (w.heap.size + 1 + 1) 0 0 := hG2
      have fz0 := Joins.unfrozen_of_block hG2 0
      have fz1 := Joins.unfrozen_of_block hG2 1
      have d0 := Joins.cell_of_block hG2 0
      have d1 := Joins.cell_of_block hG2 1
      simp only [List.getElem?_toArray, List.getElem?_cons_zero, List.getElem?_cons_succ] at d0 d1
      have HX := hid (hbg.set (s) h)
      have HXB := hid (put2_bel HB.out (show w.heap.size ≤ w.heap.size + 1 + 1 by omega) (s) h)
      clear hG0 hG2 hbg
      go_wp2_with fail
      refine bodyPost_ret (results_cell_row (ty := 61) (cs := #[.int .i64 (s), .int .u64 h]) rfl _ _ _ _ _ _ rfl HX.out Try.underlying61 rfl (by kernel_rfl)) rfl ?_
      exact ⟨by rw [HRE.out], HXB.out⟩
end Go.Proofs.Ytcapkkldjgmhfaa
/-
  The chunk that begins a row: the document's next.
-/
namespace Go.Proofs.Ytcapkkldjgmhfaa
open Go.RowKit

/-- How many bytes the chunk has that begins, and whether it ends. -/
def nextL (l m b : Int) (bs : List Int) : Int × Bool := ((withL l m b 0 0 bs).1, endB l m b (withL l m b 0 0 bs).1 (withL l m b 0 0 bs).2)
theorem end_zero {l m b : Int} (hc : chkC l m b = 0) (h : Int) : endB l m b 0 h = false := by
  obtain ⟨q1, q2, q3, q4, q5⟩ := chkC_ok hc
  unfold endB
  rw [beq_eq_false_iff_ne.2 (by omega), decide_eq_false (by omega)]; rfl

set_option maxHeartbeats 6400000 in
set_option maxRecDepth 100000 in
theorem next_ref (l m b : Int) (a : Option Addr) (cap : Nat) (bs : List Int) (w : World) (hr : Ri w .u8 a cap bs) (hc : chkC l m b = 0) :
    Calls Try.prog 31 #[.agg #[.int .i64 l, .int .i64 m, .int .i64 b], .slice a bs.length cap] w fun e w' =>
      e = .returned (.tuple #[.int .i64 (nextL l m b bs).1, .bool (nextL l m b bs).2]) ∧ Below w.heap.size w w' := by
  have hroom := hr.room
  have hmost := hr.most
  obtain ⟨k1, k2, k3, k4, k5⟩ := chkC_ok hc
  unfold maxLen at hmost
  have HEN : Hid (∀ n h W, 0 ≤ h → h < 18446744073709551616 → Calls Try.prog 35 #[.agg #[.int .i64 l, .int .i64 m, .int .i64 b], .int .i64 n, .int .u64 h] W fun e w' => e = .returned (.bool (endB l m b n h)) ∧ Below W.heap.size W w') := fun n h W e1 e2 => ends_ref l m b n h W hc e1 e2
  have HE0 := hid (end_zero hc 0)
  have HR := hid hr
  obtain ⟨R, hRe⟩ : ∃ R, R = nextL l m b bs := ⟨_, rfl⟩
  have HRE := hid hRe
  rw [← hRe]
  clear hr hc k4 k5 hRe
  obtain ⟨len, hl⟩ : ∃ n, n = bs.length := ⟨_, rfl⟩
  have HL := hid hl
  rw [← hl] at hroom ⊢
  clear hl
  have HG0 := hid (heap_new w (.cells #[.int .i64 l, .int .i64 m, .int .i64 b] 23))
  have HB0 := hid (bel_alloc w (.cells #[.int .i64 l, .int .i64 m, .int .i64 b] 23))
  go_enter Try.func31, Try.ntmps31
  go_wp2_with fail
  generalize w.alloc (.cells #[.int .i64 l, .int .i64 m, .int .i64 b] 23) = wA at *
  go_loopw [6, 7] (fun x y wr => ∃ (k : Nat) (h : Int), k ≤ len ∧ y = .int .i64 ((k : Int) + 1) ∧ x = .int .u64 h ∧ (k : Int) < m ∧ 0 ≤ h ∧ h < 18446744073709551616 ∧ Hid (withL l m b 0 0 bs = withL l m b (k : Int) h (bs.drop k)) ∧ Hid (endB l m b (k : Int) h = false) ∧ Hid (wr.heap[w.heap.size]? = some (.cells #[.int .i64 l, .int .i64 m, .int .i64 b] 23 (0, 0))) ∧ Hid (Below w.heap.size w wr)) (fun _ y _ => len + 1 - (intOf y).toNat)
  case atStart => exact ⟨0, 0, Nat.zero_le _, rfl, rfl, by omega, by omega, by omega, rfl, HE0.out, HG0.out, HB0.out⟩
  case round =>
    clear HG0 HB0 HE0
    obtain ⟨k, h, hk, rfl, rfl, hkm, hha, hhb, HW, HE, HG, HB⟩ := hrel
    by_cases hlt : k < len
    · obtain ⟨gb, off, rfl, hbw, hcc⟩ := HR.out.cells (by rw [← HL.out]; omega)
      have hkb : k < bs.length := by rw [← HL.out]; exact hlt
      have hd := drop_at bs k hkb
      have c := (HB.out.cell (p := ⟨gb, off + k, none⟩) hbw).trans (hcc k hkb)
      have hu := wf_u8 (HR.out.fits k)
      have hst := step_rng h (bs.getD k 0)
      have HSZ : Hid (stepZ h (bs.getD k 0) = IntKind.u64.wrap (IntKind.u64.wrap (2 * h) + gearZ (bs.getD k 0))) := rfl
      rw [hd, withL] at HW
      clear hd hcc hbw hkb
      generalize stepZ h (bs.getD k 0) = h' at *
      generalize bs.getD k 0 = z at *
      have HGR := hid (gear_ref z wr hu.1 hu.2)
      have hgr := gear_rng z
      have hki : (k : Int) + 1 ≤ (len : Int) := by omega
      have hks : (k : Int) + 1 - 1 = (k : Int) := by omega
      have cb0 := Joins.cell_of_block HG.out 0
      have cb1 := Joins.cell_of_block HG.out 1
      have cb2 := Joins.cell_of_block HG.out 2
      simp only [List.getElem?_toArray, List.getElem?_cons_zero, List.getElem?_cons_succ] at cb0 cb1 cb2
      have HEE := hid (HEN.out ((k : Int) + 1) h' wr hst.1 hst.2)
      go_wp2_with fail
      refine HGR.out.mono ?_
      rintro _ w1 ⟨rfl, rfl⟩
      go_wp2_with fail
      rw [← HSZ.out]
      refine HEE.out.mono ?_
      rintro _ w2 ⟨rfl, hb2⟩
      have hlt1 := (Array.getElem?_eq_some_iff.1 HG.out).1
      have HG2 := hid ((hb2.block w.heap.size hlt1).trans HG.out)
      have HB2 := hid (Bn HB.out hb2)
      clear HEE HGR cb0 cb1 cb2 c hb2 hlt1 HG HB
      by_cases he : endB l m b ((k : Int) + 1) h' = true
      · rw [if_pos he] at HW
        have HRR : Hid (R = ((k : Int) + 1, true)) := by
          show _ = _
          rw [HRE.out, nextL, HW.out]
          simp only [he]
        rw [he]
        go_wp2_with fail
        go_ret2
        exact ⟨by rw [HRR.out]; rfl, HB2.out⟩
      · rw [if_neg he] at HW
        have hne := not_end he
        have hef : endB l m b ((k : Int) + 1) h' = false := by simpa using he
        rw [hef]
        go_wp2_with fail
        have hkc : (((k + 1 : Nat) : Int)) = (k : Int) + 1 := by omega
        exact ⟨⟨k + 1, h', hlt, by rw [hkc], rfl, by omega, hst.1, hst.2, by rw [hkc]; exact HW, by rw [hkc]; exact hef, HG2, HB2⟩, by simp only [intOf]; omega⟩
    · have hkn : k = len := by omega
      have hki : ¬ (k : Int) + 1 ≤ (len : Int) := by omega
      subst hkn
      have hd : bs.drop k = [] := by rw [HL.out, List.drop_length]
      rw [hd, withL] at HW
      have HRR : Hid (R = ((k : Int), false)) := by
        show _ = _
        rw [HRE.out, nextL, HW.out]
        simp only [HE.out]
      go_wp2_with fail
      go_ret2
      exact ⟨by rw [HRR.out]; rfl, HB.out⟩
end Go.Proofs.Ytcapkkldjgmhfaa
/-
  Regions that draw their order inside a round of a range over a function: what is shown of them outside a round serves there too.
-/
namespace Go.Proofs.Ytcapkkldjgmhfaa

/-- No operation of a region defers a call. -/
def noDefer (ops : Array Oper) : Bool := ops.all fun o => match o.op with | .defer _ => false | _ => true

theorem noDefer_spec {ops : Array Oper} (h : noDefer ops = true) {i : Nat} {o : Oper} (hi : ops[i]? = some o) (c : _) : o.op ≠ .defer c := by
  unfold noDefer at h
  rw [Array.all_eq_true] at h
  obtain ⟨hlt, rfl⟩ := Array.getElem?_eq_some_iff.1 hi
  have := h i hlt
  intro e
  rw [e] at this
  simp at this

theorem calls_round {P : Program} {l n : Nat} {f : FuncId} {args : Array Value} {w : World} {R : Ending → World → Prop} (h : Calls P f args w R) : CallsIn (Fence.wide.inRound l) n P f args w R :=
  CallsIn.inRound l (callsIn_wide.2 h)

theorem rows_round {P : Program} {l n : Nat} {row : String} {args : Array Value} {w : World} {R : Value → World → Prop} (h : Rows P row args w R) : RowsIn (Fence.wide.inRound l) n P row args w R := by
  intro c cs _
  obtain ⟨v, w', r, s⟩ := h c cs
  exact ⟨v, w', r, (stepsIn_wide (P := P)).2 s⟩

theorem oper_round {P : Program} {l n : Nat} {o : Oper} {a : Act} {w : World} {K K' : Act → World → Prop} {Q : Exit → Act → World → Prop} (hd : ∀ c, o.op ≠ .defer c) (hK : ∀ a w, K a w → K' a w)
    (h : o.wp P a w K Q) : o.wpIn (Fence.wide.inRound l) n P a w K' Q := by
  refine ⟨fun _ _ => trivial, ?_⟩
  have e : (Fence.wide.inRound l).round = some l := rfl
  rw [e, Oper.semAt_some l _ o hd]
  unfold Oper.wp at h
  generalize (execOp a.eval o).run P w = r at *
  cases r with
  | ok nx w' =>
    cases nx <;> simp only [Oper.upon] at h <;> simp only [Oper.uponIn]
    case value => exact hK _ _ h
    case skip => exact hK _ _ h
    case defer => exact hK _ _ h
    case enter f args =>
      refine ⟨fun h0 => by simp [Fence.wide, Fence.inRound] at h0, calls_round (Calls.mono h fun e w'' he => ?_)⟩
      cases e with
      | returned => exact hK _ _ he
      | panicked => exact he
      | outgrown => exact he
    case row row args => exact ⟨fun h0 => by simp [Fence.wide, Fence.inRound] at h0, rows_round (Rows.mono h fun _ _ he => hK _ _ he)⟩
  | halt x w' => cases x <;> simp only [Oper.upon] at h <;> simp only [Oper.uponIn] <;> exact h

theorem any_round {P : Program} {l n : Nat} {md : Region.Mode} {ops : Array Oper} {Q : Exit → Act → World → Prop} (hd : noDefer ops = true) (hQ : ∀ a w, ¬ Q .outgrown a w) :
    ∀ (fuel : Nat) (listed : Array Bool) (a : Act) (w : World), wpAny P md ops Q fuel listed a w → wpAnyIn (Fence.wide.inRound l) n P md ops Q fuel listed a w
  | 0, _, _, _, h => h
  | fuel + 1, listed, a, w, h => by
    refine ⟨h.1, fun i hi => ?_⟩
    have h1 := h.2 i hi
    unfold wpOp at h1
    unfold wpOpIn
    split
    · rename_i ho; simp only [ho] at h1; exact any_round hd hQ fuel _ _ _ h1
    · rename_i o ho
      simp only [ho] at h1
      split
      · rename_i hw
        simp only [hw, if_true] at h1
        rcases h1 with h1 | ⟨_, a', w', h2⟩
        · exact oper_round (noDefer_spec hd ho) (fun a w => any_round hd hQ fuel _ a w) h1
        · exact absurd h2 (hQ _ _)
      · rename_i hw
        simp only [hw] at h1
        exact ⟨fun _ _ => trivial, any_round hd hQ fuel _ _ _ h1⟩

/-- A region that draws, inside a round: by one walk of its operations as they stand, each quiet. -/
theorem round_quiet {P : Program} {l n id : Nat} {Q : Exit → Act → World → Prop} {a : Act} {w : World} {ol : List Oper} (hm : P.follows .mixedOrders = true) (hB : Region.lexB .any ol.toArray = true) (hd : noDefer ol.toArray = true) (hQ : ∀ a w, ¬ Q .outgrown a w)
    (h : wpQuiet P ol.toArray (fun w' => ∃ n, w' = w.drewN n) (fun a' => ∀ w', (∃ n, w' = w.drewN n) → Q .normal a' w') ol a) : (Code.region id ol.toArray true).wpIn (Fence.wide.inRound l) n P Q a w := by
  refine wpIn_region_any hm (any_round hd hQ _ _ _ _ ?_)
  unfold Region.lexB at hB
  simp only [Bool.and_eq_true] at hB
  refine wpAny_of_quiet (C := fun w' => ∃ n, w' = w.drewN n) (Q := fun a' => ∀ w', (∃ n, w' = w.drewN n) → Q .normal a' w') (fun a w' hw' h' => h' w' hw') _ _ _ _ ⟨1, rfl⟩ ?_
  exact wpAnyQ_lex hB.1 ol 0 _ _ (fun j => by simp) (by simpa using hB.2) h

/-- The same under a condition S that is kept. -/
theorem round_held {P : Program} {l n id : Nat} {S : World → Prop} {ops : Array Oper} {Q : Exit → Act → World → Prop} {a : Act} {w : World} (hm : P.follows .mixedOrders = true) (hd : noDefer ops = true) (hQ : ∀ a w, ¬ Q .outgrown a w) (hS : S w.drew)
    (h : S w.drew → wpAnyH P .any ops Q S ops.size (Array.replicate ops.size false) a w.drew) : (Code.region id ops true).wpIn (Fence.wide.inRound l) n P Q a w :=
  wpIn_region_any hm (any_round hd hQ _ _ _ _ (wpAny_of_held _ _ _ _ (h hS)))
end Go.Proofs.Ytcapkkldjgmhfaa
/-
  The parts of a row, told one by one: the contract of roll's parts where nothing is begun.
-/
namespace Go.Proofs.Ytcapkkldjgmhfaa
open Go.RowKit Go.Shelf
attribute [local go_sem] Oper.semAt_some

theorem InO.take {F : Fence} {fr : Nat} {P : Program} {md : Region.Mode} {ops : Array Oper} {Q : Exit → Act → World → Prop} {i d : Nat} {oi : Oper} {v : Value} {fuel : Nat} {listed : Array Bool} {ts : Array Value} {df : List Deferred} {w : World} (hro : F.round = none) (hi : ops[i]? = some oi) (hd : oi.dst = some d)
    (hs : Region.noSelect ops = true) (hf : Region.free md ops listed i = true) (hr : (Region.ready md ops listed).contains i = true)
    (hQ : ∀ c a w, Q (.panic c) (a.put oi.dst v) w → Q (.panic c) a w) (hw : Region.wanted oi (yielded ops ts) = true)
    (hy : ∀ w, (execOp (Act.eval ⟨ts, df⟩) oi).run P w = .ok (.value v) w) (hab : ∀ w, oi.about P w (Act.eval ⟨ts, df⟩) = none)
    (h : wpAnyIn F fr P md ops Q fuel (listed.setIfInBounds i true) ⟨ts.setIfInBounds d v, df⟩ w) : wpAnyIn F fr P md ops Q (fuel + 1) listed ⟨ts, df⟩ w :=
  wpAnyIn_take hro hi hs hf hr hQ ⟨Or.inl ⟨hw, hy⟩, hab⟩ (by rw [hd]; exact h)

/-- A part: where it begins, how many bytes it has, the chunk behind it. -/
abbrev Pt := Nat × Nat × Int × Int
def encP (gb off : Nat) (x : Pt) : Array Value := #[.slice (some ⟨gb, off + x.1, none⟩) x.2.1 x.2.1, .agg #[.int .i64 x.2.2.1, .int .u64 x.2.2.2]]
def partsF (l m b : Int) : Nat → Nat → List Int → List Pt
  | 0, _, _ => []
  | _ + 1, _, [] => []
  | f + 1, st, x :: r => (st, (withL l m b 0 0 (x :: r)).1.toNat, withL l m b 0 0 (x :: r)) :: partsF l m b f (st + (withL l m b 0 0 (x :: r)).1.toNat) ((x :: r).drop (withL l m b 0 0 (x :: r)).1.toNat)
theorem with_cnt (l m b : Int) : ∀ (bs : List Int) (s h : Int), s ≤ (withL l m b s h bs).1 ∧ (withL l m b s h bs).1 ≤ s + (bs.length : Int) ∧ (bs ≠ [] → s + 1 ≤ (withL l m b s h bs).1)
  | [], s, h => by simp [withL]
  | x :: r, s, h => by
    rw [withL]
    split
    · dsimp only; rw [List.length_cons]; exact ⟨by omega, by omega, fun _ => by omega⟩
    · have ih := with_cnt l m b r (s + 1) (stepZ h x)
      rw [List.length_cons]
      exact ⟨by omega, by omega, fun _ => by omega⟩
theorem with_rng (l m b : Int) : ∀ (bs : List Int) (s h : Int), 0 ≤ h ∧ h < 18446744073709551616 → 0 ≤ (withL l m b s h bs).2 ∧ (withL l m b s h bs).2 < 18446744073709551616
  | [], s, h, hh => by simpa [withL] using hh
  | x :: r, s, h, _ => by
    rw [withL]
    split
    · exact step_rng h x
    · exact with_rng l m b r (s + 1) (stepZ h x) (step_rng h x)
theorem parts_len (l m b : Int) : ∀ (f st : Nat) (bs : List Int), (partsF l m b f st bs).length ≤ bs.length
  | 0, _, _ => by simp [partsF]
  | _ + 1, _, [] => by simp [partsF]
  | f + 1, st, x :: r => by
    have h := with_cnt l m b (x :: r) 0 0
    have h3 := h.2.2 (by simp)
    have ih := parts_len l m b f (st + (withL l m b 0 0 (x :: r)).1.toNat) ((x :: r).drop (withL l m b 0 0 (x :: r)).1.toNat)
    rw [partsF, List.length_cons]
    rw [List.length_drop] at ih
    rw [List.length_cons] at ih h ⊢
    omega
/-- What a round keeps: all that lay below n₀, and the iterator's own variables. -/
structure Kq (n₀ : Nat) (W W' : World) : Prop where
  size : W.heap.size ≤ W'.heap.size
  old : ∀ i, i < n₀ → W'.heap[i]? = W.heap[i]?
  typ : ∀ (i : Nat) (cs : Array Value) (t : TypeId) (fr : Nat × Nat), t = 61 ∨ t = 25 ∨ t = 23 → W.heap[i]? = some (.cells cs t fr) → W'.heap[i]? = some (.cells cs t fr)
theorem Kq.trans {n₀ : Nat} {A B C : World} (h : Kq n₀ A B) (k : Kq n₀ B C) : Kq n₀ A C := ⟨Nat.le_trans h.size k.size, fun i hi => (k.old i hi).trans (h.old i hi), fun i cs t fr ht hi => k.typ i cs t fr ht (h.typ i cs t fr ht hi)⟩
theorem Kq.put {n₀ : Nat} {w : World} (hn : n₀ ≤ w.heap.size) (W : World) (l : Nat) (o o' : Obj) (hl : w.heap.size ≤ l) (h : W.heap[l]? = some o) (hc : o.isCells = false) (_ : o.isWalk = false) : Kq n₀ W (W.putObj l o') := by
  refine ⟨by simp, fun i hi => World.putObj_heap_other (by omega), fun i cs t fr _ hi => ?_⟩
  have hne : i ≠ l := by
    rintro rfl
    rw [hi] at h
    cases h
    cases hc
  exact (World.putObj_heap_other hne).trans hi
theorem Kq.ri {n₀ : Nat} {A B : World} (h : Kq n₀ A B) {a : Option Addr} {cap : Nat} {zs : List Int} (hr : Ri A .u8 a cap zs) (hg : ∀ b off, a = some ⟨b, off, none⟩ → b < n₀) : Ri B .u8 a cap zs := by
  refine ⟨hr.room, hr.most, fun h0 => ?_, hr.fits⟩
  obtain ⟨b, off, ha, hbw, hc⟩ := hr.cells h0
  have hb := hg b off ha
  refine ⟨b, off, ha, Nat.lt_of_lt_of_le hbw h.size, fun j hj => ?_⟩
  have e := hc j hj
  rw [← e]
  unfold World.cell?
  rw [h.old b hb]
theorem grown_of_below {w w' : World} (h : Below w.heap.size w w') : w.grownBy w' none := ⟨h.os, h.tape, h.output, h.size, fun k hk _ => h.block k hk⟩
theorem setCell_same {w : World} {g i : Nat} {cur : Array Value} {t : TypeId} {fr : Nat × Nat} {v : Value} (hg : w.heap[g]? = some (.cells cur t fr)) (hv : cur[i]? = some v) : w.setCell ⟨g, i, none⟩ v = w := by
  have h1 := setCell_eq_setRow w g i cur t fr v hg
  have e : cur.setIfInBounds i v = cur := by
    apply Array.ext_getElem?
    intro j
    rw [Array.getElem?_setIfInBounds]
    split
    · rename_i h
      subst h
      split
      · exact hv.symm
      · rename_i hb; rw [Array.getElem?_eq_none (by omega)] at hv; cases hv
    · rfl
  rw [h1, e]
  exact setRow_self w g cur t fr hg
theorem Bg.same {W : World} {B : Nat} {s h : Int} (k : Bg W B s h) : put2 W B s h = W := by
  unfold put2
  rw [setCell_same (i := 0) (v := .int .i64 s) k rfl, setCell_same (i := 1) (v := .int .u64 h) k rfl]
/-- A row from a place on. -/
theorem Ri.dropR {w : World} {a : Option Addr} {cap : Nat} {zs : List Int} (h : Ri w .u8 a cap zs) (k gb off : Nat) (hk : k < zs.length) (ha : a = some ⟨gb, off, none⟩) : Ri w .u8 (some ⟨gb, off + k, none⟩) (cap - k) (zs.drop k) := by
  have hr := h.room
  have hm := h.most
  obtain ⟨b', off', he, hbw, hcell⟩ := h.cells (by omega)
  rw [ha] at he
  cases he
  refine ⟨by rw [List.length_drop]; omega, by omega, fun _ => ⟨gb, off + k, rfl, hbw, fun j hj => ?_⟩, fun j => ?_⟩
  · rw [List.length_drop] at hj
    have := hcell (k + j) (by omega)
    rw [← Nat.add_assoc] at this
    rw [this]
    simp [List.getD]
  · have := h.fits (k + j)
    simpa [List.getD] using this
def lenV : Value → Nat
  | .slice _ n _ => n
  | _ => 0
end Go.Proofs.Ytcapkkldjgmhfaa
