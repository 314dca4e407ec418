/-
  The law's few, once more: its row lies in a block of its own; rows of records that no store reaches.
-/
import Derived.Test.YtpbaacplgohniaaDoorRcO
namespace Go.Proofs.YtpbaacplgohniaaDoor
open Go.ChangeShapes Go.WideShapes Go.ChangeAt Go.RowKit Go.Deep

theorem Rr.own2 {w : World} {base : Nat} {v : Value} {l : List Rec} (h : w.ownsRow base 27 38 v l.length (l.flatMap Rec.cs)) (hf : ∀ r ∈ l, Rv w r) : ∃ a cap, v = .slice a l.length cap ∧ Rr w a cap l ∧ ∀ b off, a = some ⟨b, off, none⟩ → base ≤ b := by
  obtain ⟨a, cap, hv, hr⟩ := Rr.own h hf
  refine ⟨a, cap, hv, hr, fun b off e => ?_⟩
  rcases h.2 with ⟨h1, _⟩ | ⟨g, cap2, cur, h1, h2, _⟩
  · rw [hv, e] at h1
    cases h1
  · rw [hv, e] at h1
    injection h1 with h1
    injection h1 with h1
    injection h1 with h1
    omega
/-- A row of records behind a store elsewhere. -/
theorem Rr.kept {w w' : World} {a : Option Addr} {cap : Nat} {l : List Rec} (h : Rr w a cap l) (hk : ∀ b off, a = some ⟨b, off, none⟩ → w'.heap[b]? = w.heap[b]?) (hf : ∀ r ∈ l, Rv w' r) : Rr w' a cap l := by
  refine ⟨h.room, h.most, h.none0, fun h0 => ?_, hf⟩
  obtain ⟨b, off, ha, hb, hc⟩ := h.cells h0
  have e := hk b off ha
  refine ⟨b, off, ha, ?_, fun j hj i u hu => (World.cell?_of_block (w := w) (a := ⟨b, off + j * 38 + i, none⟩) e).trans (hc j hj i u hu)⟩
  have : w.heap[b]? ≠ none := by simp; omega
  rw [← e] at this
  simpa using this
set_option maxHeartbeats 3200000 in
set_option maxRecDepth 100000 in
theorem few_own (a : Option Addr) (cap : Nat) (l : List Rec) (w : World) (hr : Rr w a cap l) :
    Calls Tryd.prog 25 #[.slice a l.length cap] w fun e w' => ∃ a' cap', e = .returned (.slice a' (fewL l).length cap') ∧ Rr w' a' cap' (fewL l) ∧ (∀ b off, a' = some ⟨b, off, none⟩ → w.heap.size ≤ b) ∧ Below w.heap.size w w' := by
  have hroom := hr.room
  have hmost := hr.most
  unfold maxLen at hmost
  have HR := hid hr
  obtain ⟨i0, hi, hz0, hz1, hz2⟩ := info_parts Tryd.info27
  obtain ⟨len, hle⟩ : ∃ n, n = l.length := ⟨_, rfl⟩
  have HL := hid hle
  rw [← hle] at hroom ⊢
  clear hr hle
  go_enter Tryd.func25, Tryd.ntmps25
  go_wp2
  go_loopw [3, 4] (fun x3 x4 wr => ∃ k : Nat, k ≤ len ∧ k ≤ 20 ∧ x4 = .int .i64 (k : Int) ∧ Hid (wr.ownsRow w.heap.size 27 38 x3 ((l.take k).map cutR).length (((l.take k).map cutR).flatMap Rec.cs)) ∧ Hid (Below w.heap.size w wr)) (fun _ x4 _ => 20 - (intOf x4).toNat)
  case atStart => exact ⟨0, by omega, by omega, rfl, World.ownsRow_nil _ _ _ _, Below.refl _ _⟩
  case round =>
    obtain ⟨k, hk, hk20, rfl, HO, HB⟩ := hrel
    by_cases hlt : k < len
    · by_cases h20 : k < 20
      · have hkz : (k : Int) < (len : Int) := by omega
        have hk2 : (k : Int) < 20 := by omega
        obtain ⟨b, off, rfl, hbw, hc⟩ := HR.out.cells (by rw [← HL.out]; omega)
        have hrg := (hc k (by rw [← HL.out]; exact hlt))
        have HRG : Hid (wr.rangeAt b (off + k * 38) (l.getD k recZ).cs) := fun j v hv => (HB.out.cell (p := ⟨b, off + k * 38 + j, none⟩) hbw).trans (hrg j v hv)
        have hok := (HR.out.get (j := k) (by rw [← HL.out]; exact hlt)).later HB.out
        have HTK : Hid ((l.take (k + 1)).map cutR = (l.take k).map cutR ++ [cutR (l.getD k recZ)]) := by
          show _ = _
          have hkl : k < l.length := by rw [← HL.out]; exact hlt
          have e : l.take (k + 1) = l.take k ++ [l.getD k recZ] := by
            rw [List.take_add_one]
            simp [List.getD, List.getElem?_eq_getElem hkl]
          rw [e, List.map_append]
          rfl
        have HTL : Hid (((l.take k).map cutR).length = k) := by show _ = _; simp; rw [← HL.out]; omega
        generalize l.getD k recZ = x at *
        have HLX := hid (Rec.cs_len hok.len)
        have HCW := hid (cut_word x wr hok)
        have HCL : Hid ((cutR x).prev.length = 32) := hok.len
        have HS0 : Hid (w.heap.size ≤ wr.heap.size) := HB.out.size
        clear hrg hc hok
        go_wp2_with (first | refine wpList_load_g rfl 27 _ rfl b (off + k * 38) rfl x.cs _ HRG.out Tryd.underlying27 rfl (by rw [HLX.out]; exact Tryd.size27) ?_ | fail)
        refine HCW.out.mono ?_
        rintro _ W1 ⟨rfl, hb1⟩
        have HB1 := hid (Bn HB.out hb1)
        have HO1 := hid ((own_later HO.out hb1).alloc (.cells (cutR x).cs.toArray 27))
        have HBA := hid (Bn HB1.out (bel_alc W1 (.cells (cutR x).cs.toArray 27)))
        have HNW : Hid (∀ j u, (cutR x).cs[j]? = some u → (W1.alloc (.cells (cutR x).cs.toArray 27)).cell? ((⟨W1.heap.size, 0, none⟩ : Addr).add j) = some u) := fun j u hu => by
          rw [add_plain, Nat.zero_add]
          exact (Joins.cell_of_block (heap_alc W1 _) j).trans (by rw [List.getElem?_toArray]; exact hu)
        have HS1 : Hid (w.heap.size ≤ (W1.alloc (.cells (cutR x).cs.toArray 27)).heap.size) := HBA.out.size
        clear hb1 HCW HO
        go_wp2_with (first | refine wpList_buildOne rfl 56 27 _ rfl (some 21) rfl (cutR x).cs.toArray i0 _ Tryd.underlying56 hi hz0 (by rw [hz1, Rec.cs_size HCL.out]) (by rw [Rec.cs_size HCL.out]; decide) (by rw [Rec.cs_size HCL.out]; decide) rfl ?_ | (at_builtin; refine wpList_append_own _ rfl _ _ 56 rfl w.heap.size 27 i0 _ 38 104 Tryd.underlying56 hi hz0 hz1 hz2 rfl (by decide) _ _ _ rfl HO1.out ⟨W1.heap.size, 0, none⟩ 1 1 (cutR x).cs rfl (by rw [Rec.cs_len HCL.out]) HNW.out (Rec.cs_one _) (by rw [HTL.out]; unfold maxLen; omega) (by rw [HTL.out]; omega) HS1.out ?_))
        intro v2 W2 ho2 hg2 _
        have HO2 : Hid (W2.ownsRow w.heap.size 27 38 v2 ((l.take (k + 1)).map cutR).length (((l.take (k + 1)).map cutR).flatMap Rec.cs)) := by
          show World.ownsRow _ _ _ _ _ _ _
          rw [HTK.out, List.length_append, List.flatMap_append]
          simpa using ho2
        have HB2 : Hid (Below w.heap.size w W2) := HBA.out.trans ((Below.refl _ _).grown hg2 HS1.out (fun j hj => (HO1.out.lt j hj).1))
        clear ho2 hg2 HO1 HNW
        go_wp2
        go_round
        case rel => exact ⟨k + 1, by omega, by omega, by go_num, HO2.out, HB2.out⟩
        case measure => simp [intOf]; omega
      · have hkz : (k : Int) < (len : Int) := by omega
        have hk2 : ¬ (k : Int) < 20 := by omega
        have hke : k = 20 := by omega
        subst hke
        obtain ⟨a', cap', hv', hr', hge⟩ := Rr.own2 HO.out (fun r q => by
          obtain ⟨y, hy, rfl⟩ := List.mem_map.1 q
          exact cut_rv ((HR.out.fits y (List.mem_of_mem_take hy)).later HB.out))
        have HRR : Hid (Rr wr a' cap' (fewL l)) := hr'
        have HGE := hid hge
        clear hr' hge
        have hv2 : _ = Value.slice a' (fewL l).length cap' := hv'
        subst hv2
        clear hv'
        go_wp2
        go_ret
        exact ⟨_, _, rfl, HRR.out, HGE.out, HB.out⟩
    · have hkl : k = len := by omega
      have hkz : ¬ (k : Int) < (len : Int) := by omega
      have HT : Hid (l.take k = l.take 20) := by
        show _ = _
        rw [List.take_of_length_le (by rw [← HL.out]; omega), List.take_of_length_le (by rw [← HL.out]; omega)]
      rw [HT.out] at HO
      obtain ⟨a', cap', hv', hr', hge⟩ := Rr.own2 HO.out (fun r q => by
        obtain ⟨y, hy, rfl⟩ := List.mem_map.1 q
        exact cut_rv ((HR.out.fits y (List.mem_of_mem_take hy)).later HB.out))
      have HRR : Hid (Rr wr a' cap' (fewL l)) := hr'
      have HGE := hid hge
      clear hr' hge
      have hv2 : _ = Value.slice a' (fewL l).length cap' := hv'
      subst hv2
      clear hv'
      go_wp2
      go_ret
      exact ⟨_, _, rfl, HRR.out, HGE.out, HB.out⟩
end Go.Proofs.YtpbaacplgohniaaDoor
