/-
  The bytes that tokens make: the contract of lz's Bytes.
-/
import Derived.Test.YtgdlmhgjhmcilabGrow
namespace Go.Proofs.Ytgdlmhgjhmcilab
open Go.RowKit Lz

def bytF (b : List Int) (i : Nat) : List Tkz → List Int × Int × Int
  | [] => (b, 0, 0)
  | t :: r => if fltZ t b.length = 0 then bytF (growZ b t) (i + 1) r else ([], (i : Int), fltZ t b.length)
def bytesO (l : List Tkz) : List Int × Int × Int := bytF [] 0 l
def BytPost (l : List Tkz) (w : World) (e : Ending) (w' : World) : Prop :=
  ∃ v, e = .returned (.tuple #[v, .int .i64 (bytesO l).2.1, .int .i64 (bytesO l).2.2]) ∧ Ob w' w.heap.size v (bytesO l).1 ∧ Below w.heap.size w w'

theorem grow_len {t : Tkz} {b : List Int} (h : fltZ t b.length = 0) : (growZ b t).length ≤ 65536 ∧ (growZ b t).length = b.length + t.2.1.toNat := by
  unfold growZ
  rcases flt_zero h with ⟨h1, h2, h3⟩ | ⟨h1, h2, h3, h4, h5, h6⟩
  · rw [if_pos h1]; simp [h2]; omega
  · rw [if_neg (by omega), cpyL_len]; omega
theorem drop_getD (l : List Tkz) (k : Nat) (h : k < l.length) : l.drop k = l.getD k tk0 :: l.drop (k + 1) := by
  rw [List.drop_eq_getElem_cons h]
  simp [List.getD, h]
theorem flt_small (t : Tkz) (m : Int) : fltZ t m = 0 ∨ fltZ t m = 60 ∨ fltZ t m = 61 ∨ fltZ t m = 2 := by
  unfold fltZ
  split
  · simp
  · split
    · simp
    · split <;> simp

set_option maxHeartbeats 1600000 in
set_option maxRecDepth 100000 in
theorem bytes_word (a : Option Addr) (cap : Nat) (l : List Tkz) (w : World) (hr : Rt w a cap l) (hn : l.length ≤ 100000) :
    Calls Try.prog 6 #[.slice a l.length cap] w (BytPost l w) := by
  unfold BytPost
  have hroom := hr.room
  have hmost := hr.most
  unfold maxLen at hmost
  have HR := hid hr
  obtain ⟨len, hle⟩ : ∃ n, n = l.length := ⟨_, rfl⟩
  have HL := hid hle
  rw [← hle] at hn hroom ⊢
  have HF0 : Hid (bytesO l = bytF [] 0 (l.drop 0)) := rfl
  clear hr hle
  go_enter Try.func6, Try.ntmps6
  go_wp2
  go_loopw [5, 11] (fun x5 x11 wr => ∃ (k : Nat) (b : List Int), k ≤ len ∧ x11 = .int .i64 (k : Int) ∧ b.length ≤ 65536 ∧ Ob wr w.heap.size x5 b ∧ Below w.heap.size w wr ∧ Hid (bytesO l = bytF b k (l.drop k))) (fun _ x11 _ => len - (intOf x11).toNat)
  case atStart => exact ⟨0, [], by omega, rfl, by simp, ob_nil _ _, Below.refl _ _, HF0⟩
  case round =>
    clear HF0
    obtain ⟨k, b, hk, rfl, hbl, hown, hbel, HF⟩ := hrel
    by_cases hlt : k < len
    · have hkz : (k : Int) < (len : Int) := by omega
      obtain ⟨g, off, rfl, hbw, hc⟩ := HR.out.cells (by rw [← HL.out]; omega)
      obtain ⟨c0, c1, c2⟩ := hc k (by rw [← HL.out]; exact hlt)
      have d0 := (hbel.cell (p := ⟨g, off + k * 3, none⟩) hbw).trans c0
      have d1 := (hbel.cell (p := ⟨g, off + k * 3 + 1, none⟩) hbw).trans c1
      have d2 := (hbel.cell (p := ⟨g, off + k * 3 + 2, none⟩) hbw).trans c2
      have HFT := hid (fault_word (l.getD k tk0) (b.length : Int) (wr.alloc (.cells (zC (l.getD k tk0)) 34)) (by omega) (by omega))
      have HGW : Hid (fltZ (l.getD k tk0) b.length = 0 → ∀ v W, Ob W w.heap.size v b → w.heap.size ≤ W.heap.size → Calls Try.prog 9 #[v, .agg (zC (l.getD k tk0))] W fun e w' => ∃ v', e = .returned v' ∧ Ob w' w.heap.size v' (growZ b (l.getD k tk0)) ∧ Below w.heap.size W w') := fun h v W h1 h2 => grown_word (l.getD k tk0) b v w.heap.size W h1 h h2
      have HGL := hid (fun h => grow_len (t := l.getD k tk0) (b := b) h)
      have HDR : Hid (bytesO l = if fltZ (l.getD k tk0) b.length = 0 then bytF (growZ b (l.getD k tk0)) (k + 1) (l.drop (k + 1)) else ([], (k : Int), fltZ (l.getD k tk0) b.length)) := by
        show _ = _
        rw [HF.out, drop_getD l k (by rw [← HL.out]; exact hlt)]
        rfl
      have hfs := flt_small (l.getD k tk0) b.length
      clear hc c0 c1 c2 HF
      generalize l.getD k tk0 = t at *
      have hv5 : ∃ (a5 : Option Addr) (c5 : Nat), u5 = .slice a5 b.length c5 := by
        rcases hown.2 with ⟨hv, h0⟩ | ⟨g', cap', cur', hv, _⟩
        · exact ⟨none, 0, by rw [hv, h0]⟩
        · exact ⟨some ⟨g', 0, none⟩, cap', hv⟩
      obtain ⟨a5, c5, rfl⟩ := hv5
      obtain ⟨d, n, x⟩ := t
      unfold zC at HFT HGW
      dsimp only at *
      have hbA := bel_alloc wr (.cells #[.int .i64 d, .int .i64 n, .int .u8 x] 34)
      have HOA := hid (hown.alloc (.cells #[.int .i64 d, .int .i64 n, .int .u8 x] 34))
      have HBA := hid (Bn hbel hbA)
      have e0 : (wr.alloc (.cells #[.int .i64 d, .int .i64 n, .int .u8 x] 34)).heap[wr.heap.size]? = some (.cells #[.int .i64 d, .int .i64 n, .int .u8 x] 34 (0, 0)) := heap_new _ _
      have HE0 := hid e0
      obtain ⟨f, hf⟩ : ∃ f, f = fltZ (d, n, x) (b.length : Int) := ⟨_, rfl⟩
      rw [← hf] at HFT HGW HGL HDR hfs
      clear hf
      obtain ⟨bn, hbn⟩ : ∃ bn, bn = b.length := ⟨_, rfl⟩
      have HBN := hid hbn
      rw [← hbn] at HFT hbl ⊢
      rw [← hbn] at HOA
      clear hbA e0 hbel hown hbn
      go_wp2_with fail
      refine HFT.out.mono ?_
      rintro _ w2 ⟨rfl, hb2⟩
      have e2 := (hb2.block wr.heap.size (by simp)).trans HE0.out
      have m0 := Joins.cell_of_block e2 0
      have m1 := Joins.cell_of_block e2 1
      have m2 := Joins.cell_of_block e2 2
      simp only [List.getElem?_toArray, List.getElem?_cons_zero, List.getElem?_cons_succ] at m0 m1 m2
      have HO2 := hid (own_later HOA.out hb2)
      have HB2 := hid (Bn HBA.out hb2)
      clear hb2 HFT e2 HE0 HOA HBA d0 d1 d2
      by_cases hf0 : f = 0
      · rw [if_pos hf0] at HDR
        have HG2 := hid (HGW.out hf0)
        have hgl := HGL.out hf0
        rw [hf0]
        clear hf0 hfs HGW HGL
        go_wp2_with fail
        refine (HG2.out _ w2 (by have := HO2.out; rwa [HBN.out] at this ⊢) HB2.out.size).mono ?_
        rintro _ w3 ⟨v', rfl, hown3, hb3⟩
        have HB3 := hid (HB2.out.trans hb3)
        have HO3 := hid hown3
        clear hb3 hown3 HG2 m0 m1 m2
        go_wp2
        exact ⟨⟨k + 1, _, by omega, by go_num, hgl.1, HO3.out, HB3.out, HDR⟩, by simp [intOf]; omega⟩
      · rw [if_neg hf0] at HDR
        have hfb : (f != 0) = true := by simpa using hf0
        clear hf0 hfs HGW HGL
        go_wp2
        go_ret3
        exact ⟨.slice none 0 0, by rw [HDR.out]; rfl, by rw [HDR.out]; exact ob_nil _ _, HB2.out⟩
    · obtain rfl : k = len := by omega
      have hkz : ¬ (k : Int) < (k : Int) := by omega
      have HO : Hid (bytesO l = (b, 0, 0)) := by
        show _ = _
        rw [HF.out, List.drop_eq_nil_of_le (by rw [← HL.out]; omega)]
        rfl
      go_wp2
      go_ret3
      exact ⟨_, by rw [HO.out]; rfl, by rw [HO.out]; exact hown, hbel⟩
end Go.Proofs.Ytgdlmhgjhmcilab
