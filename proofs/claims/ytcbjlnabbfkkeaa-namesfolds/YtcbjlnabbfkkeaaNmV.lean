/-
  The document's namespace: Stat (32).
-/
import Derived.Test.YtcbjlnabbfkkeaaNmU
namespace Go.Proofs.Ytcbjlnabbfkkeaa
open Go.ChangeShapes Go.WideShapes Go.ChangeAt Go.RowKit Go.Deep Go.Lib

theorem fix_lt {L : List Fi} {s : ByteArray} (h : 0 ≤ fixI L s) : ∃ i : Nat, fixI L s = (i : Int) ∧ i < L.length := by
  unfold fixI at h ⊢
  cases e : L.findIdx? fun f => decide (f.path = s) with
  | none => rw [e] at h; exact absurd h (by decide)
  | some i =>
    rw [List.findIdx?_eq_some_iff_getElem] at e
    obtain ⟨hi, _⟩ := e
    exact ⟨i, rfl, hi⟩
def dstF (L : List Fi) (s : ByteArray) : Fi × Int := if fixI L s < 0 then (fiZ, 150) else (L.getD (fixI L s).toNat fiZ, 0)
set_option maxHeartbeats 3200000 in
set_option maxRecDepth 100000 in
theorem dstat_word (W : World) (d : Nat) (a : Option Addr) (cap : Nat) (L : List Fi) (s : ByteArray) (h : Dn W d a cap L) :
    Calls Try.prog 32 #[.pointer (some ⟨d, 0, none⟩), .string s] W fun e w' => e = .returned (.tuple #[.agg (dstF L s).1.cs.toArray, .int .i64 (dstF L s).2]) ∧ Below W.heap.size W w' := by
  have hm : L.length ≤ maxLen := Nat.le_trans h.fs.row.room h.fs.row.most
  have hr : L.length ≤ cap := h.fs.row.room
  unfold maxLen at hm
  have HH := hid h
  have HY := hid Try.zero51
  have HBU : Hid (Try.prog.built 51 [] = some fiZ.cs.toArray) := by show _ = _; kernel_rfl
  clear h
  go_enter Try.func32, Try.ntmps32
  go_wp2_with (first | refine wpList_alloc_W rfl 51 rfl (some 4) rfl _ HY.out W.heap.size rfl ?_ | fail)
  intro W1 HG1 HB1 HS1
  have HD1 := hid (HH.out.later HB1.out)
  have HFW := hid (find_word W1 d a cap L s HD1.out)
  go_wp2_with fail
  refine HFW.out.mono ?_
  rintro _ w2 ⟨rfl, hw⟩
  obtain rfl := hw.symm
  clear hw HFW
  have cl : W1.cell? ⟨d, 0, none⟩ = some (.slice a L.length cap) := (Joins.cell_of_block HD1.out.blk 0).trans rfl
  obtain ⟨n, hn⟩ : ∃ n, n = L.length := ⟨_, rfl⟩
  have HN := hid hn
  rw [← hn] at cl hm hr
  clear hn
  by_cases hfx : fixI L s < 0
  · have HQ : Hid (dstF L s = (fiZ, 150)) := by show _ = _; unfold dstF; rw [if_pos hfx]
    generalize fixI L s = fx at *
    go_wp2_with (first | refine wpList_buildTo rfl 51 _ rfl (some 12) rfl fiZ.cs.toArray (Eq.trans (congrArg (Try.prog.built 51) (by simp only [List.map_toArray, List.map_nil])) HBU.out) ?_ | refine wpList_store_W rfl 51 _ _ rfl rfl W.heap.size fiZ.cs.toArray rfl rfl 51 _ HG1.out Try.size51 rfl (Fi.one _) ?_ | fail)
    intro W6 HG6 HB6 HS6
    go_wp2
    exact bodyPost_ret (results_row_tmp rfl _ _ W.heap.size _ rfl (fi_load HG6.out)) rfl ⟨by rw [HQ.out]; rfl, HB1.out.trans (bel_grown HB6.out (Nat.le_refl _) HB1.out.size)⟩
  · obtain ⟨i, hi, hil⟩ := fix_lt (L := L) (s := s) (by omega)
    have HQ : Hid (dstF L s = (L.getD i fiZ, 0)) := by show _ = _; unfold dstF; rw [if_neg hfx, hi]; rfl
    rw [hi]
    obtain ⟨b, o, rfl, hb, hc⟩ := HD1.out.fs.row.cells (by omega)
    have hci := hc i hil
    obtain ⟨f, hf⟩ : ∃ f, f = L.getD i fiZ := ⟨_, rfl⟩
    rw [← hf] at hci HQ
    have HCI : Hid (W1.rangeAt b (o + i * 4) f.cs) := hci
    have hin : i < n := by rw [HN.out]; exact hil
    have hiz : (i : Int) < (n : Int) := by omega
    have HLN : Hid (f.cs.length = 4) := rfl
    clear hc hci hf hi hfx hil hb
    go_wp2_with (first | refine wpList_load_g rfl 51 _ rfl b (o + i * 4) rfl f.cs _ HCI.out Try.underlying51 rfl (by rw [HLN.out]; exact Try.size51) ?_ | refine wpList_store_W rfl 51 _ _ rfl rfl W.heap.size f.cs.toArray rfl rfl 51 _ HG1.out Try.size51 rfl (Fi.one _) ?_ | fail)
    intro W6 HG6 HB6 HS6
    go_wp2
    exact bodyPost_ret (results_row_tmp rfl _ _ W.heap.size _ rfl (fi_load HG6.out)) rfl ⟨by rw [HQ.out]; rfl, HB1.out.trans (bel_grown HB6.out (Nat.le_refl _) HB1.out.size)⟩
end Go.Proofs.Ytcbjlnabbfkkeaa
