/-
  The document's namespace: find (27).
-/
import Derived.Test.YtcbjlnabbfkkeaaNmS
namespace Go.Proofs.Ytcbjlnabbfkkeaa
open Go.ChangeShapes Go.WideShapes Go.ChangeAt Go.RowKit Go.Deep Go.Lib

/-- The document's namespace: its told files. -/
structure Dn (W : World) (d : Nat) (a : Option Addr) (cap : Nat) (L : List Fi) : Prop where
  blk : W.heap[d]? = some (.cells #[.slice a L.length cap] 29)
  fs : Fs W a cap L
def fixI (L : List Fi) (s : ByteArray) : Int := match L.findIdx? fun f => decide (f.path = s) with
  | some i => (i : Int)
  | none => -1
theorem fix_at {L : List Fi} {s : ByteArray} {i : Nat} (hi : i < L.length) (h : (L.getD i fiZ).path = s) (hn : ∀ j, j < i → (L.getD j fiZ).path ≠ s) : fixI L s = (i : Int) := by
  have e : L.findIdx? (fun f => decide (f.path = s)) = some i := by
    rw [List.findIdx?_eq_some_iff_getElem]
    refine ⟨hi, ?_, fun j hj => ?_⟩
    · have : L.getD i fiZ = L[i] := by simp [List.getD, List.getElem?_eq_getElem hi]
      rw [this] at h
      exact decide_eq_true h
    · have hjl : j < L.length := by omega
      have : L.getD j fiZ = L[j] := by simp [List.getD, List.getElem?_eq_getElem hjl]
      have h2 := hn j hj
      rw [this] at h2
      simpa using h2
  unfold fixI
  rw [e]
theorem fix_none {L : List Fi} {s : ByteArray} (hn : ∀ j, j < L.length → (L.getD j fiZ).path ≠ s) : fixI L s = -1 := by
  have e : L.findIdx? (fun f => decide (f.path = s)) = none := by
    rw [List.findIdx?_eq_none_iff]
    intro f hf
    obtain ⟨j, hj, rfl⟩ := List.getElem_of_mem hf
    have h2 := hn j hj
    have : L.getD j fiZ = L[j] := by simp [List.getD, List.getElem?_eq_getElem hj]
    rw [this] at h2
    exact decide_eq_false h2
  unfold fixI
  rw [e]
set_option maxHeartbeats 3200000 in
set_option maxRecDepth 100000 in
theorem find_word (W : World) (d : Nat) (a : Option Addr) (cap : Nat) (L : List Fi) (s : ByteArray) (h : Dn W d a cap L) :
    Calls Try.prog 27 #[.pointer (some ⟨d, 0, none⟩), .string s] W fun e w' => e = .returned (.int .i64 (fixI L s)) ∧ w' = W := by
  have hm : L.length ≤ maxLen := Nat.le_trans h.fs.row.room h.fs.row.most
  have hr : L.length ≤ cap := h.fs.row.room
  unfold maxLen at hm
  have HF := hid h.fs
  have hblk := h.blk
  obtain ⟨n, hn⟩ : ∃ n, n = L.length := ⟨_, rfl⟩
  have HN := hid hn
  rw [← hn] at hblk hm hr
  have c0 : W.cell? ⟨d, 0, none⟩ = some (.slice a n cap) := (Joins.cell_of_block hblk 0).trans rfl
  have hdw : d < W.heap.size := (Array.getElem?_eq_some_iff.1 hblk).1
  clear h hblk hn
  go_enter Try.func27, Try.ntmps27
  go_wp2
  go_loop [5] (fun x5 => ∃ i : Nat, i ≤ n ∧ x5 = .int .i64 (i : Int) ∧ Hid (∀ j, j < i → (L.getD j fiZ).path ≠ s)) (fun x5 => n - (intOf x5).toNat)
  case atStart => exact ⟨0, by omega, rfl, fun j hj => by omega⟩
  case round =>
    obtain ⟨i, hi, rfl, HS⟩ := hrel
    by_cases hlt : i < n
    · have hiz : (i : Int) < (n : Int) := by omega
      obtain ⟨f, hf⟩ : ∃ f, f = L.getD i fiZ := ⟨_, rfl⟩
      obtain ⟨b1, o1, rfl, _, hc0, _, _, _⟩ := fi_cells HF.out (i := i) (by rw [← HN.out]; exact hlt) hf
      have c1 := hc0 W (Below.refl _ _)
      have HFF := hid hf
      clear hc0 hf
      by_cases hp : f.path = s
      · have HX : Hid (fixI L s = (i : Int)) := fix_at (by rw [← HN.out]; exact hlt) (by rw [← HFF.out]; exact hp) HS.out
        have hpl : f.path.toList = s.toList := congrArg ByteArray.toList hp
        go_wp2
        go_ret
        exact ⟨(congrArg (fun z => Ending.returned (.int .i64 z)) HX.out.symm), rfl⟩
      · have hpl : ¬ f.path.toList = s.toList := fun h => hp (ba_inj h)
        have HP := hid hp
        go_wp2
        · exact absurd (beq_iff_eq.1 (by assumption)) hpl
        refine ⟨⟨i + 1, by omega, by go_num, fun j hj => ?_⟩, by simp [intOf]; omega⟩
        by_cases hji : j < i
        · exact HS.out j hji
        · have : j = i := by omega
          subst this
          rw [← HFF.out]
          exact HP.out
    · have hin : i = n := by omega
      subst hin
      have hiz : ¬ (i : Int) < (i : Int) := by omega
      have HX : Hid (fixI L s = -1) := fix_none (fun j hj => HS.out j (by rw [HN.out]; exact hj))
      go_wp2
      go_ret
      exact ⟨(congrArg (fun z => Ending.returned (.int .i64 z)) HX.out.symm), rfl⟩
end Go.Proofs.Ytcbjlnabbfkkeaa
