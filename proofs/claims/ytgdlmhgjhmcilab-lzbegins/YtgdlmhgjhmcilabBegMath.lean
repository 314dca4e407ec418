/-
  The first tokens make a beginning; l[:n] and b[:n], as values, tokens and bytes.
-/
import Derived.Test.YtgdlmhgjhmcilabAwake
namespace Go.Proofs.Ytgdlmhgjhmcilab
open Go.RowKit Lz Go.ChangeShapes Go.WideShapes

theorem cpy_prefix (b : List Int) (d : Nat) : ∀ n, b <+: cpyL b d n
  | 0 => List.prefix_refl _
  | n + 1 => (cpy_prefix b d n).trans (List.prefix_append _ _)
theorem grow_prefix (b : List Int) (t : Tkz) : b <+: growZ b t := by
  unfold growZ
  split
  · exact List.prefix_append _ _
  · exact cpy_prefix _ _ _
theorem bytF_prefix : ∀ (l : List Tkz) (b : List Int) (i : Nat), (bytF b i l).2.2 = 0 → b <+: (bytF b i l).1
  | [], b, _, _ => List.prefix_refl b
  | t :: l, b, i, h => by
    unfold bytF at h ⊢
    split at h
    · rename_i hf
      rw [if_pos hf]
      exact (grow_prefix b t).trans (bytF_prefix l _ _ h)
    · rename_i hf
      exact absurd h hf
theorem bytF_take : ∀ (l : List Tkz) (b : List Int) (i j : Nat), (bytF b i l).2.2 = 0 → (bytF b i (l.take j)).2.2 = 0 ∧ (bytF b i (l.take j)).1 <+: (bytF b i l).1
  | [], b, i, j, h => by simp [bytF]
  | t :: l, b, i, 0, h => by
    refine ⟨rfl, ?_⟩
    exact bytF_prefix (t :: l) b i h
  | t :: l, b, i, j + 1, h => by
    rw [List.take_succ_cons]
    unfold bytF at h ⊢
    split at h
    · rename_i hf
      rw [if_pos hf, if_pos hf]
      exact bytF_take l _ _ j h
    · rename_i hf
      exact absurd h hf
theorem bytF_none : ∀ (l : List Tkz) (b : List Int) (i : Nat), (bytF b i l).2.2 ≠ 0 → (bytF b i l).1 = []
  | [], _, _, h => absurd rfl h
  | t :: l, b, i, h => by
    unfold bytF at h ⊢
    split at h
    · rename_i hf
      rw [if_pos hf]
      exact bytF_none l _ _ h
    · rename_i hf
      rw [if_neg hf]
theorem prefix_take {a b : List Int} (h : a <+: b) : a.length ≤ b.length ∧ b.take a.length = a := by
  obtain ⟨r, rfl⟩ := h
  simp

theorem low_tok {w : World} {a : Option Addr} {cap : Nat} {l : List Tkz} (h : Rt w a cap l) (n : Nat) (hn : n ≤ l.length) : ∃ a', sliced a 0 n cap 3 = .slice a' n cap ∧ Rt w a' cap (l.take n) := by
  have hl : (l.take n).length = n := by simp; omega
  have hr := h.take n
  refine ⟨_, rfl, hr.room, hr.most, fun h0 => ?_, hr.fits⟩
  obtain ⟨b, off, rfl, hbw, hc⟩ := hr.cells h0
  refine ⟨b, off, ?_, hbw, hc⟩
  split
  · rfl
  · simp [add_plain]
theorem low_byt {w : World} {a : Option Addr} {cap : Nat} {zs : List Int} (h : Ri w .u8 a cap zs) (n : Nat) (_ : n ≤ zs.length) : ∃ a', sliced a 0 n cap 1 = .slice a' n cap ∧ Ri w .u8 a' cap (zs.take n) := by
  have hr := h.take n
  refine ⟨_, rfl, hr.room, hr.most, fun h0 => ?_, hr.fits⟩
  obtain ⟨b, off, rfl, hbw, hc⟩ := hr.cells h0
  refine ⟨b, off, ?_, hbw, hc⟩
  split
  · rfl
  · simp [add_plain]
theorem slice_tok (a : Option Addr) (len cap n : Nat) (h : n ≤ cap) (W : World) : (Instr.slice 22 (.slice a len cap) none (some (.int .i64 (n : Int))) none).run Try.prog W = .ok (sliced a 0 n cap 3) W := by
  have := run_slice_h (P := Try.prog) W 22 a len cap Try.underlying22 .i64 (n : Int) (by omega) (by omega)
  rw [this, Int.toNat_natCast]
  rfl
theorem slice_byt (a : Option Addr) (len cap n : Nat) (h : n ≤ cap) (W : World) : (Instr.slice 26 (.slice a len cap) none (some (.int .i64 (n : Int))) none).run Try.prog W = .ok (sliced a 0 n cap 1) W := by
  have := run_slice_h (P := Try.prog) W 26 a len cap Try.underlying26 .i64 (n : Int) (by omega) (by omega)
  rw [this, Int.toNat_natCast]
  rfl
end Go.Proofs.Ytgdlmhgjhmcilab
