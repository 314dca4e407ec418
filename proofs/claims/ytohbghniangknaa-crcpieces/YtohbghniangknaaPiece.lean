/-
  b[:n] and b[n:], as values and as bytes.
-/
import Derived.Test.YtohbghniangknaaZeros
import Derived.Laws.AppendOwn
namespace Go.Proofs.Ytohbghniangknaa
open Go.ChangeShapes Go.WideShapes Go.ChangeAt Go.RowKit Crc

theorem Try.info23 : (Try.prog.info? 23).map (fun i => (i.zero, i.size, i.bytes)) = some (some (.slice none 0 0), 1, 24) := by kernel_rfl

theorem getD_drop (zs : List Nat) (n j : Nat) : (zs.drop n).getD j 0 = zs.getD (n + j) 0 := by
  simp [List.getD, List.getElem?_drop]

/-- b[:n], as a value and as bytes. -/
theorem low_part {w : World} {a : Option Addr} {cap : Nat} {zs : List Nat} (h : Rd w (.slice a zs.length cap) a cap zs) (n : Nat) (hn : n ≤ zs.length) :
    ∃ a' cap', sliced a 0 n cap 1 = .slice a' n cap' ∧ Rd w (.slice a' n cap') a' cap' (zs.take n) := by
  have hl : (zs.take n).length = n := by simp; omega
  have hr := h.take n
  rw [hl] at hr
  have hroom := h.room
  have hmost := h.most
  refine ⟨_, cap, rfl, ?_⟩
  refine ⟨by rw [hl], by omega, hmost, fun h0 => ?_, hr.hi⟩
  obtain ⟨b, off, rfl, hbw, hc⟩ := hr.cells h0
  refine ⟨b, off, ?_, hbw, hc⟩
  split
  · rfl
  · simp [WideShapes.add_plain]

/-- b[n:], likewise. -/
theorem high_part {w : World} {a : Option Addr} {cap : Nat} {zs : List Nat} (h : Rd w (.slice a zs.length cap) a cap zs) (n : Nat) (hn : n ≤ zs.length) :
    ∃ a' cap', sliced a n zs.length cap 1 = .slice a' (zs.drop n).length cap' ∧ Rd w (.slice a' (zs.drop n).length cap') a' cap' (zs.drop n) := by
  have hl : (zs.drop n).length = zs.length - n := by simp
  have hroom := h.room
  have hmost := h.most
  refine ⟨_, cap - n, by rw [hl]; rfl, ?_⟩
  refine ⟨rfl, by omega, by omega, fun h0 => ?_, fun j => by rw [getD_drop]; exact h.hi _⟩
  obtain ⟨b, off, rfl, hbw, hc⟩ := h.cells (by omega)
  refine ⟨b, off + n, ?_, hbw, fun j hj => ?_⟩
  · rw [if_neg (by omega)]
    simp [WideShapes.add_plain]
  · rw [getD_drop, Nat.add_assoc]
    exact hc (n + j) (by omega)

theorem slice_low (a : Option Addr) (len cap n : Nat) (h : n ≤ cap) (W : World) : (Instr.slice 23 (.slice a len cap) none (some (.int .i64 (n : Int))) none).run Try.prog W = .ok (sliced a 0 n cap 1) W := by
  have := run_slice_h (P := Try.prog) W 23 a len cap Try.underlying23 .i64 (n : Int) (by omega) (by omega)
  rw [this, Int.toNat_natCast]
  rfl

theorem slice_high (a : Option Addr) (len cap n : Nat) (h : n ≤ len) (W : World) : (Instr.slice 23 (.slice a len cap) (some (.int .i64 (n : Int))) none none).run Try.prog W = .ok (sliced a n len cap 1) W := by
  have := run_slice_l (P := Try.prog) W 23 a len cap Try.underlying23 .i64 (n : Int) (by omega) (by omega)
  rw [this, Int.toNat_natCast]
  rfl

end Go.Proofs.Ytohbghniangknaa
