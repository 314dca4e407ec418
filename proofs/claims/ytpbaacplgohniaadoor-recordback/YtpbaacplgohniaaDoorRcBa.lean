/-
  What is left to be read, and what takes of it: parse's Need, Rest.Take, Rest.Byte, Rest.Len.
-/
import Derived.Test.YtpbaacplgohniaaDoorRcI
import Derived.WalkLawsBesides
namespace Go.Proofs.YtpbaacplgohniaaDoor
open Go.ChangeShapes Go.WideShapes Go.ChangeAt Go.RowKit Go.Deep

/-- What reading panics with. -/
abbrev faultC : List PanicEntry := [{ v := .iface 106 (.agg #[]), recovered := false }]
theorem need_yes (w : World) : Calls Tryd.prog 44 #[.bool true] w fun e w' => e = .returned (.tuple #[]) ∧ w' = w := by
  go_enter Tryd.func44, Tryd.ntmps44
  go_wp2
  go_end0
  exact ⟨rfl, rfl⟩
theorem need_no (w : World) : Calls Tryd.prog 44 #[.bool false] w fun e w' => e = .panicked faultC ∧ w' = w := by
  go_enter Tryd.func44, Tryd.ntmps44
  go_wp2
  exact ⟨rfl, rfl, rfl⟩

/-- One block alone is turned. -/
structure But1 (g : Nat) (w w' : World) : Prop where
  bel : Below 0 w w'
  same : ∀ i, i < w.heap.size → i ≠ g → w'.heap[i]? = w.heap[i]?
theorem But1.of_below {g : Nat} {w w' : World} (h : Below w.heap.size w w') : But1 g w w' := ⟨h.mono (Nat.zero_le _), fun i hi _ => h.block i hi⟩
theorem But1.trans {g : Nat} {a b c : World} (h : But1 g a b) (k : But1 g b c) : But1 g a c := ⟨h.bel.trans k.bel, fun i hi hn => (k.same i (Nat.lt_of_lt_of_le hi h.bel.size) hn).trans (h.same i hi hn)⟩
theorem But1.set {g i : Nat} {w w' : World} (h : But1 g w w') (v : Value) : But1 g w (w'.setCell ⟨g, i, none⟩ v) := ⟨h.bel.setCell (Nat.zero_le _) v, fun j hj hn => (Below.heap_setCell w' ⟨g, i, none⟩ v j hn).trans (h.same j hj hn)⟩
theorem But1.refl (g : Nat) (w : World) : But1 g w w := .of_below (Below.refl _ _)
theorem But1.below {g B : Nat} {w w' : World} (h : But1 g w w') (hg : B ≤ g) (hB : B ≤ w.heap.size) : Below B w w' := ⟨h.bel.os, h.bel.tape, h.bel.output, h.bel.size, fun k hk => h.same k (by omega) (by omega)⟩

/-- What is left to be read: the bytes zs, at block g. -/
structure Rd (w0 w : World) (g : Nat) (a : Option Addr) (cap : Nat) (zs : List Int) : Prop where
  blk : w.heap[g]? = some (.cells #[.slice a zs.length cap] 87)
  row : Ri w0 .u8 a cap zs
  bel : Below w0.heap.size w0 w
  ge : w0.heap.size ≤ g
theorem Rd.c0 {w0 w : World} {g : Nat} {a : Option Addr} {cap : Nat} {zs : List Int} (h : Rd w0 w g a cap zs) : w.cell? ⟨g, 0, none⟩ = some (.slice a zs.length cap) := (Joins.cell_of_block h.blk 0).trans rfl
theorem Rd.u0 {w0 w : World} {g : Nat} {a : Option Addr} {cap : Nat} {zs : List Int} (h : Rd w0 w g a cap zs) : w.frozen? ⟨g, 0, none⟩ = false := Joins.unfrozen_of_block h.blk 0
theorem Rd.lt {w0 w : World} {g : Nat} {a : Option Addr} {cap : Nat} {zs : List Int} (h : Rd w0 w g a cap zs) : g < w.heap.size := (Array.getElem?_eq_some_iff.1 h.blk).1
theorem Rd.put {w0 w : World} {g : Nat} {a a' : Option Addr} {cap cap' : Nat} {zs zs' : List Int} (h : Rd w0 w g a cap zs) (hr : Ri w0 .u8 a' cap' zs') : Rd w0 (w.setCell ⟨g, 0, none⟩ (.slice a' zs'.length cap')) g a' cap' zs' := by
  refine ⟨?_, hr, h.bel.setCell (show w0.heap.size ≤ (Addr.mk g 0 none).block from h.ge) _, h.ge⟩
  rw [Joins.block_setCell h.blk]; simp
theorem Rd.later {w0 w w' : World} {g : Nat} {a : Option Addr} {cap : Nat} {zs : List Int} (h : Rd w0 w g a cap zs) (hb : Below w.heap.size w w') : Rd w0 w' g a cap zs :=
  ⟨(hb.block _ h.lt).trans h.blk, h.row, h.bel.trans (hb.mono h.bel.size), h.ge⟩
/-- Where a row is cut off at its beginning. -/
theorem tail_ex {w0 : World} {a : Option Addr} {cap : Nat} {zs : List Int} (h : Ri w0 .u8 a cap zs) (n : Nat) (hn : n ≤ zs.length) :
    ∃ a', (∀ w, (Instr.sliceAt 29 (.slice a zs.length cap) (some (.int .i64 (n : Int))) none none).run Tryd.prog w = .ok (.slice a' (zs.drop n).length (cap - n)) w) ∧ Ri w0 .u8 a' (cap - n) (zs.drop n) := by
  have hroom := h.room
  have hmost := h.most
  obtain ⟨i, hi⟩ : ∃ i, Tryd.prog.info? 5 = some i := info_of_underlying Tryd.underlying5
  have hsz : i.size = 1 := by
    have := Tryd.info5Z
    rw [hi] at this
    simp at this
    exact this.2.1
  have hrun : ∀ w, (Instr.sliceAt 29 (.slice a zs.length cap) (some (.int .i64 (n : Int))) none none).run Tryd.prog w = .ok (.slice (if cap = n then a else a.map (·.add (n * 1))) (zs.drop n).length (cap - n)) w := fun w => by
    rw [List.length_drop]
    have e1 : (n : Int) ≤ (zs.length : Int) := by omega
    simp [Instr.sliceAt, Instr.slice, Instr.sliceBounds, Instr.sliceBound, asIntOf, run_underlying Tryd.underlying29, sizeOf, typeInfo, hi, hsz, hn]
  refine ⟨_, hrun, ?_⟩
  by_cases hc : cap = n
  · rw [if_pos hc]
    have : zs.drop n = [] := List.drop_eq_nil_of_le (by omega)
    rw [this]
    exact ri_none _ _ _ _ (by omega)
  · rw [if_neg hc, Nat.mul_one]
    by_cases h0 : 0 < zs.length
    · obtain ⟨b, off, rfl, _, _⟩ := h.cells h0
      rw [Option.map_some, Addr.add_mid]
      exact h.tail n hn b off rfl
    · have : zs = [] := List.length_eq_zero_iff.1 (by omega)
      subst this
      rw [List.drop_nil]
      exact ri_none _ _ _ _ (by omega)
theorem head_ex {w0 : World} {a : Option Addr} {cap : Nat} {zs : List Int} (h : Ri w0 .u8 a cap zs) (n : Nat) (hn : n ≤ zs.length) :
    ∃ a', (∀ w, (Instr.sliceAt 29 (.slice a zs.length cap) none (some (.int .i64 (n : Int))) (some (.int .i64 (n : Int)))).run Tryd.prog w = .ok (.slice a' (zs.take n).length n) w) ∧ Ri w0 .u8 a' n (zs.take n) := by
  have hroom := h.room
  have hmost := h.most
  obtain ⟨i, hi⟩ : ∃ i, Tryd.prog.info? 5 = some i := info_of_underlying Tryd.underlying5
  have hl : (zs.take n).length = n := by simp; omega
  have hrun : ∀ w, (Instr.sliceAt 29 (.slice a zs.length cap) none (some (.int .i64 (n : Int))) (some (.int .i64 (n : Int)))).run Tryd.prog w = .ok (.slice (if n = 0 then a else a.map (·.add (0 * i.size))) (zs.take n).length n) w := fun w => by
    rw [hl]
    have e1 : n ≤ cap := by omega
    simp [Instr.sliceAt, Instr.slice, Instr.sliceBounds, Instr.sliceBound, asIntOf, run_underlying Tryd.underlying29, sizeOf, typeInfo, hi, e1]
  refine ⟨_, hrun, ?_⟩
  by_cases hc : n = 0
  · subst hc
    exact ri_none _ _ _ _ (by omega)
  · rw [if_neg hc, Nat.zero_mul]
    obtain ⟨b, off, rfl, hb, hz⟩ := h.cells (by omega)
    have := h.take n
    refine ⟨by omega, by omega, this.cells, this.fits⟩
set_option maxRecDepth 100000 in
/-- Take where there are enough. -/
theorem take_some (w0 w : World) (g : Nat) (a : Option Addr) (cap : Nat) (zs : List Int) (n : Nat) (h : Rd w0 w g a cap zs) (hn : n ≤ zs.length) :
    Calls Tryd.prog 75 #[.pointer (some ⟨g, 0, none⟩), .int .i64 (n : Int)] w fun e w' => ∃ a1, e = .returned (.slice a1 (zs.take n).length n) ∧ Ri w0 .u8 a1 n (zs.take n) ∧ ∃ a' c', Rd w0 w' g a' c' (zs.drop n) ∧ But1 g w w' := by
  have c0 := h.c0
  have u0 := h.u0
  obtain ⟨a1, hr1, hi1⟩ := head_ex h.row n hn
  obtain ⟨a2, hr2, hi2⟩ := tail_ex h.row n hn
  have HI1 := hid hi1
  have HI2 := hid (h.put hi2)
  have hb := (But1.refl g w).set (i := 0) (.slice a2 (zs.drop n).length (cap - n))
  have HB := hid hb
  have hmost := h.row.most
  have hroom := h.row.room
  unfold maxLen at hmost
  have e1 : decide ((n : Int) ≤ (zs.length : Int)) = true := decide_eq_true (by omega)
  have e2 : decide ((0 : Int) ≤ (n : Int)) = true := decide_eq_true (by omega)
  clear h hi1 hi2 hb
  generalize zs.length = L at *
  generalize (zs.take n).length = L1 at *
  generalize (zs.drop n).length = L2 at *
  go_enter Tryd.func75, Tryd.ntmps75
  go_wp2_with fail
  refine (need_yes _).mono ?_
  rintro _ w1 ⟨rfl, hw⟩
  obtain rfl := hw.symm
  clear hw
  go_wp2
  go_ret
  exact ⟨_, rfl, HI1.out, _, _, HI2.out, HB.out⟩
set_option maxRecDepth 100000 in
theorem take_none (w0 w : World) (g : Nat) (a : Option Addr) (cap : Nat) (zs : List Int) (n : Nat) (h : Rd w0 w g a cap zs) (hn : ¬ n ≤ zs.length) :
    Calls Tryd.prog 75 #[.pointer (some ⟨g, 0, none⟩), .int .i64 (n : Int)] w fun e w' => e = .panicked faultC ∧ w' = w := by
  have c0 := h.c0
  have e1 : decide ((n : Int) ≤ (zs.length : Int)) = false := decide_eq_false (by omega)
  have e2 : decide ((0 : Int) ≤ (n : Int)) = true := decide_eq_true (by omega)
  clear h
  generalize zs.length = L at *
  go_enter Tryd.func75, Tryd.ntmps75
  go_wp2_with fail
  refine (need_no _).mono ?_
  rintro _ w1 ⟨rfl, hw⟩
  obtain rfl := hw.symm
  exact ⟨rfl, rfl, rfl⟩
end Go.Proofs.YtpbaacplgohniaaDoor
