/-
  Numbers and digests that are taken: parse's Rest.Byte, Rest.Len, Rest.Number, Rest.Digest. What is left to be read, and what takes of it: parse's Need, Rest.Take, Rest.Byte, Rest.Len.
-/
import Derived.Test.YtgnjicpmfpgdeaaDoorBas
import Derived.WalkLawsBesides
namespace Go.Proofs.YtgnjicpmfpgdeaaDoor
open Go.ChangeShapes Go.WideShapes Go.ChangeAt Go.RowKit Go.Deep

/-- What reading panics with. -/
abbrev faultC : List PanicEntry := [{ v := .iface 109 (.agg #[.int .i64 1]), recovered := false }]
theorem on_word (w : World) : Calls Tryd.prog 82 #[.int .i64 1] w fun e w' => e = .panicked faultC ∧ w' = w := by
  go_enter Tryd.func82, Tryd.ntmps82
  go_wp2
  exact ⟨rfl, rfl, rfl⟩
theorem unless_no (w : World) : Calls Tryd.prog 67 #[.bool false, .int .i64 1] w fun e w' => e = .panicked faultC ∧ w' = w := by
  go_enter Tryd.func67, Tryd.ntmps67
  go_wp2_with fail
  refine (on_word _).mono ?_
  rintro _ w1 ⟨rfl, hw⟩
  obtain rfl := hw.symm
  exact ⟨rfl, rfl, rfl⟩
theorem unless_yes (w : World) : Calls Tryd.prog 67 #[.bool true, .int .i64 1] w fun e w' => e = .returned (.tuple #[]) ∧ w' = w := by
  go_enter Tryd.func67, Tryd.ntmps67
  go_wp2
  go_end0
  exact ⟨rfl, rfl⟩
theorem need_yes (w : World) : Calls Tryd.prog 47 #[.bool true] w fun e w' => e = .returned (.tuple #[]) ∧ w' = w := by
  go_enter Tryd.func47, Tryd.ntmps47
  go_wp2_with fail
  refine (unless_yes _).mono ?_
  rintro _ w1 ⟨rfl, hw⟩
  obtain rfl := hw.symm
  go_wp2
  go_end0
  exact ⟨rfl, rfl⟩
theorem need_no (w : World) : Calls Tryd.prog 47 #[.bool false] w fun e w' => e = .panicked faultC ∧ w' = w := by
  go_enter Tryd.func47, Tryd.ntmps47
  go_wp2_with fail
  refine (unless_no _).mono ?_
  rintro _ w1 ⟨rfl, hw⟩
  obtain rfl := hw.symm
  exact ⟨rfl, rfl, rfl⟩

/-- One block alone is turned. -/
structure But1 (g : Nat) (w w' : World) : Prop where
  bel : Below 0 w w'
  same : ∀ i, i < w.heap.size → i ≠ g → w'.heap[i]? = w.heap[i]?
theorem But1.of_below {g : Nat} {w w' : World} (h : Below w.heap.size w w') : But1 g w w' := ⟨h.mono (Nat.zero_le _), fun i hi _ => h.block i hi⟩
theorem But1.trans {g : Nat} {a b c : World} (h : But1 g a b) (k : But1 g b c) : But1 g a c := ⟨h.bel.trans k.bel, fun i hi hn => (k.same i (Nat.lt_of_lt_of_le hi h.bel.size) hn).trans (h.same i hi hn)⟩
theorem But1.set {g i : Nat} {w w' : World} (h : But1 g w w') (v : Value) : But1 g w (w'.setCell ⟨g, i, none⟩ v) := ⟨h.bel.setCell (Nat.zero_le _) v, fun j hj hn => (Below.heap_setCell w' ⟨g, i, none⟩ v j hn).trans (h.same j hj hn)⟩
theorem But1.refl (g : Nat) (w : World) : But1 g w w := .of_below (Below.refl _ _)
theorem But1.below {g B : Nat} {w w' : World} (h : But1 g w w') (hg : B ≤ g) (hB : B ≤ w.heap.size) : Below B w w' := ⟨h.bel.os, h.bel.tape, h.bel.output, h.bel.size, fun k hk => h.same k (by omega) (by omega)⟩

/-- What is left to be read: the bytes zs, at block g. -/
structure Rd (w0 w : World) (g : Nat) (a : Option Addr) (cap : Nat) (zs : List Int) : Prop where
  blk : w.heap[g]? = some (.cells #[.slice a zs.length cap] 67)
  row : Ri w0 .u8 a cap zs
  bel : Below w0.heap.size w0 w
  ge : w0.heap.size ≤ g
theorem Rd.c0 {w0 w : World} {g : Nat} {a : Option Addr} {cap : Nat} {zs : List Int} (h : Rd w0 w g a cap zs) : w.cell? ⟨g, 0, none⟩ = some (.slice a zs.length cap) := (Joins.cell_of_block h.blk 0).trans rfl
theorem Rd.u0 {w0 w : World} {g : Nat} {a : Option Addr} {cap : Nat} {zs : List Int} (h : Rd w0 w g a cap zs) : w.frozen? ⟨g, 0, none⟩ = false := Joins.unfrozen_of_block h.blk 0
theorem Rd.lt {w0 w : World} {g : Nat} {a : Option Addr} {cap : Nat} {zs : List Int} (h : Rd w0 w g a cap zs) : g < w.heap.size := (Array.getElem?_eq_some_iff.1 h.blk).1
theorem Rd.put {w0 w : World} {g : Nat} {a a' : Option Addr} {cap cap' : Nat} {zs zs' : List Int} (h : Rd w0 w g a cap zs) (hr : Ri w0 .u8 a' cap' zs') : Rd w0 (w.setCell ⟨g, 0, none⟩ (.slice a' zs'.length cap')) g a' cap' zs' := by
  refine ⟨?_, hr, h.bel.setCell (show w0.heap.size ≤ (Addr.mk g 0 none).block from h.ge) _, h.ge⟩
  rw [Joins.block_setCell h.blk]; simp
theorem Rd.later {w0 w w' : World} {g : Nat} {a : Option Addr} {cap : Nat} {zs : List Int} (h : Rd w0 w g a cap zs) (hb : Below w.heap.size w w') : Rd w0 w' g a cap zs :=
  ⟨(hb.block _ h.lt).trans h.blk, h.row, h.bel.trans (hb.mono h.bel.size), h.ge⟩
/-- Where a row is cut off at its beginning. -/
theorem tail_ex {w0 : World} {a : Option Addr} {cap : Nat} {zs : List Int} (h : Ri w0 .u8 a cap zs) (n : Nat) (hn : n ≤ zs.length) :
    ∃ a', (∀ w, (Instr.sliceAt 22 (.slice a zs.length cap) (some (.int .i64 (n : Int))) none none).run Tryd.prog w = .ok (.slice a' (zs.drop n).length (cap - n)) w) ∧ Ri w0 .u8 a' (cap - n) (zs.drop n) := by
  have hroom := h.room
  have hmost := h.most
  obtain ⟨i, hi⟩ : ∃ i, Tryd.prog.info? 5 = some i := info_of_underlying Tryd.underlying5
  have hsz : i.size = 1 := by
    have := Tryd.info5Z
    rw [hi] at this
    simp at this
    exact this.2.1
  have hrun : ∀ w, (Instr.sliceAt 22 (.slice a zs.length cap) (some (.int .i64 (n : Int))) none none).run Tryd.prog w = .ok (.slice (if cap = n then a else a.map (·.add (n * 1))) (zs.drop n).length (cap - n)) w := fun w => by
    rw [List.length_drop]
    have e1 : (n : Int) ≤ (zs.length : Int) := by omega
    simp [Instr.sliceAt, Instr.slice, Instr.sliceBounds, Instr.sliceBound, asIntOf, run_underlying Tryd.underlying22, sizeOf, typeInfo, hi, hsz, hn]
  refine ⟨_, hrun, ?_⟩
  by_cases hc : cap = n
  · rw [if_pos hc]
    have : zs.drop n = [] := List.drop_eq_nil_of_le (by omega)
    rw [this]
    exact ri_none _ _ _ _ (by omega)
  · rw [if_neg hc, Nat.mul_one]
    by_cases h0 : 0 < zs.length
    · obtain ⟨b, off, rfl, _, _⟩ := h.cells h0
      rw [Option.map_some, Addr.add_mid]
      exact h.tail n hn b off rfl
    · have : zs = [] := List.length_eq_zero_iff.1 (by omega)
      subst this
      rw [List.drop_nil]
      exact ri_none _ _ _ _ (by omega)
theorem head_ex {w0 : World} {a : Option Addr} {cap : Nat} {zs : List Int} (h : Ri w0 .u8 a cap zs) (n : Nat) (hn : n ≤ zs.length) :
    ∃ a', (∀ w, (Instr.sliceAt 22 (.slice a zs.length cap) none (some (.int .i64 (n : Int))) (some (.int .i64 (n : Int)))).run Tryd.prog w = .ok (.slice a' (zs.take n).length n) w) ∧ Ri w0 .u8 a' n (zs.take n) := by
  have hroom := h.room
  have hmost := h.most
  obtain ⟨i, hi⟩ : ∃ i, Tryd.prog.info? 5 = some i := info_of_underlying Tryd.underlying5
  have hl : (zs.take n).length = n := by simp; omega
  have hrun : ∀ w, (Instr.sliceAt 22 (.slice a zs.length cap) none (some (.int .i64 (n : Int))) (some (.int .i64 (n : Int)))).run Tryd.prog w = .ok (.slice (if n = 0 then a else a.map (·.add (0 * i.size))) (zs.take n).length n) w := fun w => by
    rw [hl]
    have e1 : n ≤ cap := by omega
    simp [Instr.sliceAt, Instr.slice, Instr.sliceBounds, Instr.sliceBound, asIntOf, run_underlying Tryd.underlying22, sizeOf, typeInfo, hi, e1]
  refine ⟨_, hrun, ?_⟩
  by_cases hc : n = 0
  · subst hc
    exact ri_none _ _ _ _ (by omega)
  · rw [if_neg hc, Nat.zero_mul]
    obtain ⟨b, off, rfl, hb, hz⟩ := h.cells (by omega)
    have := h.take n
    refine ⟨by omega, by omega, this.cells, this.fits⟩
set_option maxRecDepth 100000 in
/-- Take where there are enough. -/
theorem take_some (w0 w : World) (g : Nat) (a : Option Addr) (cap : Nat) (zs : List Int) (n : Nat) (h : Rd w0 w g a cap zs) (hn : n ≤ zs.length) :
    Calls Tryd.prog 66 #[.pointer (some ⟨g, 0, none⟩), .int .i64 (n : Int)] w fun e w' => ∃ a1, e = .returned (.slice a1 (zs.take n).length n) ∧ Ri w0 .u8 a1 n (zs.take n) ∧ ∃ a' c', Rd w0 w' g a' c' (zs.drop n) ∧ But1 g w w' := by
  have c0 := h.c0
  have u0 := h.u0
  obtain ⟨a1, hr1, hi1⟩ := head_ex h.row n hn
  obtain ⟨a2, hr2, hi2⟩ := tail_ex h.row n hn
  have HI1 := hid hi1
  have HI2 := hid (h.put hi2)
  have hb := (But1.refl g w).set (i := 0) (.slice a2 (zs.drop n).length (cap - n))
  have HB := hid hb
  have hmost := h.row.most
  have hroom := h.row.room
  unfold maxLen at hmost
  have e1 : decide ((n : Int) ≤ (zs.length : Int)) = true := decide_eq_true (by omega)
  have e2 : decide ((0 : Int) ≤ (n : Int)) = true := decide_eq_true (by omega)
  clear h hi1 hi2 hb
  generalize zs.length = L at *
  generalize (zs.take n).length = L1 at *
  generalize (zs.drop n).length = L2 at *
  go_enter Tryd.func66, Tryd.ntmps66
  go_wp2_with fail
  refine (need_yes _).mono ?_
  rintro _ w1 ⟨rfl, hw⟩
  obtain rfl := hw.symm
  clear hw
  go_wp2
  go_ret
  exact ⟨_, rfl, HI1.out, _, _, HI2.out, HB.out⟩
set_option maxRecDepth 100000 in
theorem take_none (w0 w : World) (g : Nat) (a : Option Addr) (cap : Nat) (zs : List Int) (n : Nat) (h : Rd w0 w g a cap zs) (hn : ¬ n ≤ zs.length) :
    Calls Tryd.prog 66 #[.pointer (some ⟨g, 0, none⟩), .int .i64 (n : Int)] w fun e w' => e = .panicked faultC ∧ w' = w := by
  have c0 := h.c0
  have e1 : decide ((n : Int) ≤ (zs.length : Int)) = false := decide_eq_false (by omega)
  have e2 : decide ((0 : Int) ≤ (n : Int)) = true := decide_eq_true (by omega)
  clear h
  generalize zs.length = L at *
  go_enter Tryd.func66, Tryd.ntmps66
  go_wp2_with fail
  refine (need_no _).mono ?_
  rintro _ w1 ⟨rfl, hw⟩
  obtain rfl := hw.symm
  exact ⟨rfl, rfl, rfl⟩
end Go.Proofs.YtgnjicpmfpgdeaaDoor
namespace Go.Proofs.YtgnjicpmfpgdeaaDoor
open Go.ChangeShapes Go.WideShapes Go.ChangeAt Go.RowKit Go.Deep

/-- What readL tells: a number within range, and how many bytes. -/
theorem readL_rng : ∀ (zs : List Int) (acc : Int) (i : Nat), 0 ≤ acc → acc < 128 ^ i → i ≤ 9 → 0 ≤ (readL acc i zs).1 ∧ (readL acc i zs).1 < 18446744073709551616 ∧ (i : Int) ≤ (readL acc i zs).2.1 ∧ (readL acc i zs).2.1 ≤ (i : Int) + (zs.length : Int) ∧ ((readL acc i zs).2.2 = 0 ∨ (readL acc i zs).2.2 = 11 ∨ (readL acc i zs).2.2 = 12)
  | [], acc, i, h0, h1, hi => by simp [readL]
  | c :: cs, acc, i, h0, h1, hi => by
    cases hb : badB i c with
    | true => rw [read_bad hb]; simp; omega
    | false =>
      by_cases hc : c < 128
      · rw [read_last hb hc]
        have h2 := digit_next acc c i h0 h1
        have h3 := digit_sum acc c i hi (not_bad hb) h0 h1
        simp only [List.length_cons]
        refine ⟨h2.1, h3, by omega, by omega, by simp⟩
      · rw [read_more hb hc]
        have h2 := digit_next acc c i h0 h1
        have hi9 : i ≠ 9 := fun e => by have := not_bad hb e; omega
        have h4 := readL_rng cs (acc + c % 128 * 128 ^ i) (i + 1) h2.1 h2.2 (by omega)
        simp only [List.length_cons]
        refine ⟨h4.1, h4.2.1, by omega, by omega, h4.2.2.2.2⟩
/-- The number of at most so much that is taken, and what is left. -/
def numO (most : Nat) (zs : List Int) : Option (Nat × List Int) :=
  if (readL 0 0 zs).2.2 = 0 ∧ (readL 0 0 zs).1 ≤ (most : Int) then some ((readL 0 0 zs).1.toNat, zs.drop (readL 0 0 zs).2.1.toNat) else none

theorem read_tail (zs : List Int) : ∀ (k : Nat) (acc : Int), k ≤ 9 → 0 ≤ acc → acc < 128 ^ k → (∀ j, 0 ≤ zs.getD j 0 ∧ zs.getD j 0 ≤ 255) →
    ((readL acc k zs).2.2 ≠ 0 ∧ (readL acc k zs).1 = 0) ∨
    ((readL acc k zs).2.2 = 0 ∧ 0 ≤ (readL acc k zs).1 ∧ (readL acc k zs).1 < 18446744073709551616 ∧ ∃ (y : Int) (m : Nat), (readL acc k zs).1 = acc + y * 128 ^ k ∧ (readL acc k zs).2.1 = k + m ∧ 1 ≤ m ∧ m ≤ zs.length ∧ vintL (9 - k) y = zs.take m ∧ 0 ≤ y ∧ (0 < k → 0 < y)) := by
  induction zs with
  | nil => intro k acc _ _ _ _; left; simp [readL]
  | cons c cs ih =>
    intro k acc hk h0 h1 hby
    have hc := hby 0
    simp only [List.getD_cons_zero] at hc
    cases hbad : badB k c with
    | true => left; rw [read_bad hbad]; simp
    | false =>
      have hnb := of_decide_eq_false hbad
      by_cases hlt : c < 128
      · right
        rw [read_last hbad hlt]
        refine ⟨rfl, (digit_next acc c k h0 h1).1, digit_sum acc c k hk (not_bad hbad) h0 h1, c, 1, ?_, rfl, by omega, by simp, ?_, hc.1, fun h => ?_⟩
        · rw [Int.emod_eq_of_lt hc.1 hlt]
        · rw [vint_last _ _ hlt]; simp
        · omega
      · have hk8 : k + 1 ≤ 9 := by
          have := not_bad hbad
          omega
        have hn := digit_next acc c k h0 h1
        have := ih (k + 1) (acc + c % 128 * 128 ^ k) hk8 hn.1 hn.2 (fun j => by have := hby (j + 1); simpa using this)
        rw [read_more hbad hlt]
        rcases this with h | ⟨he, hx0, hx1, y, m, hx, hm, hm1, hm2, hv, hy0, hy1⟩
        · exact Or.inl h
        · right
          have hyp := hy1 (by omega)
          refine ⟨he, hx0, hx1, c % 128 + 128 * y, m + 1, ?_, ?_, by omega, by simp; omega, ?_, by omega, fun _ => by omega⟩
          · rw [hx, Int.pow_succ, Int.add_mul, Int.add_assoc]
            congr 1
            congr 1
            rw [Int.mul_comm (128 ^ k) 128, ← Int.mul_assoc, Int.mul_comm y 128]
          · rw [hm]; omega
          · rw [show 9 - k = (9 - (k + 1)) + 1 from by omega, vint_more _ _ (by omega)]
            rw [show (c % 128 + 128 * y) / 128 = y from by omega, hv, show (c % 128 + 128 * y) % 128 + 128 = c from by omega]
            simp

theorem read_one (zs : List Int) (hby : ∀ j, 0 ≤ zs.getD j 0 ∧ zs.getD j 0 ≤ 255) :
    ((readL 0 0 zs).2.2 ≠ 0 ∧ (readL 0 0 zs).1 = 0) ∨
    ((readL 0 0 zs).2.2 = 0 ∧ 0 ≤ (readL 0 0 zs).1 ∧ (readL 0 0 zs).1 < 18446744073709551616 ∧ ∃ (m : Nat), (readL 0 0 zs).2.1 = m ∧ 1 ≤ m ∧ m ≤ zs.length ∧ vint (readL 0 0 zs).1 = zs.take m) := by
  rcases read_tail zs 0 0 (by omega) (by omega) (by simp) hby with h | ⟨he, hx0, hx1, y, m, hx, hm, hm1, hm2, hv, _, _⟩
  · exact Or.inl h
  · right
    refine ⟨he, hx0, hx1, m, by rw [hm]; omega, hm1, hm2, ?_⟩
    rw [hx, vint, show (0 : Int) + y * 128 ^ 0 = y from by simp]
    exact hv
theorem read_vint : ∀ (m f k : Nat) (x acc : Int) (rs : List Int), 0 ≤ x → x < 128 ^ (m + 1) → m ≤ f → k + m ≤ 8 → (0 < k → 0 < x) → readL acc k (vintL f x ++ rs) = (acc + x * 128 ^ k, (k : Int) + ((vintL f x).length : Int), 0)
  | m, f, k, x, acc, rs, h0, h1, hf, hk, hx => by
    by_cases hs : x < 128
    · rw [vint_last f x hs]
      have hb : badB k x = false := by
        unfold badB
        rw [decide_eq_false_iff_not]
        rintro (⟨h, _⟩ | ⟨h, h'⟩)
        · omega
        · have := hx h; omega
      rw [List.singleton_append, read_last hb hs, Int.emod_eq_of_lt h0 hs]
      simp
    · cases m with
      | zero => simp at h1; omega
      | succ m =>
        obtain ⟨f', rfl⟩ : ∃ f', f = f' + 1 := ⟨f - 1, by omega⟩
        rw [vint_more f' x hs, List.cons_append]
        have hb : badB k (x % 128 + 128) = false := by
          unfold badB
          rw [decide_eq_false_iff_not]
          rintro (⟨h, _⟩ | ⟨h, h'⟩) <;> omega
        have hd : x / 128 < 128 ^ (m + 1) := by
          rw [Int.ediv_lt_iff_lt_mul (by decide)]
          rw [Int.pow_succ] at h1
          exact h1
        rw [read_more hb (by omega), read_vint m f' (k + 1) (x / 128) _ rs (by omega) hd (by omega) (by omega) (fun _ => by omega)]
        simp only [Prod.mk.injEq, List.length_cons]
        refine ⟨?_, by omega, trivial⟩
        have e1 : (x % 128 + 128) % 128 = x % 128 := by omega
        have e2 : x = x % 128 + 128 * (x / 128) := by omega
        rw [e1, Int.pow_succ]
        generalize (128 : Int) ^ k = p at *
        conv => rhs; rw [e2]
        rw [Int.add_mul, Int.mul_comm p 128, ← Int.mul_assoc, Int.mul_comm (x / 128) 128, Int.add_assoc]
theorem numO_vint (n most : Nat) (rs : List Int) (h : n ≤ most) (hm : most ≤ 1073741824) : numO most (vint (n : Int) ++ rs) = some (n, rs) := by
  have h1 := read_vint 4 9 0 (n : Int) 0 rs (by omega) (by show (n : Int) < 34359738368; omega) (by decide) (by decide) (fun h => by omega)
  unfold numO
  have e : readL 0 0 (vint (n : Int) ++ rs) = ((n : Int), ((vint (n : Int)).length : Int), 0) := by
    unfold vint
    rw [h1]; simp
  rw [e]
  dsimp only
  rw [if_pos ⟨rfl, by omega⟩, Int.toNat_natCast, Int.toNat_natCast, List.drop_left]
/-- A number that is taken has, as its varint, just the bytes that were taken. -/
theorem numO_one {most x : Nat} {zs rs : List Int} (h : numO most zs = some (x, rs)) (hby : ∀ z ∈ zs, 0 ≤ z ∧ z ≤ 255) : zs = vint (x : Int) ++ rs ∧ x ≤ most := by
  have hg : ∀ j, 0 ≤ zs.getD j 0 ∧ zs.getD j 0 ≤ 255 := fun j => by
    by_cases hj : j < zs.length
    · rw [show zs.getD j 0 = zs[j] from by simp [List.getD, List.getElem?_eq_getElem hj]]
      exact hby _ (List.getElem_mem hj)
    · rw [show zs.getD j 0 = 0 from by simp [List.getD, List.getElem?_eq_none (Nat.le_of_not_lt hj)]]
      omega
  unfold numO at h
  rcases read_one zs hg with ⟨he, _⟩ | ⟨he, h0, h1, m, hm, hm1, hm2, hv⟩
  · rw [if_neg (fun hc => he hc.1)] at h; cases h
  · by_cases hc : (readL 0 0 zs).2.2 = 0 ∧ (readL 0 0 zs).1 ≤ (most : Int)
    · rw [if_pos hc] at h
      injection h with h
      injection h with h2 h3
      rw [hm, Int.toNat_natCast] at h3
      have hx : (readL 0 0 zs).1 = (x : Int) := by omega
      rw [hx] at hv hc
      rw [hv, ← h3, List.take_append_drop]
      exact ⟨rfl, by omega⟩
    · rw [if_neg hc] at h; cases h
theorem numO_len {most x : Nat} {zs rs : List Int} (h : numO most zs = some (x, rs)) : x ≤ most ∧ ∃ k, rs = zs.drop k ∧ k ≤ zs.length ∧ (k : Int) = (readL 0 0 zs).2.1 ∧ (readL 0 0 zs).1 = (x : Int) ∧ (readL 0 0 zs).2.2 = 0 := by
  have hr := readL_rng zs 0 0 (by omega) (by simp) (by omega)
  unfold numO at h
  by_cases hc : (readL 0 0 zs).2.2 = 0 ∧ (readL 0 0 zs).1 ≤ (most : Int)
  · rw [if_pos hc] at h
    injection h with h
    injection h with h2 h3
    exact ⟨by omega, (readL 0 0 zs).2.1.toNat, h3.symm, by omega, by omega, by omega, hc.1⟩
  · rw [if_neg hc] at h; cases h

set_option maxRecDepth 100000 in
theorem byte_some (w0 w : World) (g : Nat) (a : Option Addr) (cap : Nat) (z : Int) (zs : List Int) (h : Rd w0 w g a cap (z :: zs)) :
    Calls Tryd.prog 63 #[.pointer (some ⟨g, 0, none⟩)] w fun e w' => e = .returned (.int .u8 z) ∧ ∃ a' c', Rd w0 w' g a' c' zs ∧ But1 g w w' := by
  have HT := hid (take_some w0 w g a cap (z :: zs) 1 h (by simp))
  go_enter Tryd.func63, Tryd.ntmps63
  go_wp2_with fail
  refine HT.out.mono ?_
  rintro _ w1 ⟨a1, rfl, hi, a', c', hd, hb⟩
  simp only [List.take_succ_cons, List.take_zero, List.drop_succ_cons, List.drop_zero, List.length_cons, List.length_nil, Nat.zero_add] at hi hd ⊢
  obtain ⟨b, off, rfl, hlt, hc⟩ := hi.cells (by simp)
  have cz := (hd.bel.cell (p := ⟨b, off, none⟩) hlt).trans (by have := hc 0 (by simp); simpa using this)
  have HD := hid hd
  have HB := hid hb
  clear hi hd hb hc hlt h HT
  go_wp2
  go_ret
  exact ⟨rfl, _, _, HD.out, HB.out⟩
set_option maxRecDepth 100000 in
theorem byte_none (w0 w : World) (g : Nat) (a : Option Addr) (cap : Nat) (h : Rd w0 w g a cap []) :
    Calls Tryd.prog 63 #[.pointer (some ⟨g, 0, none⟩)] w fun e w' => e = .panicked faultC ∧ w' = w := by
  have HT := hid (take_none w0 w g a cap [] 1 h (by simp))
  go_enter Tryd.func63, Tryd.ntmps63
  go_wp2_with fail
  refine HT.out.mono ?_
  rintro _ w1 ⟨rfl, hw⟩
  obtain rfl := hw.symm
  exact ⟨rfl, rfl, rfl⟩
theorem len_word (w0 w : World) (g : Nat) (a : Option Addr) (cap : Nat) (zs : List Int) (h : Rd w0 w g a cap zs) :
    Calls Tryd.prog 48 #[.pointer (some ⟨g, 0, none⟩)] w fun e w' => e = .returned (.int .i64 (zs.length : Int)) ∧ w' = w := by
  have c0 := h.c0
  have hmost := h.row.most
  have hroom := h.row.room
  unfold maxLen at hmost
  clear h
  generalize zs.length = L at *
  go_enter Tryd.func48, Tryd.ntmps48
  go_wp2
  go_ret
  exact ⟨rfl, rfl⟩
set_option maxRecDepth 100000 in
theorem number_none (w0 w : World) (g : Nat) (a : Option Addr) (cap most : Nat) (zs : List Int) (h : Rd w0 w g a cap zs) (hm : most ≤ 1073741824) (hn : numO most zs = none) :
    Calls Tryd.prog 64 #[.pointer (some ⟨g, 0, none⟩), .int .i64 (most : Int)] w fun e w' => e = .panicked faultC ∧ w' = w := by
  have c0 := h.c0
  have HRD := hid (read_word a cap zs w (h.row.later h.bel))
  have hr := readL_rng zs 0 0 (by omega) (by simp) (by omega)
  unfold numO at hn
  generalize readL 0 0 zs = r at *
  obtain ⟨x, n, e⟩ := r
  dsimp only at *
  have hcond : ¬ (e = 0 ∧ x ≤ (most : Int)) := fun hc => by rw [if_pos hc] at hn; cases hn
  have hx0 := hr.1
  have hx1 := hr.2.1
  clear hr hn h
  generalize zs.length = len at *
  have hmi : (most : Int) ≤ 1073741824 := by omega
  have hmj : decide ((0 : Int) ≤ (most : Int)) = true := decide_eq_true (by omega)
  by_cases he : e = 0
  · subst he
    have hxm : ¬ x ≤ (most : Int) := fun hq => hcond ⟨rfl, hq⟩
    have hxd : decide (x ≤ (most : Int)) = false := decide_eq_false hxm
    clear hcond
    go_enter Tryd.func64, Tryd.ntmps64
    go_wp2_with fail
    refine HRD.out.mono ?_
    rintro _ w1 ⟨rfl, hw⟩
    obtain rfl := hw.symm
    clear hw
    go_wp2_with fail
    refine (need_no _).mono ?_
    rintro _ w1 ⟨rfl, hw⟩
    obtain rfl := hw.symm
    exact ⟨rfl, rfl, rfl⟩
  · have heb : (e == 0) = false := by rw [beq_eq_false_iff_ne]; exact he
    clear hcond
    go_enter Tryd.func64, Tryd.ntmps64
    go_wp2_with fail
    refine HRD.out.mono ?_
    rintro _ w1 ⟨rfl, hw⟩
    obtain rfl := hw.symm
    clear hw
    go_wp2_with fail
    refine (need_no _).mono ?_
    rintro _ w1 ⟨rfl, hw⟩
    obtain rfl := hw.symm
    exact ⟨rfl, rfl, rfl⟩
set_option maxRecDepth 100000 in
theorem number_some (w0 w : World) (g : Nat) (a : Option Addr) (cap most : Nat) (zs : List Int) (h : Rd w0 w g a cap zs) (hm : most ≤ 1073741824) (x : Nat) (rs : List Int) (hn : numO most zs = some (x, rs)) :
    Calls Tryd.prog 64 #[.pointer (some ⟨g, 0, none⟩), .int .i64 (most : Int)] w fun e w' => e = .returned (.int .i64 (x : Int)) ∧ ∃ a' c', Rd w0 w' g a' c' rs ∧ But1 g w w' := by
  have c0 := h.c0
  have HRD := hid (read_word a cap zs w (h.row.later h.bel))
  obtain ⟨hxm, k, hrs, hk, hk2, hx, he⟩ := numO_len hn
  have HTK := hid (take_some w0 w g a cap zs k h hk)
  rw [← hrs] at HTK
  rw [hx, he, ← hk2] at HRD
  have hxd : decide ((x : Int) ≤ (most : Int)) = true := decide_eq_true (by omega)
  have hxn : decide (x ≤ most) = true := decide_eq_true hxm
  have hmj : decide ((0 : Int) ≤ (most : Int)) = true := decide_eq_true (by omega)
  have hmi : (most : Int) ≤ 1073741824 := by omega
  have hxi : (x : Int) ≤ 1073741824 := by omega
  clear h hn hrs hk hk2 hx he hm hxm
  generalize zs.length = len at *
  go_enter Tryd.func64, Tryd.ntmps64
  go_wp2_with fail
  refine HRD.out.mono ?_
  rintro _ w1 ⟨rfl, hw⟩
  obtain rfl := hw.symm
  clear hw
  go_wp2_with fail
  refine (need_yes _).mono ?_
  rintro _ w1 ⟨rfl, hw⟩
  obtain rfl := hw.symm
  clear hw
  go_wp2_with fail
  refine HTK.out.mono ?_
  rintro _ w1 ⟨a1, rfl, hi, a', c', hd, hb⟩
  have HD := hid hd
  have HB := hid hb
  clear hi hd hb HTK HRD
  go_wp2
  go_ret
  exact ⟨rfl, _, _, HD.out, HB.out⟩
/-- copy, as an operation. -/
theorem wp_copy_run {o : Oper} {ac : Act} {w w' : World} {K : Act → World → Prop} {Q : Exit → Act → World → Prop} (s x : Operand) (ho : o.op = .call { callee := .builtin .copy, args := #[s, x], argTypes := #[22, 22] }) (p q v : Value) (hs : ac.eval s = p) (hx : ac.eval x = q)
    (h : ∀ ty, (Builtin.copy_ #[22, 22] ty #[p, q]).run Tryd.prog w = .ok v w') (hK : K (ac.put o.dst v) w') : o.wp Tryd.prog ac w K Q := by
  unfold Oper.wp execOp
  simp only [ho, resolve, invoke, builtin, Sem.run_bind, Sem.run_pure, Result.andThen_ok, List.map_toArray, List.map_cons, List.map_nil, hs, hx, h]
  exact hK
set_option maxRecDepth 100000 in
theorem copy_dig (w : World) (gB : Nat) (ad : Addr) (c : Nat) (e : List Int) (hb : w.heap[gB]? = some (.cells (u8A z32) 23)) (he : e.length = 32) (hc : ∀ j, j < 32 → w.cell? (ad.add j) = some (.int .u8 (e.getD j 0))) (ty : TypeId) :
    (Builtin.copy_ #[22, 22] ty #[.slice (some ⟨gB, 0, none⟩) 32 32, .slice (some ad) 32 c]).run Tryd.prog w = .ok (goInt 32) (w.setRow gB (u8A e)) := by
  have h1 := run_copy_row (P := Tryd.prog) w 22 22 ty 5 gB 0 32 32 ad 32 c (u8A z32) 23 (e.map (Value.int .u8)) Tryd.underlying22 (by kernel_rfl) hb (by rw [List.length_map, he]; rfl) (fun j v hv => by
    have hj : j < e.length := by have := (List.getElem?_eq_some_iff.1 hv).1; simpa using this
    rw [hc j (by omega), ← hv]
    simp [List.getD, List.getElem?_eq_getElem hj]) (by rw [List.length_map, he, u8A_size]; decide) (fun v hv => by obtain ⟨z, _, rfl⟩ := List.mem_map.1 hv; rfl)
  rw [h1, List.length_map, he]
  congr 2
  rw [List.take_zero, List.nil_append, List.drop_eq_nil_of_le (by rw [Array.length_toList, u8A_size]; decide), List.append_nil]
  rfl
end Go.Proofs.YtgnjicpmfpgdeaaDoor
