/-
  record's Parse: parse.Of, the closure, Caught. What is read of a record's bytes is that record, and what is read as a record has just these bytes. A record that is read: record's reader.record. A path and pieces that are taken: record's reader.path, reader.pieces. A digest that is taken: parse's Rest.Digest. Numbers and digests that are taken: parse's Rest.Byte, Rest.Len, Rest.Number, Rest.Digest. What is left to be read, and what takes of it: parse's Need, Rest.Take, Rest.Byte, Rest.Len.
-/
import Derived.Test.YtpbaacplgohniaaDoorRcI
import Derived.WalkLawsBesides
import Derived.Test.YtpbaacplgohniaaDoorRcO
import Derived.Test.YtpbaacplgohniaaDoorRcM
import Derived.Defers
import Derived.Recover
import Derived.Laws.Pointers
namespace Go.Proofs.YtpbaacplgohniaaDoor
open Go.ChangeShapes Go.WideShapes Go.ChangeAt Go.RowKit Go.Deep

/-- What reading panics with. -/
abbrev faultC : List PanicEntry := [{ v := .iface 106 (.agg #[]), recovered := false }]
theorem need_yes (w : World) : Calls Tryd.prog 44 #[.bool true] w fun e w' => e = .returned (.tuple #[]) ∧ w' = w := by
  go_enter Tryd.func44, Tryd.ntmps44
  go_wp2
  go_end0
  exact ⟨rfl, rfl⟩
theorem need_no (w : World) : Calls Tryd.prog 44 #[.bool false] w fun e w' => e = .panicked faultC ∧ w' = w := by
  go_enter Tryd.func44, Tryd.ntmps44
  go_wp2
  exact ⟨rfl, rfl, rfl⟩

/-- One block alone is turned. -/
structure But1 (g : Nat) (w w' : World) : Prop where
  bel : Below 0 w w'
  same : ∀ i, i < w.heap.size → i ≠ g → w'.heap[i]? = w.heap[i]?
theorem But1.of_below {g : Nat} {w w' : World} (h : Below w.heap.size w w') : But1 g w w' := ⟨h.mono (Nat.zero_le _), fun i hi _ => h.block i hi⟩
theorem But1.trans {g : Nat} {a b c : World} (h : But1 g a b) (k : But1 g b c) : But1 g a c := ⟨h.bel.trans k.bel, fun i hi hn => (k.same i (Nat.lt_of_lt_of_le hi h.bel.size) hn).trans (h.same i hi hn)⟩
theorem But1.set {g i : Nat} {w w' : World} (h : But1 g w w') (v : Value) : But1 g w (w'.setCell ⟨g, i, none⟩ v) := ⟨h.bel.setCell (Nat.zero_le _) v, fun j hj hn => (Below.heap_setCell w' ⟨g, i, none⟩ v j hn).trans (h.same j hj hn)⟩
theorem But1.refl (g : Nat) (w : World) : But1 g w w := .of_below (Below.refl _ _)
theorem But1.below {g B : Nat} {w w' : World} (h : But1 g w w') (hg : B ≤ g) (hB : B ≤ w.heap.size) : Below B w w' := ⟨h.bel.os, h.bel.tape, h.bel.output, h.bel.size, fun k hk => h.same k (by omega) (by omega)⟩

/-- What is left to be read: the bytes zs, at block g. -/
structure Rd (w0 w : World) (g : Nat) (a : Option Addr) (cap : Nat) (zs : List Int) : Prop where
  blk : w.heap[g]? = some (.cells #[.slice a zs.length cap] 87)
  row : Ri w0 .u8 a cap zs
  bel : Below w0.heap.size w0 w
  ge : w0.heap.size ≤ g
theorem Rd.c0 {w0 w : World} {g : Nat} {a : Option Addr} {cap : Nat} {zs : List Int} (h : Rd w0 w g a cap zs) : w.cell? ⟨g, 0, none⟩ = some (.slice a zs.length cap) := (Joins.cell_of_block h.blk 0).trans rfl
theorem Rd.u0 {w0 w : World} {g : Nat} {a : Option Addr} {cap : Nat} {zs : List Int} (h : Rd w0 w g a cap zs) : w.frozen? ⟨g, 0, none⟩ = false := Joins.unfrozen_of_block h.blk 0
theorem Rd.lt {w0 w : World} {g : Nat} {a : Option Addr} {cap : Nat} {zs : List Int} (h : Rd w0 w g a cap zs) : g < w.heap.size := (Array.getElem?_eq_some_iff.1 h.blk).1
theorem Rd.put {w0 w : World} {g : Nat} {a a' : Option Addr} {cap cap' : Nat} {zs zs' : List Int} (h : Rd w0 w g a cap zs) (hr : Ri w0 .u8 a' cap' zs') : Rd w0 (w.setCell ⟨g, 0, none⟩ (.slice a' zs'.length cap')) g a' cap' zs' := by
  refine ⟨?_, hr, h.bel.setCell (show w0.heap.size ≤ (Addr.mk g 0 none).block from h.ge) _, h.ge⟩
  rw [Joins.block_setCell h.blk]; simp
theorem Rd.later {w0 w w' : World} {g : Nat} {a : Option Addr} {cap : Nat} {zs : List Int} (h : Rd w0 w g a cap zs) (hb : Below w.heap.size w w') : Rd w0 w' g a cap zs :=
  ⟨(hb.block _ h.lt).trans h.blk, h.row, h.bel.trans (hb.mono h.bel.size), h.ge⟩
/-- Where a row is cut off at its beginning. -/
theorem tail_ex {w0 : World} {a : Option Addr} {cap : Nat} {zs : List Int} (h : Ri w0 .u8 a cap zs) (n : Nat) (hn : n ≤ zs.length) :
    ∃ a', (∀ w, (Instr.sliceAt 29 (.slice a zs.length cap) (some (.int .i64 (n : Int))) none none).run Tryd.prog w = .ok (.slice a' (zs.drop n).length (cap - n)) w) ∧ Ri w0 .u8 a' (cap - n) (zs.drop n) := by
  have hroom := h.room
  have hmost := h.most
  obtain ⟨i, hi⟩ : ∃ i, Tryd.prog.info? 5 = some i := info_of_underlying Tryd.underlying5
  have hsz : i.size = 1 := by
    have := Tryd.info5Z
    rw [hi] at this
    simp at this
    exact this.2.1
  have hrun : ∀ w, (Instr.sliceAt 29 (.slice a zs.length cap) (some (.int .i64 (n : Int))) none none).run Tryd.prog w = .ok (.slice (if cap = n then a else a.map (·.add (n * 1))) (zs.drop n).length (cap - n)) w := fun w => by
    rw [List.length_drop]
    have e1 : (n : Int) ≤ (zs.length : Int) := by omega
    simp [Instr.sliceAt, Instr.slice, Instr.sliceBounds, Instr.sliceBound, asIntOf, run_underlying Tryd.underlying29, sizeOf, typeInfo, hi, hsz, hn]
  refine ⟨_, hrun, ?_⟩
  by_cases hc : cap = n
  · rw [if_pos hc]
    have : zs.drop n = [] := List.drop_eq_nil_of_le (by omega)
    rw [this]
    exact ri_none _ _ _ _ (by omega)
  · rw [if_neg hc, Nat.mul_one]
    by_cases h0 : 0 < zs.length
    · obtain ⟨b, off, rfl, _, _⟩ := h.cells h0
      rw [Option.map_some, Addr.add_mid]
      exact h.tail n hn b off rfl
    · have : zs = [] := List.length_eq_zero_iff.1 (by omega)
      subst this
      rw [List.drop_nil]
      exact ri_none _ _ _ _ (by omega)
theorem head_ex {w0 : World} {a : Option Addr} {cap : Nat} {zs : List Int} (h : Ri w0 .u8 a cap zs) (n : Nat) (hn : n ≤ zs.length) :
    ∃ a', (∀ w, (Instr.sliceAt 29 (.slice a zs.length cap) none (some (.int .i64 (n : Int))) (some (.int .i64 (n : Int)))).run Tryd.prog w = .ok (.slice a' (zs.take n).length n) w) ∧ Ri w0 .u8 a' n (zs.take n) := by
  have hroom := h.room
  have hmost := h.most
  obtain ⟨i, hi⟩ : ∃ i, Tryd.prog.info? 5 = some i := info_of_underlying Tryd.underlying5
  have hl : (zs.take n).length = n := by simp; omega
  have hrun : ∀ w, (Instr.sliceAt 29 (.slice a zs.length cap) none (some (.int .i64 (n : Int))) (some (.int .i64 (n : Int)))).run Tryd.prog w = .ok (.slice (if n = 0 then a else a.map (·.add (0 * i.size))) (zs.take n).length n) w := fun w => by
    rw [hl]
    have e1 : n ≤ cap := by omega
    simp [Instr.sliceAt, Instr.slice, Instr.sliceBounds, Instr.sliceBound, asIntOf, run_underlying Tryd.underlying29, sizeOf, typeInfo, hi, e1]
  refine ⟨_, hrun, ?_⟩
  by_cases hc : n = 0
  · subst hc
    exact ri_none _ _ _ _ (by omega)
  · rw [if_neg hc, Nat.zero_mul]
    obtain ⟨b, off, rfl, hb, hz⟩ := h.cells (by omega)
    have := h.take n
    refine ⟨by omega, by omega, this.cells, this.fits⟩
set_option maxRecDepth 100000 in
/-- Take where there are enough. -/
theorem take_some (w0 w : World) (g : Nat) (a : Option Addr) (cap : Nat) (zs : List Int) (n : Nat) (h : Rd w0 w g a cap zs) (hn : n ≤ zs.length) :
    Calls Tryd.prog 75 #[.pointer (some ⟨g, 0, none⟩), .int .i64 (n : Int)] w fun e w' => ∃ a1, e = .returned (.slice a1 (zs.take n).length n) ∧ Ri w0 .u8 a1 n (zs.take n) ∧ ∃ a' c', Rd w0 w' g a' c' (zs.drop n) ∧ But1 g w w' := by
  have c0 := h.c0
  have u0 := h.u0
  obtain ⟨a1, hr1, hi1⟩ := head_ex h.row n hn
  obtain ⟨a2, hr2, hi2⟩ := tail_ex h.row n hn
  have HI1 := hid hi1
  have HI2 := hid (h.put hi2)
  have hb := (But1.refl g w).set (i := 0) (.slice a2 (zs.drop n).length (cap - n))
  have HB := hid hb
  have hmost := h.row.most
  have hroom := h.row.room
  unfold maxLen at hmost
  have e1 : decide ((n : Int) ≤ (zs.length : Int)) = true := decide_eq_true (by omega)
  have e2 : decide ((0 : Int) ≤ (n : Int)) = true := decide_eq_true (by omega)
  clear h hi1 hi2 hb
  generalize zs.length = L at *
  generalize (zs.take n).length = L1 at *
  generalize (zs.drop n).length = L2 at *
  go_enter Tryd.func75, Tryd.ntmps75
  go_wp2_with fail
  refine (need_yes _).mono ?_
  rintro _ w1 ⟨rfl, hw⟩
  obtain rfl := hw.symm
  clear hw
  go_wp2
  go_ret
  exact ⟨_, rfl, HI1.out, _, _, HI2.out, HB.out⟩
set_option maxRecDepth 100000 in
theorem take_none (w0 w : World) (g : Nat) (a : Option Addr) (cap : Nat) (zs : List Int) (n : Nat) (h : Rd w0 w g a cap zs) (hn : ¬ n ≤ zs.length) :
    Calls Tryd.prog 75 #[.pointer (some ⟨g, 0, none⟩), .int .i64 (n : Int)] w fun e w' => e = .panicked faultC ∧ w' = w := by
  have c0 := h.c0
  have e1 : decide ((n : Int) ≤ (zs.length : Int)) = false := decide_eq_false (by omega)
  have e2 : decide ((0 : Int) ≤ (n : Int)) = true := decide_eq_true (by omega)
  clear h
  generalize zs.length = L at *
  go_enter Tryd.func75, Tryd.ntmps75
  go_wp2_with fail
  refine (need_no _).mono ?_
  rintro _ w1 ⟨rfl, hw⟩
  obtain rfl := hw.symm
  exact ⟨rfl, rfl, rfl⟩
end Go.Proofs.YtpbaacplgohniaaDoor
namespace Go.Proofs.YtpbaacplgohniaaDoor
open Go.ChangeShapes Go.WideShapes Go.ChangeAt Go.RowKit Go.Deep

/-- What readL tells: a number within range, and how many bytes. -/
theorem readL_rng : ∀ (zs : List Int) (acc : Int) (i : Nat), 0 ≤ acc → acc < 128 ^ i → i ≤ 9 → 0 ≤ (readL acc i zs).1 ∧ (readL acc i zs).1 < 18446744073709551616 ∧ (i : Int) ≤ (readL acc i zs).2.1 ∧ (readL acc i zs).2.1 ≤ (i : Int) + (zs.length : Int) ∧ ((readL acc i zs).2.2 = 0 ∨ (readL acc i zs).2.2 = 11 ∨ (readL acc i zs).2.2 = 12)
  | [], acc, i, h0, h1, hi => by simp [readL]
  | c :: cs, acc, i, h0, h1, hi => by
    cases hb : badB i c with
    | true => rw [read_bad hb]; simp; omega
    | false =>
      by_cases hc : c < 128
      · rw [read_last hb hc]
        have h2 := digit_next acc c i h0 h1
        have h3 := digit_sum acc c i hi (not_bad hb) h0 h1
        simp only [List.length_cons]
        refine ⟨h2.1, h3, by omega, by omega, by simp⟩
      · rw [read_more hb hc]
        have h2 := digit_next acc c i h0 h1
        have hi9 : i ≠ 9 := fun e => by have := not_bad hb e; omega
        have h4 := readL_rng cs (acc + c % 128 * 128 ^ i) (i + 1) h2.1 h2.2 (by omega)
        simp only [List.length_cons]
        refine ⟨h4.1, h4.2.1, by omega, by omega, h4.2.2.2.2⟩
/-- The number of at most so much that is taken, and what is left. -/
def numO (most : Nat) (zs : List Int) : Option (Nat × List Int) :=
  if (readL 0 0 zs).2.2 = 0 ∧ (readL 0 0 zs).1 ≤ (most : Int) then some ((readL 0 0 zs).1.toNat, zs.drop (readL 0 0 zs).2.1.toNat) else none

theorem read_tail (zs : List Int) : ∀ (k : Nat) (acc : Int), k ≤ 9 → 0 ≤ acc → acc < 128 ^ k → (∀ j, 0 ≤ zs.getD j 0 ∧ zs.getD j 0 ≤ 255) →
    ((readL acc k zs).2.2 ≠ 0 ∧ (readL acc k zs).1 = 0) ∨
    ((readL acc k zs).2.2 = 0 ∧ 0 ≤ (readL acc k zs).1 ∧ (readL acc k zs).1 < 18446744073709551616 ∧ ∃ (y : Int) (m : Nat), (readL acc k zs).1 = acc + y * 128 ^ k ∧ (readL acc k zs).2.1 = k + m ∧ 1 ≤ m ∧ m ≤ zs.length ∧ vintL (9 - k) y = zs.take m ∧ 0 ≤ y ∧ (0 < k → 0 < y)) := by
  induction zs with
  | nil => intro k acc _ _ _ _; left; simp [readL]
  | cons c cs ih =>
    intro k acc hk h0 h1 hby
    have hc := hby 0
    simp only [List.getD_cons_zero] at hc
    cases hbad : badB k c with
    | true => left; rw [read_bad hbad]; simp
    | false =>
      have hnb := of_decide_eq_false hbad
      by_cases hlt : c < 128
      · right
        rw [read_last hbad hlt]
        refine ⟨rfl, (digit_next acc c k h0 h1).1, digit_sum acc c k hk (not_bad hbad) h0 h1, c, 1, ?_, rfl, by omega, by simp, ?_, hc.1, fun h => ?_⟩
        · rw [Int.emod_eq_of_lt hc.1 hlt]
        · rw [vint_last _ _ hlt]; simp
        · omega
      · have hk8 : k + 1 ≤ 9 := by
          have := not_bad hbad
          omega
        have hn := digit_next acc c k h0 h1
        have := ih (k + 1) (acc + c % 128 * 128 ^ k) hk8 hn.1 hn.2 (fun j => by have := hby (j + 1); simpa using this)
        rw [read_more hbad hlt]
        rcases this with h | ⟨he, hx0, hx1, y, m, hx, hm, hm1, hm2, hv, hy0, hy1⟩
        · exact Or.inl h
        · right
          have hyp := hy1 (by omega)
          refine ⟨he, hx0, hx1, c % 128 + 128 * y, m + 1, ?_, ?_, by omega, by simp; omega, ?_, by omega, fun _ => by omega⟩
          · rw [hx, Int.pow_succ, Int.add_mul, Int.add_assoc]
            congr 1
            congr 1
            rw [Int.mul_comm (128 ^ k) 128, ← Int.mul_assoc, Int.mul_comm y 128]
          · rw [hm]; omega
          · rw [show 9 - k = (9 - (k + 1)) + 1 from by omega, vint_more _ _ (by omega)]
            rw [show (c % 128 + 128 * y) / 128 = y from by omega, hv, show (c % 128 + 128 * y) % 128 + 128 = c from by omega]
            simp

theorem read_one (zs : List Int) (hby : ∀ j, 0 ≤ zs.getD j 0 ∧ zs.getD j 0 ≤ 255) :
    ((readL 0 0 zs).2.2 ≠ 0 ∧ (readL 0 0 zs).1 = 0) ∨
    ((readL 0 0 zs).2.2 = 0 ∧ 0 ≤ (readL 0 0 zs).1 ∧ (readL 0 0 zs).1 < 18446744073709551616 ∧ ∃ (m : Nat), (readL 0 0 zs).2.1 = m ∧ 1 ≤ m ∧ m ≤ zs.length ∧ vint (readL 0 0 zs).1 = zs.take m) := by
  rcases read_tail zs 0 0 (by omega) (by omega) (by simp) hby with h | ⟨he, hx0, hx1, y, m, hx, hm, hm1, hm2, hv, _, _⟩
  · exact Or.inl h
  · right
    refine ⟨he, hx0, hx1, m, by rw [hm]; omega, hm1, hm2, ?_⟩
    rw [hx, vint, show (0 : Int) + y * 128 ^ 0 = y from by simp]
    exact hv
theorem read_vint : ∀ (m f k : Nat) (x acc : Int) (rs : List Int), 0 ≤ x → x < 128 ^ (m + 1) → m ≤ f → k + m ≤ 8 → (0 < k → 0 < x) → readL acc k (vintL f x ++ rs) = (acc + x * 128 ^ k, (k : Int) + ((vintL f x).length : Int), 0)
  | m, f, k, x, acc, rs, h0, h1, hf, hk, hx => by
    by_cases hs : x < 128
    · rw [vint_last f x hs]
      have hb : badB k x = false := by
        unfold badB
        rw [decide_eq_false_iff_not]
        rintro (⟨h, _⟩ | ⟨h, h'⟩)
        · omega
        · have := hx h; omega
      rw [List.singleton_append, read_last hb hs, Int.emod_eq_of_lt h0 hs]
      simp
    · cases m with
      | zero => simp at h1; omega
      | succ m =>
        obtain ⟨f', rfl⟩ : ∃ f', f = f' + 1 := ⟨f - 1, by omega⟩
        rw [vint_more f' x hs, List.cons_append]
        have hb : badB k (x % 128 + 128) = false := by
          unfold badB
          rw [decide_eq_false_iff_not]
          rintro (⟨h, _⟩ | ⟨h, h'⟩) <;> omega
        have hd : x / 128 < 128 ^ (m + 1) := by
          rw [Int.ediv_lt_iff_lt_mul (by decide)]
          rw [Int.pow_succ] at h1
          exact h1
        rw [read_more hb (by omega), read_vint m f' (k + 1) (x / 128) _ rs (by omega) hd (by omega) (by omega) (fun _ => by omega)]
        simp only [Prod.mk.injEq, List.length_cons]
        refine ⟨?_, by omega, trivial⟩
        have e1 : (x % 128 + 128) % 128 = x % 128 := by omega
        have e2 : x = x % 128 + 128 * (x / 128) := by omega
        rw [e1, Int.pow_succ]
        generalize (128 : Int) ^ k = p at *
        conv => rhs; rw [e2]
        rw [Int.add_mul, Int.mul_comm p 128, ← Int.mul_assoc, Int.mul_comm (x / 128) 128, Int.add_assoc]
theorem numO_vint (n most : Nat) (rs : List Int) (h : n ≤ most) (hm : most ≤ 1073741824) : numO most (vint (n : Int) ++ rs) = some (n, rs) := by
  have h1 := read_vint 4 9 0 (n : Int) 0 rs (by omega) (by show (n : Int) < 34359738368; omega) (by decide) (by decide) (fun h => by omega)
  unfold numO
  have e : readL 0 0 (vint (n : Int) ++ rs) = ((n : Int), ((vint (n : Int)).length : Int), 0) := by
    unfold vint
    rw [h1]; simp
  rw [e]
  dsimp only
  rw [if_pos ⟨rfl, by omega⟩, Int.toNat_natCast, Int.toNat_natCast, List.drop_left]
/-- A number that is taken has, as its varint, just the bytes that were taken. -/
theorem numO_one {most x : Nat} {zs rs : List Int} (h : numO most zs = some (x, rs)) (hby : ∀ z ∈ zs, 0 ≤ z ∧ z ≤ 255) : zs = vint (x : Int) ++ rs ∧ x ≤ most := by
  have hg : ∀ j, 0 ≤ zs.getD j 0 ∧ zs.getD j 0 ≤ 255 := fun j => by
    by_cases hj : j < zs.length
    · rw [show zs.getD j 0 = zs[j] from by simp [List.getD, List.getElem?_eq_getElem hj]]
      exact hby _ (List.getElem_mem hj)
    · rw [show zs.getD j 0 = 0 from by simp [List.getD, List.getElem?_eq_none (Nat.le_of_not_lt hj)]]
      omega
  unfold numO at h
  rcases read_one zs hg with ⟨he, _⟩ | ⟨he, h0, h1, m, hm, hm1, hm2, hv⟩
  · rw [if_neg (fun hc => he hc.1)] at h; cases h
  · by_cases hc : (readL 0 0 zs).2.2 = 0 ∧ (readL 0 0 zs).1 ≤ (most : Int)
    · rw [if_pos hc] at h
      injection h with h
      injection h with h2 h3
      rw [hm, Int.toNat_natCast] at h3
      have hx : (readL 0 0 zs).1 = (x : Int) := by omega
      rw [hx] at hv hc
      rw [hv, ← h3, List.take_append_drop]
      exact ⟨rfl, by omega⟩
    · rw [if_neg hc] at h; cases h
theorem numO_len {most x : Nat} {zs rs : List Int} (h : numO most zs = some (x, rs)) : x ≤ most ∧ ∃ k, rs = zs.drop k ∧ k ≤ zs.length ∧ (k : Int) = (readL 0 0 zs).2.1 ∧ (readL 0 0 zs).1 = (x : Int) ∧ (readL 0 0 zs).2.2 = 0 := by
  have hr := readL_rng zs 0 0 (by omega) (by simp) (by omega)
  unfold numO at h
  by_cases hc : (readL 0 0 zs).2.2 = 0 ∧ (readL 0 0 zs).1 ≤ (most : Int)
  · rw [if_pos hc] at h
    injection h with h
    injection h with h2 h3
    exact ⟨by omega, (readL 0 0 zs).2.1.toNat, h3.symm, by omega, by omega, by omega, hc.1⟩
  · rw [if_neg hc] at h; cases h

set_option maxRecDepth 100000 in
theorem byte_some (w0 w : World) (g : Nat) (a : Option Addr) (cap : Nat) (z : Int) (zs : List Int) (h : Rd w0 w g a cap (z :: zs)) :
    Calls Tryd.prog 61 #[.pointer (some ⟨g, 0, none⟩)] w fun e w' => e = .returned (.int .u8 z) ∧ ∃ a' c', Rd w0 w' g a' c' zs ∧ But1 g w w' := by
  have HT := hid (take_some w0 w g a cap (z :: zs) 1 h (by simp))
  go_enter Tryd.func61, Tryd.ntmps61
  go_wp2_with fail
  refine HT.out.mono ?_
  rintro _ w1 ⟨a1, rfl, hi, a', c', hd, hb⟩
  simp only [List.take_succ_cons, List.take_zero, List.drop_succ_cons, List.drop_zero, List.length_cons, List.length_nil, Nat.zero_add] at hi hd ⊢
  obtain ⟨b, off, rfl, hlt, hc⟩ := hi.cells (by simp)
  have cz := (hd.bel.cell (p := ⟨b, off, none⟩) hlt).trans (by have := hc 0 (by simp); simpa using this)
  have HD := hid hd
  have HB := hid hb
  clear hi hd hb hc hlt h HT
  go_wp2
  go_ret
  exact ⟨rfl, _, _, HD.out, HB.out⟩
set_option maxRecDepth 100000 in
theorem byte_none (w0 w : World) (g : Nat) (a : Option Addr) (cap : Nat) (h : Rd w0 w g a cap []) :
    Calls Tryd.prog 61 #[.pointer (some ⟨g, 0, none⟩)] w fun e w' => e = .panicked faultC ∧ w' = w := by
  have HT := hid (take_none w0 w g a cap [] 1 h (by simp))
  go_enter Tryd.func61, Tryd.ntmps61
  go_wp2_with fail
  refine HT.out.mono ?_
  rintro _ w1 ⟨rfl, hw⟩
  obtain rfl := hw.symm
  exact ⟨rfl, rfl, rfl⟩
theorem len_word (w0 w : World) (g : Nat) (a : Option Addr) (cap : Nat) (zs : List Int) (h : Rd w0 w g a cap zs) :
    Calls Tryd.prog 45 #[.pointer (some ⟨g, 0, none⟩)] w fun e w' => e = .returned (.int .i64 (zs.length : Int)) ∧ w' = w := by
  have c0 := h.c0
  have hmost := h.row.most
  have hroom := h.row.room
  unfold maxLen at hmost
  clear h
  generalize zs.length = L at *
  go_enter Tryd.func45, Tryd.ntmps45
  go_wp2
  go_ret
  exact ⟨rfl, rfl⟩
set_option maxRecDepth 100000 in
theorem number_none (w0 w : World) (g : Nat) (a : Option Addr) (cap most : Nat) (zs : List Int) (h : Rd w0 w g a cap zs) (hm : most ≤ 1073741824) (hn : numO most zs = none) :
    Calls Tryd.prog 62 #[.pointer (some ⟨g, 0, none⟩), .int .i64 (most : Int)] w fun e w' => e = .panicked faultC ∧ w' = w := by
  have c0 := h.c0
  have HRD := hid (read_word a cap zs w (h.row.later h.bel))
  have hr := readL_rng zs 0 0 (by omega) (by simp) (by omega)
  unfold numO at hn
  generalize readL 0 0 zs = r at *
  obtain ⟨x, n, e⟩ := r
  dsimp only at *
  have hcond : ¬ (e = 0 ∧ x ≤ (most : Int)) := fun hc => by rw [if_pos hc] at hn; cases hn
  have hx0 := hr.1
  have hx1 := hr.2.1
  clear hr hn h
  generalize zs.length = len at *
  have hmi : (most : Int) ≤ 1073741824 := by omega
  have hmj : decide ((0 : Int) ≤ (most : Int)) = true := decide_eq_true (by omega)
  by_cases he : e = 0
  · subst he
    have hxm : ¬ x ≤ (most : Int) := fun hq => hcond ⟨rfl, hq⟩
    have hxd : decide (x ≤ (most : Int)) = false := decide_eq_false hxm
    clear hcond
    go_enter Tryd.func62, Tryd.ntmps62
    go_wp2_with fail
    refine HRD.out.mono ?_
    rintro _ w1 ⟨rfl, hw⟩
    obtain rfl := hw.symm
    clear hw
    go_wp2_with fail
    refine (need_no _).mono ?_
    rintro _ w1 ⟨rfl, hw⟩
    obtain rfl := hw.symm
    exact ⟨rfl, rfl, rfl⟩
  · have heb : (e == 0) = false := by rw [beq_eq_false_iff_ne]; exact he
    clear hcond
    go_enter Tryd.func62, Tryd.ntmps62
    go_wp2_with fail
    refine HRD.out.mono ?_
    rintro _ w1 ⟨rfl, hw⟩
    obtain rfl := hw.symm
    clear hw
    go_wp2_with fail
    refine (need_no _).mono ?_
    rintro _ w1 ⟨rfl, hw⟩
    obtain rfl := hw.symm
    exact ⟨rfl, rfl, rfl⟩
set_option maxRecDepth 100000 in
theorem number_some (w0 w : World) (g : Nat) (a : Option Addr) (cap most : Nat) (zs : List Int) (h : Rd w0 w g a cap zs) (hm : most ≤ 1073741824) (x : Nat) (rs : List Int) (hn : numO most zs = some (x, rs)) :
    Calls Tryd.prog 62 #[.pointer (some ⟨g, 0, none⟩), .int .i64 (most : Int)] w fun e w' => e = .returned (.int .i64 (x : Int)) ∧ ∃ a' c', Rd w0 w' g a' c' rs ∧ But1 g w w' := by
  have c0 := h.c0
  have HRD := hid (read_word a cap zs w (h.row.later h.bel))
  obtain ⟨hxm, k, hrs, hk, hk2, hx, he⟩ := numO_len hn
  have HTK := hid (take_some w0 w g a cap zs k h hk)
  rw [← hrs] at HTK
  rw [hx, he, ← hk2] at HRD
  have hxd : decide ((x : Int) ≤ (most : Int)) = true := decide_eq_true (by omega)
  have hxn : decide (x ≤ most) = true := decide_eq_true hxm
  have hmj : decide ((0 : Int) ≤ (most : Int)) = true := decide_eq_true (by omega)
  have hmi : (most : Int) ≤ 1073741824 := by omega
  have hxi : (x : Int) ≤ 1073741824 := by omega
  clear h hn hrs hk hk2 hx he hm hxm
  generalize zs.length = len at *
  go_enter Tryd.func62, Tryd.ntmps62
  go_wp2_with fail
  refine HRD.out.mono ?_
  rintro _ w1 ⟨rfl, hw⟩
  obtain rfl := hw.symm
  clear hw
  go_wp2_with fail
  refine (need_yes _).mono ?_
  rintro _ w1 ⟨rfl, hw⟩
  obtain rfl := hw.symm
  clear hw
  go_wp2_with fail
  refine HTK.out.mono ?_
  rintro _ w1 ⟨a1, rfl, hi, a', c', hd, hb⟩
  have HD := hid hd
  have HB := hid hb
  clear hi hd hb HTK HRD
  go_wp2
  go_ret
  exact ⟨rfl, _, _, HD.out, HB.out⟩
/-- copy, as an operation. -/
theorem wp_copy_run {o : Oper} {ac : Act} {w w' : World} {K : Act → World → Prop} {Q : Exit → Act → World → Prop} (s x : Operand) (ho : o.op = .call { callee := .builtin .copy, args := #[s, x], argTypes := #[29, 29] }) (p q v : Value) (hs : ac.eval s = p) (hx : ac.eval x = q)
    (h : ∀ ty, (Builtin.copy_ #[29, 29] ty #[p, q]).run Tryd.prog w = .ok v w') (hK : K (ac.put o.dst v) w') : o.wp Tryd.prog ac w K Q := by
  unfold Oper.wp execOp
  simp only [ho, resolve, invoke, builtin, Sem.run_bind, Sem.run_pure, Result.andThen_ok, List.map_toArray, List.map_cons, List.map_nil, hs, hx, h]
  exact hK
set_option maxRecDepth 100000 in
theorem copy_dig (w : World) (gB : Nat) (ad : Addr) (c : Nat) (e : List Int) (hb : w.heap[gB]? = some (.cells (u8A z32) 23)) (he : e.length = 32) (hc : ∀ j, j < 32 → w.cell? (ad.add j) = some (.int .u8 (e.getD j 0))) (ty : TypeId) :
    (Builtin.copy_ #[29, 29] ty #[.slice (some ⟨gB, 0, none⟩) 32 32, .slice (some ad) 32 c]).run Tryd.prog w = .ok (goInt 32) (w.setRow gB (u8A e)) := by
  have h1 := run_copy_row (P := Tryd.prog) w 29 29 ty 5 gB 0 32 32 ad 32 c (u8A z32) 23 (e.map (Value.int .u8)) Tryd.underlying29 (by kernel_rfl) hb (by rw [List.length_map, he]; rfl) (fun j v hv => by
    have hj : j < e.length := by have := (List.getElem?_eq_some_iff.1 hv).1; simpa using this
    rw [hc j (by omega), ← hv]
    simp [List.getD, List.getElem?_eq_getElem hj]) (by rw [List.length_map, he, u8A_size]; decide) (fun v hv => by obtain ⟨z, _, rfl⟩ := List.mem_map.1 hv; rfl)
  rw [h1, List.length_map, he]
  congr 2
  rw [List.take_zero, List.nil_append, List.drop_eq_nil_of_le (by rw [Array.length_toList, u8A_size]; decide), List.append_nil]
  rfl
end Go.Proofs.YtpbaacplgohniaaDoor
namespace Go.Proofs.YtpbaacplgohniaaDoor
open Go.ChangeShapes Go.WideShapes Go.ChangeAt Go.RowKit Go.Deep

theorem zero23B : ∀ w, (zeroValue 23).run Tryd.prog w = .ok (.agg (u8A z32)) w := fun w => by kernel_rfl
theorem size_digB {d : List Int} (h : d.length = 32) : (Tryd.prog.info? 23).map (·.size) = some (u8A d).size := by rw [u8A_size, h]; exact Tryd.size23
theorem load_digB {W : World} {g : Nat} {d : List Int} (h : W.heap[g]? = some (.cells (u8A d) 23)) (hl : d.length = 32) : (loadVar 23 ⟨g, 0, none⟩).run Tryd.prog W = .ok (.agg (u8A d)) W :=
  run_loadVar_row (P := Tryd.prog) W g 23 23 (u8A d) (0, 0) _ h Tryd.underlying23 rfl (size_digB hl)
theorem Rd.but {w0 w w' : World} {g : Nat} {a a' : Option Addr} {cap c' : Nat} {zs rs : List Int} (h : Rd w0 w g a cap zs) (hb : But1 g w w') (hg : w'.heap[g]? = some (.cells #[.slice a' rs.length c'] 87)) (hr : Ri w0 .u8 a' c' rs) : Rd w0 w' g a' c' rs :=
  ⟨hg, hr, h.bel.trans (hb.below h.ge h.bel.size), h.ge⟩
theorem But1.row {g g' : Nat} {w w' : World} (h : But1 g w w') (hg : w.heap.size ≤ g') (cs : Array Value) : But1 g w (w'.setRow g' cs) :=
  ⟨below_setRow h.bel (Nat.zero_le _) _, fun i hi hn => (other_setRow _ _ _ _ (by omega)).trans (h.same i hi hn)⟩
theorem Rd.rowset {w0 w : World} {g g' : Nat} {a : Option Addr} {cap : Nat} {zs : List Int} (h : Rd w0 w g a cap zs) (hg : w0.heap.size ≤ g') (hne : g ≠ g') (cs : Array Value) : Rd w0 (w.setRow g' cs) g a cap zs :=
  ⟨(other_setRow _ _ _ _ hne).trans h.blk, h.row, below_setRow h.bel hg _, h.ge⟩
set_option maxHeartbeats 3200000 in
set_option maxRecDepth 100000 in
theorem digest_some (w0 w : World) (g : Nat) (a : Option Addr) (cap : Nat) (zs : List Int) (h : Rd w0 w g a cap zs) (hn : 32 ≤ zs.length) :
    Calls Tryd.prog 63 #[.pointer (some ⟨g, 0, none⟩)] w fun e w' => e = .returned (.agg (u8A (zs.take 32))) ∧ ∃ a' c', Rd w0 w' g a' c' (zs.drop 32) ∧ But1 g w w' := by
  have b1 := bel_alc w (.cells (u8A z32) 23)
  have b2 := bel_alc (w.alloc (.cells (u8A z32) 23)) (.cells (u8A z32) 23)
  have s1 : (w.alloc (.cells (u8A z32) 23)).heap.size = w.heap.size + 1 := by simp
  have x0 := heap_old (w.alloc (.cells (u8A z32) 23)) (.cells (u8A z32) 23) (heap_alc w (.cells (u8A z32) 23))
  have x1 := heap_alc (w.alloc (.cells (u8A z32) 23)) (.cells (u8A z32) 23)
  rw [s1] at x1
  have bb := Bn b1 b2
  obtain ⟨W0, hW0⟩ : ∃ W0, W0 = (w.alloc (.cells (u8A z32) 23)).alloc (.cells (u8A z32) 23) := ⟨_, rfl⟩
  rw [← hW0] at x0 x1 bb
  have HW0 := hid hW0
  have HS1 : Hid (w.heap.size + 1 = (w.alloc (.cells (u8A z32) 23)).heap.size) := s1.symm
  have HX0 := hid x0
  have HX1 := hid x1
  have HBB := hid bb
  have HD0 := hid (h.later bb)
  have hgl := h.lt
  have hge := h.ge
  have hwl := h.bel.size
  have h32 : (zs.take 32).length = 32 := by simp; omega
  have HN := hid hn
  have H32 := hid h32
  have HGL := hid hgl
  have HGE := hid hge
  have HWL := hid hwl
  clear b1 b2 s1 x0 x1 bb hW0 h hn h32 hgl hge hwl
  go_enter Tryd.func63, Tryd.ntmps63
  go_wp2_with (first | refine wpList_alloc_at rfl 23 rfl (some 2) rfl _ zero23B w.heap.size rfl ?_ | refine wpList_alloc_to rfl 23 rfl (some 3) rfl _ zero23B (w.heap.size + 1) HS1.out W0 HW0.out ?_ | fail)
  refine wp_region_held_drew (S := fun _ => True) (by kernel_rfl) trivial (fun hS0 => ?_)
  have hdr : Below W0.heap.size W0 W0.drew := (Below.refl _ _).drew
  have HD1 := hid (HD0.out.later hdr)
  have HY0 := hid ((hdr.block _ (Array.getElem?_eq_some_iff.1 HX0.out).1).trans HX0.out)
  have HY1 := hid ((hdr.block _ (Array.getElem?_eq_some_iff.1 HX1.out).1).trans HX1.out)
  have HBC := hid (Bn HBB.out hdr)
  clear hdr HD0 HX0 HX1 HBB HW0 HS1
  generalize W0.drew = v0 at *
  simp only [List.size_toArray, List.length_cons, List.length_nil, Nat.reduceAdd]
  refine Ord.take (i := 0) (d := 4) (v := .slice (some ⟨w.heap.size + 1, 0, none⟩) 32 32) rfl rfl (by as_aux_lemma => kernel_rfl) (by as_aux_lemma => kernel_rfl) (by as_aux_lemma => kernel_rfl) (fun _ _ _ h => h) (by rfl) ?hA0 (by assumption) ?_
  case hA0 => intro V hSw; go_simp; try with_reducible rfl
  try simp only [List.setIfInBounds_toArray, List.set_cons_zero, List.set_cons_succ]
  refine Ord.take (i := 1) (d := 5) (v := .pointer (some ⟨g, 0, none⟩)) rfl rfl (by as_aux_lemma => kernel_rfl) (by as_aux_lemma => kernel_rfl) (by as_aux_lemma => kernel_rfl) (fun _ _ _ h => h) (by rfl) ?hA1 (by assumption) ?_
  case hA1 => intro V hSw; go_simp; try with_reducible rfl
  try simp only [List.setIfInBounds_toArray, List.set_cons_zero, List.set_cons_succ]
  refine wpAnyH_ready (rs := [2]) (by as_aux_lemma => kernel_rfl) (by simp) (AllReadyH.cons rfl (fun K hK => ?_) AllReadyH.nil)
  go_simp
  refine (take_some w0 v0 g a cap zs 32 HD1.out HN.out).mono ?_
  rintro _ v1 ⟨a1, rfl, hi, a', c', hd, hb⟩
  rw [H32.out]
  have HI := hid hi
  have HD := hid hd
  have HB := hid hb
  clear hi hd hb
  refine hK.out _ _ trivial (fun _ => ?_)
  clear hK K
  try simp only [List.setIfInBounds_toArray, List.set_cons_zero, List.set_cons_succ]
  obtain ⟨b, off, ha1, hlt, hc⟩ := HI.out.cells (by rw [H32.out]; decide)
  subst ha1
  have HZ1 : Hid (v1.heap[w.heap.size + 1]? = some (.cells (u8A z32) 23)) := (HB.out.same _ (Array.getElem?_eq_some_iff.1 HY1.out).1 (by have := HGL.out; omega)).trans HY1.out
  have HZ0 : Hid (v1.heap[w.heap.size]? = some (.cells (u8A z32) 23)) := (HB.out.same _ (Array.getElem?_eq_some_iff.1 HY0.out).1 (by have := HGL.out; omega)).trans HY0.out
  have HCP := hid (copy_dig v1 (w.heap.size + 1) ⟨b, off, none⟩ 32 (zs.take 32) HZ1.out H32.out (fun j hj => by rw [Addr.add_mid]; exact (HD.out.bel.cell (p := ⟨b, off + j, none⟩) hlt).trans (hc j (by rw [H32.out]; exact hj))))
  clear hc hlt
  refine wpAnyH_ready (rs := [3]) (by as_aux_lemma => kernel_rfl) (by simp) (AllReadyH.cons rfl (fun K hK => ?_) AllReadyH.nil)
  rw [if_pos (by rfl)]
  refine wp_copy_run (.tmp 4) (.tmp 6) rfl _ _ _ rfl rfl HCP.out ?_
  refine hK.out _ _ trivial (fun _ => ?_)
  clear hK K
  refine wpAnyH_done (by as_aux_lemma => kernel_rfl) ?_ _
  have HBD : Hid (But1 g w (v1.setRow (w.heap.size + 1) (u8A (zs.take 32)))) := ((But1.of_below HBC.out).trans HB.out).row (by omega) _
  have HDD : Hid (Rd w0 (v1.setRow (w.heap.size + 1) (u8A (zs.take 32))) g a' c' (zs.drop 32)) := HD.out.rowset (by have := HWL.out; omega) (by have := HGL.out; omega) _
  have HE1 : Hid ((v1.setRow (w.heap.size + 1) (u8A (zs.take 32))).heap[w.heap.size + 1]? = some (.cells (u8A (zs.take 32)) 23)) := setRow_heap _ _ _ _ _ _ HZ1.out
  have HE0 : Hid ((v1.setRow (w.heap.size + 1) (u8A (zs.take 32))).heap[w.heap.size]? = some (.cells (u8A z32) 23)) := (other_setRow _ _ _ _ (by omega)).trans HZ0.out
  have HZS : Hid ((u8A z32).size = (u8A (zs.take 32)).size) := by show _ = _; rw [u8A_size, u8A_size, H32.out]; rfl
  clear HCP HZ1 HZ0 HD HB HI HY0 HY1 HBC HD1
  generalize v1.setRow (w.heap.size + 1) (u8A (zs.take 32)) = v2 at *
  generalize hDE : zs.take 32 = D at *
  have HDE := hid hDE
  clear hDE
  have HLD : Hid (v2.rangeAt (w.heap.size + 1) 0 (D.map (Value.int .u8))) := fun j v hv => by
    rw [Nat.zero_add, Joins.cell_of_block HE1.out j]
    unfold u8A
    rw [List.getElem?_toArray]
    exact hv
  go_wp2_with (first | refine wpList_load_g rfl 23 _ rfl (w.heap.size + 1) 0 rfl (D.map (Value.int .u8)) _ HLD.out Tryd.underlying23 rfl (by rw [List.length_map, H32.out]; exact Tryd.size23) ?_ | refine wpList_store_rowTo rfl 23 _ _ rfl rfl w.heap.size (u8A D) rfl rfl 23 _ HE0.out (size_digB H32.out) HZS.out (u8A_one _) ?_ | fail)
  refine bodyPost_ret (results_cell_row (ty := 23) rfl _ _ _ _ _ _ _ rfl (setRow_heap _ _ _ _ _ _ HE0.out) Tryd.underlying23 rfl (size_digB H32.out)) rfl ?_
  exact ⟨by rw [HDE.out], _, _, HDD.out.rowset HWL.out (by have := HGL.out; omega) _, HBD.out.row (Nat.le_refl _) _⟩
set_option maxHeartbeats 3200000 in
set_option maxRecDepth 100000 in
theorem digest_none (w0 w : World) (g : Nat) (a : Option Addr) (cap : Nat) (zs : List Int) (h : Rd w0 w g a cap zs) (hn : ¬ 32 ≤ zs.length) :
    Calls Tryd.prog 63 #[.pointer (some ⟨g, 0, none⟩)] w fun e w' => e = .panicked faultC ∧ But1 g w w' := by
  have b1 := bel_alc w (.cells (u8A z32) 23)
  have b2 := bel_alc (w.alloc (.cells (u8A z32) 23)) (.cells (u8A z32) 23)
  have bb := Bn b1 b2
  have s1 : (w.alloc (.cells (u8A z32) 23)).heap.size = w.heap.size + 1 := by simp
  obtain ⟨W0, hW0⟩ : ∃ W0, W0 = (w.alloc (.cells (u8A z32) 23)).alloc (.cells (u8A z32) 23) := ⟨_, rfl⟩
  rw [← hW0] at bb
  have HW0 := hid hW0
  have HS1 : Hid (w.heap.size + 1 = (w.alloc (.cells (u8A z32) 23)).heap.size) := s1.symm
  have HBB := hid bb
  have HD0 := hid (h.later bb)
  have HN := hid hn
  clear b1 b2 s1 bb hW0 h hn
  go_enter Tryd.func63, Tryd.ntmps63
  go_wp2_with (first | refine wpList_alloc_at rfl 23 rfl (some 2) rfl _ zero23B w.heap.size rfl ?_ | refine wpList_alloc_to rfl 23 rfl (some 3) rfl _ zero23B (w.heap.size + 1) HS1.out W0 HW0.out ?_ | fail)
  refine wp_region_held_drew (S := fun _ => True) (by kernel_rfl) trivial (fun hS0 => ?_)
  have hdr : Below W0.heap.size W0 W0.drew := (Below.refl _ _).drew
  have HD1 := hid (HD0.out.later hdr)
  have HBC := hid (Bn HBB.out hdr)
  clear hdr HD0 HBB HW0 HS1
  generalize W0.drew = v0 at *
  simp only [List.size_toArray, List.length_cons, List.length_nil, Nat.reduceAdd]
  refine Ord.take (i := 0) (d := 4) (v := .slice (some ⟨w.heap.size + 1, 0, none⟩) 32 32) rfl rfl (by as_aux_lemma => kernel_rfl) (by as_aux_lemma => kernel_rfl) (by as_aux_lemma => kernel_rfl) (fun _ _ _ h => h) (by rfl) ?hA0 (by assumption) ?_
  case hA0 => intro V hSw; go_simp; try with_reducible rfl
  try simp only [List.setIfInBounds_toArray, List.set_cons_zero, List.set_cons_succ]
  refine Ord.take (i := 1) (d := 5) (v := .pointer (some ⟨g, 0, none⟩)) rfl rfl (by as_aux_lemma => kernel_rfl) (by as_aux_lemma => kernel_rfl) (by as_aux_lemma => kernel_rfl) (fun _ _ _ h => h) (by rfl) ?hA1 (by assumption) ?_
  case hA1 => intro V hSw; go_simp; try with_reducible rfl
  try simp only [List.setIfInBounds_toArray, List.set_cons_zero, List.set_cons_succ]
  refine wpAnyH_ready (rs := [2]) (by as_aux_lemma => kernel_rfl) (by simp) (AllReadyH.cons rfl (fun K hK => ?_) AllReadyH.nil)
  go_simp
  refine (take_none w0 v0 g a cap zs 32 HD1.out HN.out).mono ?_
  rintro _ v1 ⟨rfl, hw⟩
  obtain rfl := hw.symm
  exact ⟨rfl, rfl, .of_below HBC.out⟩
end Go.Proofs.YtpbaacplgohniaaDoor
namespace Go.Proofs.YtpbaacplgohniaaDoor
open Go.ChangeShapes Go.WideShapes Go.ChangeAt Go.RowKit Go.Deep

/-- A path's bytes, and what is left. -/
def pthO : List Int → Option (List Int × List Int)
  | [] => none
  | z :: zs => if z.toNat ≤ zs.length then some (zs.take z.toNat, zs.drop z.toNat) else none
/-- k pieces, and what is left. -/
def pcsG : Nat → List Int → Option (List Pc × List Int)
  | 0, zs => some ([], zs)
  | k + 1, zs => match numO 4096 zs with
    | none => none
    | some (n, z1) => if 32 ≤ z1.length then (match pcsG k (z1.drop 32) with
      | none => none
      | some (l, rs) => some ((z1.take 32, (n : Int)) :: l, rs)) else none
def pcsR (zs : List Int) : Option (List Pc × List Int) := match numO 4096 zs with
  | none => none
  | some (k, rs) => pcsG k rs
def glue (l : List Pc) : Option (List Pc × List Int) → Option (List Pc × List Int)
  | none => none
  | some (m, rs) => some (l ++ m, rs)
theorem glue_nil (o : Option (List Pc × List Int)) : glue [] o = o := by
  cases o with
  | none => rfl
  | some p => rfl
theorem glue_no {l : List Pc} {k : Nat} {zs : List Int} (h : numO 4096 zs = none) : glue l (pcsG (k + 1) zs) = none := by rw [pcsG, h]; rfl
theorem glue_no2 {l : List Pc} {k n : Nat} {zs z1 : List Int} (h : numO 4096 zs = some (n, z1)) (h2 : ¬ 32 ≤ z1.length) : glue l (pcsG (k + 1) zs) = none := by rw [pcsG, h]; dsimp only; rw [if_neg h2]; rfl
theorem glue_yes {l : List Pc} {k n : Nat} {zs z1 : List Int} (h : numO 4096 zs = some (n, z1)) (h2 : 32 ≤ z1.length) : glue l (pcsG (k + 1) zs) = glue (l ++ [(z1.take 32, (n : Int))]) (pcsG k (z1.drop 32)) := by
  rw [pcsG, h]; dsimp only; rw [if_pos h2]
  cases pcsG k (z1.drop 32) with
  | none => rfl
  | some p => simp [glue]
def PthPost (w0 w : World) (g : Nat) (o : Option (List Int × List Int)) (e : Ending) (w' : World) : Prop := match o with
  | none => e = .panicked faultC ∧ But1 g w w'
  | some (p, rs) => e = .returned (.string (strOfNums p)) ∧ ∃ a' c', Rd w0 w' g a' c' rs ∧ But1 g w w'
def PcsPost (w0 w : World) (g : Nat) (o : Option (List Pc × List Int)) (e : Ending) (w' : World) : Prop := match o with
  | none => e = .panicked faultC ∧ But1 g w w'
  | some (l, rs) => ∃ a c, e = .returned (.slice a l.length c) ∧ Rp w' a c l ∧ ∃ a' c', Rd w0 w' g a' c' rs ∧ But1 g w w' ∧ ∀ b off, a = some ⟨b, off, none⟩ → w.heap.size ≤ b
theorem Rd.byte {w0 w : World} {g : Nat} {a : Option Addr} {cap : Nat} {zs : List Int} (h : Rd w0 w g a cap zs) : ∀ z ∈ zs, 0 ≤ z ∧ z ≤ 255 := all_u8 h.row.fits
set_option maxRecDepth 100000 in
theorem rpath_word (w0 w : World) (g : Nat) (a : Option Addr) (cap : Nat) (zs : List Int) (h : Rd w0 w g a cap zs) :
    Calls Tryd.prog 64 #[.pointer (some ⟨g, 0, none⟩)] w (PthPost w0 w g (pthO zs)) := by
  cases zs with
  | nil =>
    have HB := hid (byte_none w0 w g a cap h)
    go_enter Tryd.func64, Tryd.ntmps64
    go_wp2_with fail
    refine HB.out.mono ?_
    rintro _ w1 ⟨rfl, hw⟩
    obtain rfl := hw.symm
    exact ⟨rfl, rfl, .refl _ _⟩
  | cons z zs =>
    have hz := h.byte z (by simp)
    obtain ⟨n, rfl⟩ := Int.eq_ofNat_of_zero_le hz.1
    have hnb : (n : Int) ≤ 255 := hz.2
    have HB := hid (byte_some w0 w g a cap (n : Int) zs h)
    have HT : Hid (∀ V a' c', Rd w0 V g a' c' zs → n ≤ zs.length → _) := fun V a' c' q hn => take_some w0 V g a' c' zs n q hn
    have HN : Hid (∀ V a' c', Rd w0 V g a' c' zs → ¬ n ≤ zs.length → _) := fun V a' c' q hn => take_none w0 V g a' c' zs n q hn
    have HP : Hid (pthO ((n : Int) :: zs) = if n ≤ zs.length then some (zs.take n, zs.drop n) else none) := by show _ = _; rw [pthO, Int.toNat_natCast]
    obtain ⟨P, hP⟩ : ∃ P, P = pthO ((n : Int) :: zs) := ⟨_, rfl⟩
    rw [← hP] at HP ⊢
    clear h hz hP
    by_cases hn : n ≤ zs.length
    · have HP2 : Hid (P = some (zs.take n, zs.drop n)) := by show _ = _; rw [HP.out, if_pos hn]
      have HNN := hid hn
      clear hn HP
      go_enter Tryd.func64, Tryd.ntmps64
      go_wp2_with fail
      refine HB.out.mono ?_
      rintro _ w1 ⟨rfl, a1, c1, hd, hb⟩
      have HD := hid hd
      have HB1 := hid hb
      clear hd hb
      go_wp2_with fail
      refine (HT.out w1 a1 c1 HD.out HNN.out).mono ?_
      rintro _ w2 ⟨a2, rfl, hi, a3, c3, hd2, hb2⟩
      have ht := hi.text w2 hd2.bel
      have HD2 := hid hd2
      have HB2 := hid (HB1.out.trans hb2)
      clear hi hd2 hb2 HD HB1
      generalize (zs.take n).length = L1 at *
      generalize hTK : strOfNums (zs.take n) = TK at *
      have HTK := hid hTK
      clear hTK
      go_wp2
      go_ret
      rw [HP2.out]
      exact ⟨by rw [HTK.out]; rfl, _, _, HD2.out, HB2.out⟩
    · have HP2 : Hid (P = none) := by show _ = _; rw [HP.out, if_neg hn]
      have HNN := hid hn
      clear hn HP
      go_enter Tryd.func64, Tryd.ntmps64
      go_wp2_with fail
      refine HB.out.mono ?_
      rintro _ w1 ⟨rfl, a1, c1, hd, hb⟩
      have HD := hid hd
      have HB1 := hid hb
      clear hd hb
      go_wp2_with fail
      refine (HN.out w1 a1 c1 HD.out HNN.out).mono ?_
      rintro _ w2 ⟨rfl, hw⟩
      obtain rfl := hw.symm
      refine ⟨rfl, ?_⟩
      rw [HP2.out]
      exact ⟨rfl, HB1.out⟩
theorem built76 (n : Int) (d : List Int) (h : d.length = 32) : Tryd.prog.built 76 [(0, .agg (u8A d)), (1, .int .i64 n)] = some (pcC (d, n)).toArray := by
  obtain ⟨a0, a1, a2, a3, a4, a5, a6, a7, a8, a9, a10, a11, a12, a13, a14, a15, a16, a17, a18, a19, a20, a21, a22, a23, a24, a25, a26, a27, a28, a29, a30, a31, rfl⟩ := list32 d h
  kernel_rfl
theorem own_but {w w' : World} {B e size n g : Nat} {v : Value} {xs : List Value} (h : w.ownsRow B e size v n xs) (hb : But1 g w w') (hg : g < B) : w'.ownsRow B e size v n xs := by
  refine ⟨h.1, ?_⟩
  rcases h.2 with h1 | ⟨g', cap, cur, hv, hg', hh, hr⟩
  · exact Or.inl h1
  · exact Or.inr ⟨g', cap, cur, hv, hg', (hb.same _ (Array.getElem?_eq_some_iff.1 hh).1 (by omega)).trans hh, hr⟩
set_option maxHeartbeats 3200000 in
set_option maxRecDepth 100000 in
theorem rpieces_word (w0 w : World) (g : Nat) (a : Option Addr) (cap : Nat) (zs : List Int) (h : Rd w0 w g a cap zs) :
    Calls Tryd.prog 65 #[.pointer (some ⟨g, 0, none⟩)] w (PcsPost w0 w g (pcsR zs)) := by
  have HNN : Hid (∀ V a' c' z, Rd w0 V g a' c' z → numO 4096 z = none → Calls Tryd.prog 62 #[.pointer (some ⟨g, 0, none⟩), .int .i64 4096] V fun e w' => e = .panicked faultC ∧ w' = V) := fun V a' c' z q hn => number_none w0 V g a' c' 4096 z q (by omega) hn
  have HNS : Hid (∀ V a' c' z, Rd w0 V g a' c' z → ∀ x rs, numO 4096 z = some (x, rs) → Calls Tryd.prog 62 #[.pointer (some ⟨g, 0, none⟩), .int .i64 4096] V fun e w' => e = .returned (.int .i64 (x : Int)) ∧ ∃ a1 c1, Rd w0 w' g a1 c1 rs ∧ But1 g V w') := fun V a' c' z q x rs hn => number_some w0 V g a' c' 4096 z q (by omega) x rs hn
  have HGL := hid h.lt
  have HGE := hid h.ge
  have HWL := hid h.bel.size
  have HD := hid h
  obtain ⟨PP, hPP⟩ : ∃ P, P = pcsR zs := ⟨_, rfl⟩
  have HPP := hid hPP
  rw [← hPP]
  clear h hPP
  cases hk : numO 4096 zs with
  | none =>
    have HPE : Hid (PP = none) := by show _ = _; rw [HPP.out, pcsR, hk]
    have HK := hid hk
    clear hk HPP
    go_enter Tryd.func65, Tryd.ntmps65
    go_wp2_with fail
    refine (HNN.out w a cap zs HD.out HK.out).mono ?_
    rintro _ w1 ⟨rfl, hw⟩
    obtain rfl := hw.symm
    refine ⟨rfl, ?_⟩
    rw [HPE.out]
    exact ⟨rfl, .refl _ _⟩
  | some p =>
    obtain ⟨K, z1⟩ := p
    have HPE : Hid (PP = pcsG K z1) := by show _ = _; rw [HPP.out, pcsR, hk]
    have hK := (numO_len hk).1
    have HK := hid hk
    clear hk HPP
    obtain ⟨i0, hi, hz0, hz1, hz2⟩ := info_parts Tryd.info76
    have hKi : (K : Int) ≤ 4096 := by omega
    go_enter Tryd.func65, Tryd.ntmps65
    go_wp2_with fail
    refine (HNS.out w a cap zs HD.out K z1 HK.out).mono ?_
    rintro _ W0 ⟨rfl, a1, c1, hd1, hb1⟩
    have HD1 := hid hd1
    have HB1 := hid hb1
    clear hd1 hb1 HK HD
    go_wp2
    go_loopw [3, 9] (fun x3 x9 wr => ∃ (i : Nat) (l : List Pc) (cur : List Int), i ≤ K ∧ x9 = .int .i64 (i : Int) ∧ Hid (l.length = i) ∧ Hid (wr.ownsRow w.heap.size 76 33 x3 l.length (l.flatMap pcC)) ∧ Hid (∀ x ∈ l, PcOk x) ∧ Hid (∃ a' c', Rd w0 wr g a' c' cur) ∧ Hid (But1 g w wr) ∧ Hid (PP = glue l (pcsG (K - i) cur))) (fun _ x9 _ => K - (intOf x9).toNat)
    case atStart => exact ⟨0, [], z1, by omega, rfl, rfl, World.ownsRow_nil _ _ _ _, (fun x hx => by cases hx), ⟨_, _, HD1.out⟩, HB1.out, by show _ = _; rw [HPE.out, glue_nil]; rfl⟩
    case round =>
      obtain ⟨i, l, cur, hiK, rfl, HLI, HO, HOK, HRD, HBT, HGP⟩ := hrel
      obtain ⟨a2, c2, hd2⟩ := HRD.out
      have HD2 := hid hd2
      clear hd2 HRD
      by_cases hlt : i < K
      · have hz : (i : Int) < (K : Int) := by omega
        have hke : K - i = (K - (i + 1)) + 1 := by omega
        have HKE := hid hke
        clear hke
        cases hn : numO 4096 cur with
        | none =>
          have HN := hid hn
          clear hn
          go_wp2_with fail
          refine (HNN.out wr a2 c2 cur HD2.out HN.out).mono ?_
          rintro _ w1 ⟨rfl, hw⟩
          obtain rfl := hw.symm
          refine ⟨rfl, ?_⟩
          rw [HGP.out, HKE.out, glue_no HN.out]
          exact ⟨rfl, HBT.out⟩
        | some p =>
          obtain ⟨n, z2⟩ := p
          have HN := hid hn
          have hnb := (numO_len hn).1
          have hni : (n : Int) ≤ 4096 := by omega
          clear hn
          go_wp2_with fail
          refine (HNS.out wr a2 c2 cur HD2.out n z2 HN.out).mono ?_
          rintro _ W1 ⟨rfl, a3, c3, hd3, hb3⟩
          have HD3 := hid hd3
          have HB3 := hid (HBT.out.trans hb3)
          have HO3 := hid (own_but HO.out hb3 HGL.out)
          clear hd3 hb3 HD2 HO HBT
          by_cases h32 : 32 ≤ z2.length
          · have H32 := hid h32
            have HDL : Hid ((z2.take 32).length = 32) := by show _ = _; simp; omega
            have HGY := hid (HGP.out.trans (by rw [HKE.out, glue_yes HN.out H32.out]))
            have HPK : Hid (PcOk (z2.take 32, (n : Int))) := ⟨HDL.out, (HD3.out.row.take 32).fits, wf_mk_i64 (by show (_ : Int) ≤ (n : Int); omega) (by show (n : Int) ≤ _; omega)⟩
            clear h32 HGP HN
            go_wp2_with fail
            refine (digest_some w0 W1 g a3 c3 z2 HD3.out H32.out).mono ?_
            rintro _ W2 ⟨rfl, a4, c4, hd4, hb4⟩
            generalize z2.take 32 = D at *
            generalize z2.drop 32 = z3 at *
            have hbc := bel_alc W2 (.cells (pcC (D, (n : Int))).toArray 76)
            have HD4 := hid (hd4.later hbc)
            have HB4 := hid ((HB3.out.trans hb4).trans (.of_below hbc))
            have HO4 := hid ((own_but HO3.out hb4 HGL.out).alloc (.cells (pcC (D, (n : Int))).toArray 76))
            have HBU := hid (built76 (n : Int) D HDL.out)
            have HPL : Hid ((pcC (D, (n : Int))).length = 33) := pcC_len HDL.out
            have HPZ : Hid ((pcC (D, (n : Int))).toArray.size = 33) := by show _ = _; rw [List.size_toArray, HPL.out]
            have HNW : Hid (∀ j u, (pcC (D, (n : Int)))[j]? = some u → (W2.alloc (.cells (pcC (D, (n : Int))).toArray 76)).cell? ((⟨W2.heap.size, 0, none⟩ : Addr).add j) = some u) := fun j u hu => by
              rw [add_plain, Nat.zero_add]
              exact (Joins.cell_of_block (heap_alc W2 _) j).trans (by rw [List.getElem?_toArray]; exact hu)
            have HS1 : Hid (w.heap.size ≤ (W2.alloc (.cells (pcC (D, (n : Int))).toArray 76)).heap.size) := HB4.out.bel.size
            have HNE := hid (pcC_one (D, (n : Int)))
            clear hbc hd4 hb4 HO3 HD3 HB3
            have hli : l.length ≤ 4096 := by rw [HLI.out]; omega
            have HLL := hid hli
            clear hli
            go_wp2_with (first | refine wpList_buildTo rfl 76 _ rfl (some 21) rfl (pcC (D, (n : Int))).toArray (Eq.trans (congrArg (Tryd.prog.built 76) (by simp only [List.map_toArray, List.map_cons, List.map_nil]; rfl)) HBU.out) ?_ | refine wpList_buildOne rfl 25 76 _ rfl (some 22) rfl (pcC (D, (n : Int))).toArray i0 _ Tryd.underlying25 hi hz0 (by rw [hz1, HPZ.out]) (by rw [HPZ.out]; decide) (by rw [HPZ.out]; decide) rfl ?_ | (at_builtin; refine wpList_append_own _ rfl _ _ 25 rfl w.heap.size 76 i0 _ 33 40 Tryd.underlying25 hi hz0 hz1 hz2 rfl (by decide) _ _ _ rfl HO4.out ⟨W2.heap.size, 0, none⟩ 1 1 (pcC (D, (n : Int))) rfl (by rw [HPL.out]) HNW.out HNE.out (by have := HLL.out; unfold maxLen; omega) (by have := HLL.out; omega) HS1.out ?_))
            intro v2 W3 ho2 hg2 _
            have HO5 : Hid (W3.ownsRow w.heap.size 76 33 v2 (l ++ [(D, (n : Int))]).length ((l ++ [(D, (n : Int))]).flatMap pcC)) := by
              show World.ownsRow _ _ _ _ _ _ _
              rw [List.length_append, List.flatMap_append]
              simpa using ho2
            have hb5 : Below w.heap.size (W2.alloc (.cells (pcC (D, (n : Int))).toArray 76)) W3 := (Below.refl _ _).grown hg2 HS1.out (fun j hj => (HO4.out.lt j hj).1)
            have HB5 : Hid (But1 g w W3) := ⟨HB4.out.bel.trans (hb5.mono (Nat.zero_le _)), fun j hj hn => (hb5.block j hj).trans (HB4.out.same j hj hn)⟩
            have HD5 : Hid (Rd w0 W3 g a4 c4 z3) := ⟨(hb5.block _ HGL.out).trans HD4.out.blk, HD4.out.row, HD4.out.bel.trans (hb5.mono HWL.out), HD4.out.ge⟩
            have HK5 : Hid (∀ x ∈ l ++ [(D, (n : Int))], PcOk x) := fun x hx => by
              rcases List.mem_append.1 hx with q | q
              · exact HOK.out x q
              · rw [List.mem_singleton] at q; subst q; exact HPK.out
            clear ho2 hg2 hb5 HO4 HNW HB4 HD4
            go_wp2
            go_round
            case rel => exact ⟨i + 1, l ++ [(D, (n : Int))], z3, by omega, by go_num, by show _ = _; rw [List.length_append, HLI.out]; rfl, HO5.out, HK5.out, ⟨_, _, HD5.out⟩, HB5.out, HGY.out⟩
            case measure => simp [intOf]; omega
          · have H32 := hid h32
            have HGN := hid (HGP.out.trans (by rw [HKE.out, glue_no2 HN.out H32.out]))
            clear h32 HGP HN
            go_wp2_with fail
            refine (digest_none w0 W1 g a3 c3 z2 HD3.out H32.out).mono ?_
            rintro _ W2 ⟨rfl, hb4⟩
            refine ⟨rfl, ?_⟩
            rw [HGN.out]
            exact ⟨rfl, HB3.out.trans hb4⟩
      · have hz : ¬ (i : Int) < (K : Int) := by omega
        have hik : i = K := by omega
        have HFI : Hid (PP = some (l, cur)) := by
          show _ = _
          rw [HGP.out, hik, Nat.sub_self]
          show some (l ++ [], cur) = _
          rw [List.append_nil]
        obtain ⟨a5, c5, hv5, hr5, hg5⟩ := Rp.own HO.out HOK.out
        subst hv5
        have HR5 := hid hr5
        have HG5 := hid hg5
        clear hr5 hg5 HGP HO HOK hik
        generalize hLL : l.length = LL at *
        have HLL := hid hLL
        clear hLL
        go_wp2
        go_ret
        rw [HFI.out]
        exact ⟨_, _, by rw [HLL.out]; rfl, HR5.out, _, _, HD2.out, HBT.out, HG5.out⟩
end Go.Proofs.YtpbaacplgohniaaDoor
namespace Go.Proofs.YtpbaacplgohniaaDoor
open Go.ChangeShapes Go.WideShapes Go.ChangeAt Go.RowKit Go.Deep

/-- The record behind its kind, numbers and digest, and what is left. -/
def redL (k s e : Int) (d : List Int) : List Int → Option (Rec × List Int)
  | [] => none
  | x :: z => some (⟨s, e, d, k, x, ByteArray.empty, none, 0, []⟩, z)
def redP (k s e : Int) (d : List Int) (z : List Int) : Option (Rec × List Int) := match pthO z with
  | none => none
  | some (p, z1) => match pcsR z1 with
    | none => none
    | some (l, z2) => some (⟨s, e, d, k, 0, strOfNums p, none, 0, l⟩, z2)
def redX (k s e : Int) (d : List Int) (z : List Int) : Option (Rec × List Int) := match pthO z with
  | none => none
  | some (p, z1) => some (⟨s, e, d, k, 0, strOfNums p, none, 0, []⟩, z1)
def red5 (k s e : Int) (d : List Int) (z : List Int) : Option (Rec × List Int) :=
  if k = 1 then redL k s e d z else if k = 2 then redP k s e d z else if k = 3 then redX k s e d z else some (⟨s, e, d, k, 0, ByteArray.empty, none, 0, []⟩, z)
def red4 (k s e : Int) (z : List Int) : Option (Rec × List Int) := if 32 ≤ z.length then red5 k s e (z.take 32) (z.drop 32) else none
def red3 (k s : Int) (z : List Int) : Option (Rec × List Int) := match numO 1073741824 z with
  | none => none
  | some (e, z1) => red4 k s (e : Int) z1
def red2 (k : Int) (z : List Int) : Option (Rec × List Int) := match numO 1073741824 z with
  | none => none
  | some (s, z1) => red3 k (s : Int) z1
def red1 : List Int → Option (Rec × List Int)
  | [] => none
  | k :: z => red2 k z
/-- The record that bytes begin with, and what is left. -/
def redR : List Int → Option (Rec × List Int)
  | [] => none
  | m :: z => if m = 82 then red1 z else none
def RecPost (w0 w : World) (g : Nat) (o : Option (Rec × List Int)) (e : Ending) (w' : World) : Prop := match o with
  | none => e = .panicked faultC ∧ But1 g w w'
  | some (r, rs) => ∃ a c, e = .returned (.agg { r with a := a, cap := c }.cs.toArray) ∧ Rp w' a c r.ps ∧ ∃ a' c', Rd w0 w' g a' c' rs ∧ But1 g w w' ∧ ∀ b off, a = some ⟨b, off, none⟩ → w.heap.size ≤ b
theorem Bx.setKind {w : World} {g : Nat} {r : Rec} (h : Bx w g r) (x : Int) : Bx (w.setCell ⟨g, 34, none⟩ (.int .i64 x)) g { r with kind := x } := by
  refine ⟨?_, h.len⟩
  rw [Joins.block_setCell h.blk, show r.cs = ([Value.int .i64 r.seq, .int .i64 r.epoch] ++ r.prev.map (Value.int .u8)) ++ [.int .i64 r.kind, .int .i64 r.site, .string r.path, .slice r.a r.ps.length r.cap] from by simp [Rec.cs]]
  have e : ([Value.int .i64 r.seq, .int .i64 r.epoch] ++ r.prev.map (Value.int .u8)).length = 34 := by simp [h.len]
  rw [List.setIfInBounds_toArray, List.set_append_right _ _ (by omega), e]
  simp [Rec.cs]
theorem Bx.setSite {w : World} {g : Nat} {r : Rec} (h : Bx w g r) (x : Int) : Bx (w.setCell ⟨g, 35, none⟩ (.int .i64 x)) g { r with site := x } := by
  refine ⟨?_, h.len⟩
  rw [Joins.block_setCell h.blk, show r.cs = ([Value.int .i64 r.seq, .int .i64 r.epoch] ++ r.prev.map (Value.int .u8) ++ [.int .i64 r.kind]) ++ [.int .i64 r.site, .string r.path, .slice r.a r.ps.length r.cap] from by simp [Rec.cs]]
  have e : ([Value.int .i64 r.seq, .int .i64 r.epoch] ++ r.prev.map (Value.int .u8) ++ [Value.int .i64 r.kind]).length = 35 := by simp [h.len]
  rw [List.setIfInBounds_toArray, List.set_append_right _ _ (by omega), e]
  simp [Rec.cs]
theorem Bx.setPcs {w : World} {g : Nat} {r : Rec} (h : Bx w g r) (a : Option Addr) (c : Nat) (l : List Pc) : Bx (w.setCell ⟨g, 37, none⟩ (.slice a l.length c)) g { r with ps := l, a := a, cap := c } := by
  refine ⟨?_, h.len⟩
  rw [Joins.block_setCell h.blk, show r.cs = ([Value.int .i64 r.seq, .int .i64 r.epoch] ++ r.prev.map (Value.int .u8) ++ [.int .i64 r.kind, .int .i64 r.site, .string r.path]) ++ [.slice r.a r.ps.length r.cap] from by simp [Rec.cs]]
  have e : ([Value.int .i64 r.seq, .int .i64 r.epoch] ++ r.prev.map (Value.int .u8) ++ [Value.int .i64 r.kind, Value.int .i64 r.site, Value.string r.path]).length = 37 := by simp [h.len]
  rw [List.setIfInBounds_toArray, List.set_append_right _ _ (by omega), e]
  simp [Rec.cs]
theorem wpList_store_midTo {P : Program} {ops : Array Oper} {rest : List Oper} {op : Oper} {a : Act} {w : World} {Q : Exit → Act → World → Prop} (hgd : op.guard = none) (ty : TypeId) (x y : Operand) (ho : op.op = .store ty x y) (hd : op.dst = none)
    (b o : Nat) (cells : Array Value) (hx : a.eval x = .pointer (some ⟨b, o, none⟩)) (hy : a.eval y = .agg cells) (ht : w.there b o cells.size) (hi : (P.info? ty).map (·.size) = some cells.size) (h1 : cells.all (·.oneCell') = true)
    (V : World) (hV : V = w.setCells b o cells.toList) (h : wpList P ops Q rest a V) : wpList P ops Q (op :: rest) a w := by
  subst hV
  refine wpList_store_mid hgd ty x y ho b o cells hx hy ht hi h1 ?_
  rw [hd]
  exact h
/-- Where a read record stands: its box, the answer's, what is left. -/
structure Rk (w0 w X : World) (g : Nat) (r : Rec) (zs : List Int) : Prop where
  box : Bx X (w.heap.size + 1) r
  out : X.heap[w.heap.size]? = some (.cells recZ.cs.toArray 27)
  rd : ∃ a c, Rd w0 X g a c zs
  but : But1 g w X
  glt : g < w.heap.size
theorem Rk.ge {w0 w X : World} {g : Nat} {r : Rec} {zs : List Int} (h : Rk w0 w X g r zs) : w.heap.size + 1 < X.heap.size := h.box.lt
theorem Rk.call {w0 w X V : World} {g : Nat} {r : Rec} {zs rs : List Int} {a : Option Addr} {c : Nat} (h : Rk w0 w X g r zs) (hb : But1 g X V) (hd : Rd w0 V g a c rs) : Rk w0 w V g r rs := by
  have h1 := h.glt
  have h2 := h.ge
  exact ⟨⟨(hb.same _ h2 (by omega)).trans h.box.blk, h.box.len⟩, (hb.same _ (by omega) (by omega)).trans h.out, ⟨_, _, hd⟩, h.but.trans hb, h1⟩
theorem Rk.set {w0 w X : World} {g i : Nat} {v : Value} {r r' : Rec} {zs : List Int} (h : Rk w0 w X g r zs) (hx : Bx (X.setCell ⟨w.heap.size + 1, i, none⟩ v) (w.heap.size + 1) r') : Rk w0 w (X.setCell ⟨w.heap.size + 1, i, none⟩ v) g r' zs := by
  have h1 := h.glt
  obtain ⟨a, c, hd⟩ := h.rd
  have h3 := hd.bel.size
  have h4 := hd.ge
  refine ⟨hx, (Deep.blk_setCell_other _ _ _ _ (by show w.heap.size ≠ w.heap.size + 1; omega)).trans h.out, ⟨a, c, ⟨(Deep.blk_setCell_other _ _ _ _ (by show g ≠ w.heap.size + 1; omega)).trans hd.blk, hd.row, hd.bel.setCell (show w0.heap.size ≤ w.heap.size + 1 by omega) _, hd.ge⟩⟩, ⟨h.but.bel.setCell (Nat.zero_le _) _, fun j hj hn => (Deep.blk_setCell_other _ _ _ _ (by show j ≠ w.heap.size + 1; omega)).trans (h.but.same j hj hn)⟩, h1⟩
theorem Rk.setPrev {w0 w X : World} {g : Nat} {r : Rec} {zs : List Int} (h : Rk w0 w X g r zs) (d : List Int) (hd : d.length = 32) : Rk w0 w (X.setCells (w.heap.size + 1) 2 (d.map (Value.int .u8))) g { r with prev := d } zs := by
  have h1 := h.glt
  obtain ⟨a, c, hr⟩ := h.rd
  have h4 := hr.ge
  exact ⟨h.box.setPrev d hd, (other_setCells _ _ (by omega) _ _ _).trans h.out, ⟨a, c, ⟨(other_setCells _ _ (by omega) _ _ _).trans hr.blk, hr.row, below_setCells (by omega) _ _ _ hr.bel, hr.ge⟩⟩, ⟨below_setCells (Nat.zero_le _) _ _ _ h.but.bel, fun j hj hn => (other_setCells _ _ (by omega) _ _ _).trans (h.but.same j hj hn)⟩, h1⟩
theorem Rk.start {w0 w : World} {g : Nat} {a : Option Addr} {c : Nat} {zs : List Int} (h : Rd w0 w g a c zs) : Rk w0 w ((w.alloc (.cells recZ.cs.toArray 27)).alloc (.cells recZ.cs.toArray 27)) g recZ zs := by
  have s1 : (w.alloc (.cells recZ.cs.toArray 27)).heap.size = w.heap.size + 1 := by simp
  have hx := Bx.mk' (w.alloc (.cells recZ.cs.toArray 27)) recZ rfl
  rw [s1] at hx
  have hb := Bn (bel_alc w (.cells recZ.cs.toArray 27)) (bel_alc (w.alloc (.cells recZ.cs.toArray 27)) (.cells recZ.cs.toArray 27))
  exact ⟨hx, heap_old _ _ (heap_alc w _), ⟨a, c, h.later hb⟩, .of_below hb, h.lt⟩
theorem Rk.unf {w0 w X : World} {g : Nat} {r : Rec} {zs : List Int} (h : Rk w0 w X g r zs) (i : Nat) : X.frozen? ⟨w.heap.size + 1, i, none⟩ = false := Joins.unfrozen_of_block h.box.blk i
theorem Rk.byte {w0 w X : World} {g : Nat} {r : Rec} {zs : List Int} (h : Rk w0 w X g r zs) : ∀ z ∈ zs, 0 ≤ z ∧ z ≤ 255 := by
  obtain ⟨a, c, hd⟩ := h.rd
  exact hd.byte
theorem Rk.byteS {w0 w X : World} {g : Nat} {r : Rec} {z : Int} {zs : List Int} (h : Rk w0 w X g r (z :: zs)) : Calls Tryd.prog 61 #[.pointer (some ⟨g, 0, none⟩)] X fun e V => e = .returned (.int .u8 z) ∧ Rk w0 w V g r zs := by
  obtain ⟨a, c, hd⟩ := h.rd
  refine (byte_some w0 X g a c z zs hd).mono ?_
  rintro _ V ⟨rfl, a', c', hd', hb⟩
  exact ⟨rfl, h.call hb hd'⟩
theorem Rk.byteN {w0 w X : World} {g : Nat} {r : Rec} (h : Rk w0 w X g r []) : Calls Tryd.prog 61 #[.pointer (some ⟨g, 0, none⟩)] X fun e V => e = .panicked faultC ∧ But1 g w V := by
  obtain ⟨a, c, hd⟩ := h.rd
  refine (byte_none w0 X g a c hd).mono ?_
  rintro _ V ⟨rfl, rfl⟩
  exact ⟨rfl, h.but⟩
theorem Rk.numS {w0 w X : World} {g : Nat} {r : Rec} {zs rs : List Int} {x : Nat} (h : Rk w0 w X g r zs) (hn : numO 1073741824 zs = some (x, rs)) : Calls Tryd.prog 62 #[.pointer (some ⟨g, 0, none⟩), .int .i64 1073741824] X fun e V => e = .returned (.int .i64 (x : Int)) ∧ Rk w0 w V g r rs := by
  obtain ⟨a, c, hd⟩ := h.rd
  refine (number_some w0 X g a c 1073741824 zs hd (by omega) x rs hn).mono ?_
  rintro _ V ⟨rfl, a', c', hd', hb⟩
  exact ⟨rfl, h.call hb hd'⟩
theorem Rk.numN {w0 w X : World} {g : Nat} {r : Rec} {zs : List Int} (h : Rk w0 w X g r zs) (hn : numO 1073741824 zs = none) : Calls Tryd.prog 62 #[.pointer (some ⟨g, 0, none⟩), .int .i64 1073741824] X fun e V => e = .panicked faultC ∧ But1 g w V := by
  obtain ⟨a, c, hd⟩ := h.rd
  refine (number_none w0 X g a c 1073741824 zs hd (by omega) hn).mono ?_
  rintro _ V ⟨rfl, rfl⟩
  exact ⟨rfl, h.but⟩
theorem Rk.digS {w0 w X : World} {g : Nat} {r : Rec} {zs : List Int} (h : Rk w0 w X g r zs) (hn : 32 ≤ zs.length) : Calls Tryd.prog 63 #[.pointer (some ⟨g, 0, none⟩)] X fun e V => e = .returned (.agg (u8A (zs.take 32))) ∧ Rk w0 w V g r (zs.drop 32) := by
  obtain ⟨a, c, hd⟩ := h.rd
  refine (digest_some w0 X g a c zs hd hn).mono ?_
  rintro _ V ⟨rfl, a', c', hd', hb⟩
  exact ⟨rfl, h.call hb hd'⟩
theorem Rk.digN {w0 w X : World} {g : Nat} {r : Rec} {zs : List Int} (h : Rk w0 w X g r zs) (hn : ¬ 32 ≤ zs.length) : Calls Tryd.prog 63 #[.pointer (some ⟨g, 0, none⟩)] X fun e V => e = .panicked faultC ∧ But1 g w V := by
  obtain ⟨a, c, hd⟩ := h.rd
  refine (digest_none w0 X g a c zs hd hn).mono ?_
  rintro _ V ⟨rfl, hb⟩
  exact ⟨rfl, h.but.trans hb⟩
theorem Rk.pthS {w0 w X : World} {g : Nat} {r : Rec} {zs p rs : List Int} (h : Rk w0 w X g r zs) (hn : pthO zs = some (p, rs)) : Calls Tryd.prog 64 #[.pointer (some ⟨g, 0, none⟩)] X fun e V => e = .returned (.string (strOfNums p)) ∧ Rk w0 w V g r rs := by
  obtain ⟨a, c, hd⟩ := h.rd
  refine (rpath_word w0 X g a c zs hd).mono ?_
  intro e V q
  rw [hn] at q
  obtain ⟨rfl, a', c', hd', hb⟩ := q
  exact ⟨rfl, h.call hb hd'⟩
theorem Rk.pthN {w0 w X : World} {g : Nat} {r : Rec} {zs : List Int} (h : Rk w0 w X g r zs) (hn : pthO zs = none) : Calls Tryd.prog 64 #[.pointer (some ⟨g, 0, none⟩)] X fun e V => e = .panicked faultC ∧ But1 g w V := by
  obtain ⟨a, c, hd⟩ := h.rd
  refine (rpath_word w0 X g a c zs hd).mono ?_
  intro e V q
  rw [hn] at q
  exact ⟨q.1, h.but.trans q.2⟩
theorem Rk.pcsS {w0 w X : World} {g : Nat} {r : Rec} {zs rs : List Int} {l : List Pc} (h : Rk w0 w X g r zs) (hn : pcsR zs = some (l, rs)) : Calls Tryd.prog 65 #[.pointer (some ⟨g, 0, none⟩)] X fun e V => ∃ a c, e = .returned (.slice a l.length c) ∧ Rp V a c l ∧ Rk w0 w V g r rs ∧ (∀ b off, a = some ⟨b, off, none⟩ → X.heap.size ≤ b) := by
  obtain ⟨a, c, hd⟩ := h.rd
  refine (rpieces_word w0 X g a c zs hd).mono ?_
  intro e V q
  rw [hn] at q
  obtain ⟨a1, c1, rfl, hp, a', c', hd', hb, hf⟩ := q
  exact ⟨a1, c1, rfl, hp, h.call hb hd', hf⟩
theorem Rk.pcsN {w0 w X : World} {g : Nat} {r : Rec} {zs : List Int} (h : Rk w0 w X g r zs) (hn : pcsR zs = none) : Calls Tryd.prog 65 #[.pointer (some ⟨g, 0, none⟩)] X fun e V => e = .panicked faultC ∧ But1 g w V := by
  obtain ⟨a, c, hd⟩ := h.rd
  refine (rpieces_word w0 X g a c zs hd).mono ?_
  intro e V q
  rw [hn] at q
  exact ⟨q.1, h.but.trans q.2⟩
set_option maxHeartbeats 16000000 in
set_option maxRecDepth 100000 in
theorem record_word (w0 w : World) (g : Nat) (a : Option Addr) (cap : Nat) (zs : List Int) (h : Rd w0 w g a cap zs) :
    Calls Tryd.prog 43 #[.pointer (some ⟨g, 0, none⟩)] w (RecPost w0 w g (redR zs)) := by
  have K0 := hid (Rk.start h)
  have HWL := hid h.bel.size
  have HNP : Hid (∀ V : World, Rp V none 0 []) := fun V => ⟨Nat.le_refl _, Nat.zero_le _, fun _ => rfl, fun h => absurd h (by simp), fun x hx => by cases hx⟩
  obtain ⟨PP, hPP⟩ : ∃ P, P = redR zs := ⟨_, rfl⟩
  have HPP := hid hPP
  rw [← hPP]
  have HS1 : Hid (w.heap.size + 1 = (w.alloc (.cells recZ.cs.toArray 27)).heap.size) := by show _ = _; simp
  obtain ⟨W0, hW0⟩ : ∃ W0, W0 = (w.alloc (.cells recZ.cs.toArray 27)).alloc (.cells recZ.cs.toArray 27) := ⟨_, rfl⟩
  have HW0 := hid hW0
  rw [← hW0] at K0
  clear h hPP hW0
  go_enter Tryd.func43, Tryd.ntmps43
  go_wp2_with (first | refine wpList_alloc_at rfl 27 rfl (some 2) rfl _ Tryd.zero27 w.heap.size rfl ?_ | refine wpList_alloc_to rfl 27 rfl (some 3) rfl _ Tryd.zero27 (w.heap.size + 1) HS1.out W0 HW0.out ?_ | fail)
  clear HW0 HS1
  cases zs with
  | nil =>
    refine (K0.out.byteN).mono ?_
    rintro _ V ⟨rfl, hb⟩
    refine ⟨rfl, ?_⟩
    rw [show PP = none from HPP.out.trans rfl]
    exact ⟨rfl, hb⟩
  | cons m z0 =>
    refine (K0.out.byteS).mono ?_
    rintro _ V1 ⟨rfl, hk⟩
    have K1 := hid hk
    clear hk
    by_cases hm : m = 82
    · subst hm
      have HEQ : Hid (redR (82 :: z0) = red1 z0) := by show _ = _; rw [redR, if_pos rfl]
      rw [HEQ.out] at HPP
      clear HEQ
      go_wp2_with fail
      refine (need_yes _).mono ?_
      rintro _ w1 ⟨rfl, hw⟩
      obtain rfl := hw.symm
      clear hw
      go_wp2_with fail
      cases z0 with
      | nil =>
        refine (K1.out.byteN).mono ?_
        rintro _ V ⟨rfl, hb⟩
        refine ⟨rfl, ?_⟩
        rw [show PP = none from HPP.out.trans rfl]
        exact ⟨rfl, hb⟩
      | cons k z0 =>
        have HKB := hid (K1.out.byte k (by simp))
        have hkb := HKB.out
        have hk0 := hkb.1
        have hk1 := hkb.2
        clear hkb
        refine (K1.out.byteS).mono ?_
        rintro _ V2 ⟨rfl, hk⟩
        have K2 := hid hk
        clear hk
        have c34 := K2.out.box.c34
        have u34 := K2.out.unf 34
        go_wp2_with fail
        have K3 := hid (K2.out.set (K2.out.box.setKind k))
        generalize V2.setCell ⟨w.heap.size + 1, 34, none⟩ (.int .i64 k) = X3 at *
        clear c34 u34 hk0 hk1
        cases hn1 : numO 1073741824 z0 with
        | none =>
          have HN1 := hid hn1
          clear hn1
          refine (K3.out.numN HN1.out).mono ?_
          rintro _ V ⟨rfl, hb⟩
          refine ⟨rfl, ?_⟩
          rw [show PP = none from HPP.out.trans (by show red2 k z0 = none; unfold red2; rw [HN1.out])]
          exact ⟨rfl, hb⟩
        | some q =>
          obtain ⟨sn, z1⟩ := q
          have HN1 := hid hn1
          have HEQ : Hid (red1 (k :: z0) = red3 k (sn : Int) z1) := by show red2 k z0 = _; unfold red2; rw [HN1.out]
          rw [HEQ.out] at HPP
          clear hn1 HEQ
          refine (K3.out.numS HN1.out).mono ?_
          rintro _ V4 ⟨rfl, hk⟩
          have K4 := hid hk
          clear hk
          have c0 := K4.out.box.c0
          have u0 := K4.out.unf 0
          go_wp2_with fail
          have K5 := hid (K4.out.set (K4.out.box.setSeq (sn : Int)))
          generalize V4.setCell ⟨w.heap.size + 1, 0, none⟩ (.int .i64 (sn : Int)) = X5 at *
          clear c0 u0
          cases hn2 : numO 1073741824 z1 with
          | none =>
            have HN2 := hid hn2
            clear hn2
            refine (K5.out.numN HN2.out).mono ?_
            rintro _ V ⟨rfl, hb⟩
            refine ⟨rfl, ?_⟩
            rw [show PP = none from HPP.out.trans (by unfold red3; rw [HN2.out])]
            exact ⟨rfl, hb⟩
          | some q =>
            obtain ⟨en, z2⟩ := q
            have HN2 := hid hn2
            have HEQ : Hid (red3 k (sn : Int) z1 = red4 k (sn : Int) (en : Int) z2) := by show _ = _; unfold red3; rw [HN2.out]
            rw [HEQ.out] at HPP
            clear hn2 HEQ
            refine (K5.out.numS HN2.out).mono ?_
            rintro _ V5 ⟨rfl, hk⟩
            have K51 := hid hk
            clear hk
            have c1 := K51.out.box.c1
            have u1 := K51.out.unf 1
            go_wp2_with fail
            have K6 := hid (K51.out.set (K51.out.box.setEpoch (en : Int)))
            generalize V5.setCell ⟨w.heap.size + 1, 1, none⟩ (.int .i64 (en : Int)) = X6 at *
            clear c1 u1
            by_cases h32 : 32 ≤ z2.length
            · have H32 := hid h32
              have HDL : Hid ((z2.take 32).length = 32) := by show _ = _; simp; omega
              have HEQ : Hid (red4 k (sn : Int) (en : Int) z2 = red5 k (sn : Int) (en : Int) (z2.take 32) (z2.drop 32)) := by show _ = _; unfold red4; exact if_pos h32
              rw [HEQ.out] at HPP
              clear h32 HEQ
              refine (K6.out.digS H32.out).mono ?_
              rintro _ V7 ⟨rfl, hk⟩
              have K7 := hid hk
              clear hk
              generalize z2.take 32 = D at *
              generalize z2.drop 32 = z3 at *
              have HTH : Hid (V7.there (w.heap.size + 1) 2 (u8A D).size) := by show World.there _ _ _ _; rw [u8A_size, HDL.out]; exact K7.out.box.there
              have HDM : Hid ((D.map (Value.int .u8)).length = 32) := by show _ = _; rw [List.length_map, HDL.out]
              have K8 := hid (K7.out.setPrev D HDL.out)
              have c34 : (V7.setCells (w.heap.size + 1) 2 (D.map (Value.int .u8))).cell? ⟨w.heap.size + 1, 34, none⟩ = some (.int .i64 k) := K8.out.box.c34
              obtain ⟨X8, hX8⟩ : ∃ X, X = V7.setCells (w.heap.size + 1) 2 (D.map (Value.int .u8)) := ⟨_, rfl⟩
              have HX8 := hid hX8
              rw [← hX8] at K8 c34
              clear hX8
              have hkz : 0 ≤ k ∧ k ≤ 255 := HKB.out
              have hkz1 := hkz.1
              have hkz2 := hkz.2
              clear hkz
              by_cases hk1 : k = 1
              · subst hk1
                have HEQ : Hid (red5 1 (sn : Int) (en : Int) D z3 = redL 1 (sn : Int) (en : Int) D z3) := by show _ = _; unfold red5; exact if_pos rfl
                rw [HEQ.out] at HPP
                clear HEQ
                go_wp2_with (first | refine wpList_store_midTo rfl 23 _ _ rfl rfl (w.heap.size + 1) 2 (u8A D) rfl rfl HTH.out (size_digB HDL.out) (u8A_one _) X8 HX8.out ?_ | fail)
                cases z3 with
                | nil =>
                  refine (K8.out.byteN).mono ?_
                  rintro _ V ⟨rfl, hb⟩
                  refine ⟨rfl, ?_⟩
                  rw [show PP = none from HPP.out.trans rfl]
                  exact ⟨rfl, hb⟩
                | cons x z4 =>
                  have hx := K8.out.byte x (by simp)
                  have hx0 := hx.1
                  have hx1 := hx.2
                  clear hx
                  refine (K8.out.byteS).mono ?_
                  rintro _ V9 ⟨rfl, hk⟩
                  have K9 := hid hk
                  clear hk
                  have c35 := K9.out.box.c35
                  have u35 := K9.out.unf 35
                  have K10 := hid (K9.out.set (K9.out.box.setSite x))
                  obtain ⟨RR, hRR⟩ : ∃ RR : Rec, RR = { recZ with kind := 1, seq := (sn : Int), epoch := (en : Int), prev := D, site := x } := ⟨_, rfl⟩
                  have HRR := hid hRR
                  have HX9 : Hid ((V9.setCell ⟨w.heap.size + 1, 35, none⟩ (.int .i64 x)).rangeAt (w.heap.size + 1) 0 RR.cs) := by rw [hRR]; exact K10.out.box.range
                  have HO9 := hid K10.out.out
                  have HL9 : Hid (RR.prev.length = 32) := by rw [hRR]; exact K10.out.box.len
                  clear hRR
                  go_wp2_with (first | refine wpList_load_g rfl 27 _ rfl (w.heap.size + 1) 0 rfl RR.cs _ HX9.out Tryd.underlying27 rfl (by rw [Rec.cs_len HL9.out]; exact Tryd.size27) ?_ | refine wpList_store_rowTo rfl 27 _ _ rfl rfl w.heap.size RR.cs.toArray rfl rfl 27 _ HO9.out (size_recs HL9.out) (by rw [Rec.cs_size HL9.out]; rfl) (all_oneCell_toArray (Rec.cs_one _)) ?_ | fail)
                  refine bodyPost_ret (results_cell_row (ty := 27) rfl _ _ _ _ _ _ _ rfl (setRow_heap _ _ _ _ _ _ HO9.out) Tryd.underlying27 rfl (size_recs HL9.out)) rfl ?_
                  obtain ⟨a9, c9, hd9⟩ := K10.out.rd
                  rw [show PP = _ from HPP.out.trans rfl]
                  exact ⟨none, 0, by rw [HRR.out]; rfl, HNP.out _, _, _, hd9.rowset HWL.out (by have := K10.out.glt; omega) _, K10.out.but.row (Nat.le_refl _) _, fun _ _ h => by cases h⟩
              · by_cases hk2 : k = 2
                · subst hk2
                  have HEQ : Hid (red5 2 (sn : Int) (en : Int) D z3 = redP 2 (sn : Int) (en : Int) D z3) := by show _ = _; unfold red5; exact (if_neg (by decide)).trans (if_pos rfl)
                  rw [HEQ.out] at HPP
                  clear HEQ
                  go_wp2_with (first | refine wpList_store_midTo rfl 23 _ _ rfl rfl (w.heap.size + 1) 2 (u8A D) rfl rfl HTH.out (size_digB HDL.out) (u8A_one _) X8 HX8.out ?_ | fail)
                  cases hp : pthO z3 with
                  | none =>
                    have HP := hid hp
                    clear hp
                    refine (K8.out.pthN HP.out).mono ?_
                    rintro _ V ⟨rfl, hb⟩
                    refine ⟨rfl, ?_⟩
                    rw [show PP = none from HPP.out.trans (by unfold redP; rw [HP.out])]
                    exact ⟨rfl, hb⟩
                  | some q =>
                    obtain ⟨p, z4⟩ := q
                    have HP := hid hp
                    clear hp
                    refine (K8.out.pthS HP.out).mono ?_
                    rintro _ V9 ⟨rfl, hk⟩
                    have K9 := hid hk
                    clear hk
                    generalize hPS : strOfNums p = PS at *
                    have HPS := hid hPS
                    clear hPS
                    have c36 := K9.out.box.c36
                    have u36 := K9.out.unf 36
                    go_wp2_with fail
                    have K10 := hid (K9.out.set (K9.out.box.setPath PS))
                    generalize V9.setCell ⟨w.heap.size + 1, 36, none⟩ (.string PS) = X10 at *
                    clear c36 u36
                    cases hl : pcsR z4 with
                    | none =>
                      have HC := hid hl
                      clear hl
                      refine (K10.out.pcsN HC.out).mono ?_
                      rintro _ V ⟨rfl, hb⟩
                      refine ⟨rfl, ?_⟩
                      rw [show PP = none from HPP.out.trans (by unfold redP; rw [HP.out]; dsimp only; rw [HC.out])]
                      exact ⟨rfl, hb⟩
                    | some q =>
                      obtain ⟨l, z5⟩ := q
                      have HC := hid hl
                      clear hl
                      refine (K10.out.pcsS HC.out).mono ?_
                      rintro _ V11 ⟨pa, pc, rfl, hrp, hk, hpf⟩
                      have K11 := hid hk
                      have HRP := hid hrp
                      have HPF := hid hpf
                      have HXG := hid K10.out.ge
                      clear hk hrp hpf
                      generalize hLN : l.length = LN at *
                      have HLN := hid hLN
                      clear hLN
                      have c37 := K11.out.box.c37
                      have u37 := K11.out.unf 37
                      have K12 : Hid (Rk w0 w (V11.setCell ⟨w.heap.size + 1, 37, none⟩ (.slice pa LN pc)) g { recZ with kind := 2, seq := (sn : Int), epoch := (en : Int), prev := D, path := PS, ps := l, a := pa, cap := pc } z5) := K11.out.set (by rw [← HLN.out]; exact K11.out.box.setPcs pa pc l)
                      have HR2 : Hid (Rp (V11.setCell ⟨w.heap.size + 1, 37, none⟩ (.slice pa LN pc)) pa pc l) := HRP.out.kept (fun b off q => Deep.blk_setCell_other _ _ _ _ (by show b ≠ w.heap.size + 1; have := HPF.out b off q; have := HXG.out; omega))
                      obtain ⟨RR, hRR⟩ : ∃ RR : Rec, RR = { recZ with kind := 2, seq := (sn : Int), epoch := (en : Int), prev := D, path := PS, ps := l, a := pa, cap := pc } := ⟨_, rfl⟩
                      have HRR := hid hRR
                      have HX9 : Hid ((V11.setCell ⟨w.heap.size + 1, 37, none⟩ (.slice pa LN pc)).rangeAt (w.heap.size + 1) 0 RR.cs) := by rw [hRR]; exact K12.out.box.range
                      have HO9 := hid K12.out.out
                      have HL9 : Hid (RR.prev.length = 32) := by rw [hRR]; exact K12.out.box.len
                      clear hRR
                      go_wp2_with (first | refine wpList_load_g rfl 27 _ rfl (w.heap.size + 1) 0 rfl RR.cs _ HX9.out Tryd.underlying27 rfl (by rw [Rec.cs_len HL9.out]; exact Tryd.size27) ?_ | refine wpList_store_rowTo rfl 27 _ _ rfl rfl w.heap.size RR.cs.toArray rfl rfl 27 _ HO9.out (size_recs HL9.out) (by rw [Rec.cs_size HL9.out]; rfl) (all_oneCell_toArray (Rec.cs_one _)) ?_ | fail)
                      refine bodyPost_ret (results_cell_row (ty := 27) rfl _ _ _ _ _ _ _ rfl (setRow_heap _ _ _ _ _ _ HO9.out) Tryd.underlying27 rfl (size_recs HL9.out)) rfl ?_
                      obtain ⟨a9, c9, hd9⟩ := K12.out.rd
                      have HQE : PP = some (⟨(sn : Int), (en : Int), D, 2, 0, PS, none, 0, l⟩, z5) := by rw [HPP.out, ← HPS.out]; unfold redP; rw [HP.out]; dsimp only; rw [HC.out]
                      rw [HQE]
                      exact ⟨pa, pc, by rw [HRR.out]; rfl, HR2.out.kept (fun b off q => other_setRow _ _ _ _ (by have := HPF.out b off q; have := HXG.out; omega)), _, _, hd9.rowset HWL.out (by have := K12.out.glt; omega) _, K12.out.but.row (Nat.le_refl _) _, fun b off q => by have := HPF.out b off q; have := HXG.out; omega⟩
                · by_cases hk3 : k = 3
                  · subst hk3
                    have HEQ : Hid (red5 3 (sn : Int) (en : Int) D z3 = redX 3 (sn : Int) (en : Int) D z3) := by show _ = _; unfold red5; exact (if_neg (by decide)).trans ((if_neg (by decide)).trans (if_pos rfl))
                    rw [HEQ.out] at HPP
                    clear HEQ
                    go_wp2_with (first | refine wpList_store_midTo rfl 23 _ _ rfl rfl (w.heap.size + 1) 2 (u8A D) rfl rfl HTH.out (size_digB HDL.out) (u8A_one _) X8 HX8.out ?_ | fail)
                    cases hp : pthO z3 with
                    | none =>
                      have HP := hid hp
                      clear hp
                      refine (K8.out.pthN HP.out).mono ?_
                      rintro _ V ⟨rfl, hb⟩
                      refine ⟨rfl, ?_⟩
                      rw [show PP = none from HPP.out.trans (by unfold redX; rw [HP.out])]
                      exact ⟨rfl, hb⟩
                    | some q =>
                      obtain ⟨p, z4⟩ := q
                      have HP := hid hp
                      clear hp
                      refine (K8.out.pthS HP.out).mono ?_
                      rintro _ V9 ⟨rfl, hk⟩
                      have K9 := hid hk
                      clear hk
                      generalize hPS : strOfNums p = PS at *
                      have HPS := hid hPS
                      clear hPS
                      have c36 := K9.out.box.c36
                      have u36 := K9.out.unf 36
                      have K10 := hid (K9.out.set (K9.out.box.setPath PS))
                      obtain ⟨RR, hRR⟩ : ∃ RR : Rec, RR = { recZ with kind := 3, seq := (sn : Int), epoch := (en : Int), prev := D, path := PS } := ⟨_, rfl⟩
                      have HRR := hid hRR
                      have HX9 : Hid ((V9.setCell ⟨w.heap.size + 1, 36, none⟩ (.string PS)).rangeAt (w.heap.size + 1) 0 RR.cs) := by rw [hRR]; exact K10.out.box.range
                      have HO9 := hid K10.out.out
                      have HL9 : Hid (RR.prev.length = 32) := by rw [hRR]; exact K10.out.box.len
                      clear hRR
                      go_wp2_with (first | refine wpList_load_g rfl 27 _ rfl (w.heap.size + 1) 0 rfl RR.cs _ HX9.out Tryd.underlying27 rfl (by rw [Rec.cs_len HL9.out]; exact Tryd.size27) ?_ | refine wpList_store_rowTo rfl 27 _ _ rfl rfl w.heap.size RR.cs.toArray rfl rfl 27 _ HO9.out (size_recs HL9.out) (by rw [Rec.cs_size HL9.out]; rfl) (all_oneCell_toArray (Rec.cs_one _)) ?_ | fail)
                      refine bodyPost_ret (results_cell_row (ty := 27) rfl _ _ _ _ _ _ _ rfl (setRow_heap _ _ _ _ _ _ HO9.out) Tryd.underlying27 rfl (size_recs HL9.out)) rfl ?_
                      obtain ⟨a9, c9, hd9⟩ := K10.out.rd
                      have HQE : PP = some (⟨(sn : Int), (en : Int), D, 3, 0, PS, none, 0, []⟩, z4) := by rw [HPP.out, ← HPS.out]; unfold redX; rw [HP.out]
                      rw [HQE]
                      exact ⟨none, 0, by rw [HRR.out]; rfl, HNP.out _, _, _, hd9.rowset HWL.out (by have := K10.out.glt; omega) _, K10.out.but.row (Nat.le_refl _) _, fun _ _ h => by cases h⟩
                  · have HEQ : Hid (red5 k (sn : Int) (en : Int) D z3 = some (⟨(sn : Int), (en : Int), D, k, 0, ByteArray.empty, none, 0, []⟩, z3)) := by show _ = _; unfold red5; exact (if_neg hk1).trans ((if_neg hk2).trans (if_neg hk3))
                    have e1 : (k == 1) = false := by rw [beq_eq_false_iff_ne]; exact hk1
                    have e2 : (k == 2) = false := by rw [beq_eq_false_iff_ne]; exact hk2
                    have e3 : (k == 3) = false := by rw [beq_eq_false_iff_ne]; exact hk3
                    obtain ⟨RR, hRR⟩ : ∃ RR : Rec, RR = { recZ with kind := k, seq := (sn : Int), epoch := (en : Int), prev := D } := ⟨_, rfl⟩
                    have HRR := hid hRR
                    have HX9 : Hid (X8.rangeAt (w.heap.size + 1) 0 RR.cs) := by rw [hRR]; exact K8.out.box.range
                    have HO9 := hid K8.out.out
                    have HL9 : Hid (RR.prev.length = 32) := by rw [hRR]; exact K8.out.box.len
                    clear hRR
                    go_wp2_with (first | refine wpList_store_midTo rfl 23 _ _ rfl rfl (w.heap.size + 1) 2 (u8A D) rfl rfl HTH.out (size_digB HDL.out) (u8A_one _) X8 HX8.out ?_ | refine wpList_load_g rfl 27 _ rfl (w.heap.size + 1) 0 rfl RR.cs _ HX9.out Tryd.underlying27 rfl (by rw [Rec.cs_len HL9.out]; exact Tryd.size27) ?_ | refine wpList_store_rowTo rfl 27 _ _ rfl rfl w.heap.size RR.cs.toArray rfl rfl 27 _ HO9.out (size_recs HL9.out) (by rw [Rec.cs_size HL9.out]; rfl) (all_oneCell_toArray (Rec.cs_one _)) ?_ | fail)
                    refine bodyPost_ret (results_cell_row (ty := 27) rfl _ _ _ _ _ _ _ rfl (setRow_heap _ _ _ _ _ _ HO9.out) Tryd.underlying27 rfl (size_recs HL9.out)) rfl ?_
                    obtain ⟨a9, c9, hd9⟩ := K8.out.rd
                    rw [show PP = _ from HPP.out.trans HEQ.out]
                    exact ⟨none, 0, by rw [HRR.out]; rfl, HNP.out _, _, _, hd9.rowset HWL.out (by have := K8.out.glt; omega) _, K8.out.but.row (Nat.le_refl _) _, fun _ _ h => by cases h⟩
            · have H32 := hid h32
              clear h32
              refine (K6.out.digN H32.out).mono ?_
              rintro _ V ⟨rfl, hb⟩
              refine ⟨rfl, ?_⟩
              rw [show PP = none from HPP.out.trans (by unfold red4; rw [if_neg H32.out])]
              exact ⟨rfl, hb⟩
    · have hme : (m == 82) = false := by rw [beq_eq_false_iff_ne]; exact hm
      have HM := hid hm
      clear hm
      go_wp2_with fail
      refine (need_no _).mono ?_
      rintro _ w1 ⟨rfl, hw⟩
      obtain rfl := hw.symm
      clear hw
      refine ⟨rfl, ?_⟩
      rw [show PP = none from HPP.out.trans (by rw [redR, if_neg HM.out])]
      exact ⟨rfl, K1.out.but⟩
end Go.Proofs.YtpbaacplgohniaaDoor
namespace Go.Proofs.YtpbaacplgohniaaDoor
open Go.ChangeShapes Go.WideShapes Go.ChangeAt Go.RowKit Go.Deep

def By (zs : List Int) : Prop := ∀ z ∈ zs, 0 ≤ z ∧ z ≤ 255
theorem By.drop {zs : List Int} (h : By zs) (n : Nat) : By (zs.drop n) := fun z hz => h z (List.mem_of_mem_drop hz)
theorem By.take {zs : List Int} (h : By zs) (n : Nat) : By (zs.take n) := fun z hz => h z (List.mem_of_mem_take hz)
theorem By.tail {z : Int} {zs : List Int} (h : By (z :: zs)) : By zs := fun y hy => h y (List.mem_cons_of_mem _ hy)
theorem By.right {a b : List Int} (h : By (a ++ b)) : By b := fun y hy => h y (List.mem_append_right _ hy)
theorem By.left {a b : List Int} (h : By (a ++ b)) : By a := fun y hy => h y (List.mem_append_left _ hy)
theorem path_str {p : List Int} (h : By p) : pathL (strOfNums p) = p := by
  unfold pathL
  rw [strOfNums_data]
  exact u8_back h
theorem str_size (p : List Int) : (strOfNums p).size = p.length := by
  show (strOfNums p).data.size = _
  have := congrArg List.length (strOfNums_data p)
  simpa using this
theorem str_path (s : ByteArray) : strOfNums (pathL s) = s := by
  apply ByteArray.ext
  apply Array.ext'
  rw [strOfNums_data]
  unfold pathL
  rw [List.map_map]
  conv => rhs; rw [← List.map_id s.data.toList]
  apply List.map_congr_left
  intro b _
  simp
theorem pathL_by (s : ByteArray) : By (pathL s) := fun z hz => by
  obtain ⟨c, _, rfl⟩ := List.mem_map.1 hz
  have := c.toNat_lt
  omega
theorem pth_one {z p rs : List Int} (h : pthO z = some (p, rs)) (hb : By z) : z = (p.length : Int) :: (p ++ rs) ∧ p.length ≤ 255 := by
  cases z with
  | nil => cases h
  | cons n z =>
    have hn := hb n (by simp)
    rw [pthO] at h
    by_cases hl : n.toNat ≤ z.length
    · rw [if_pos hl] at h
      injection h with h
      injection h with h1 h2
      have e : p.length = n.toNat := by rw [← h1]; simp; omega
      rw [← h1, ← h2, List.take_append_drop, h1, e]
      exact ⟨by rw [Int.toNat_of_nonneg hn.1], by omega⟩
    · rw [if_neg hl] at h; cases h
theorem pth_back (p rs : List Int) : pthO ((p.length : Int) :: (p ++ rs)) = some (p, rs) := by
  rw [pthO, Int.toNat_natCast, if_pos (by simp), List.take_left, List.drop_left]
theorem pcs_one : ∀ {k : Nat} {z rs : List Int} {l : List Pc}, pcsG k z = some (l, rs) → By z → z = l.flatMap pcB ++ rs ∧ l.length = k ∧ ∀ x ∈ l, x.1.length = 32 ∧ By x.1 ∧ 0 ≤ x.2 ∧ x.2 ≤ 4096
  | 0, z, rs, l, h, _ => by
    rw [pcsG] at h
    injection h with h
    injection h with h1 h2
    subst h1 h2
    exact ⟨rfl, rfl, fun x hx => by cases hx⟩
  | k + 1, z, rs, l, h, hb => by
    rw [pcsG] at h
    cases hn : numO 4096 z with
    | none => rw [hn] at h; cases h
    | some q =>
      obtain ⟨n, z1⟩ := q
      rw [hn] at h
      dsimp only at h
      by_cases h32 : 32 ≤ z1.length
      · rw [if_pos h32] at h
        cases hg : pcsG k (z1.drop 32) with
        | none => rw [hg] at h; cases h
        | some q =>
          obtain ⟨m, ts⟩ := q
          rw [hg] at h
          dsimp only at h
          injection h with h
          injection h with h1 h2
          subst h1 h2
          obtain ⟨hz, hm⟩ := numO_one hn hb
          have hb1 : By z1 := by rw [hz] at hb; exact hb.right
          obtain ⟨e1, e2, e3⟩ := pcs_one hg (hb1.drop 32)
          refine ⟨?_, by simp [e2], fun x hx => ?_⟩
          · rw [hz, List.flatMap_cons, List.append_assoc, ← e1]
            show vint (n : Int) ++ z1 = vint (n : Int) ++ z1.take 32 ++ z1.drop 32
            rw [List.append_assoc, List.take_append_drop]
          · rcases List.mem_cons.1 hx with rfl | hx
            · exact ⟨by simp; omega, hb1.take 32, by show (0 : Int) ≤ (n : Int); omega, by show (n : Int) ≤ 4096; omega⟩
            · exact e3 x hx
      · rw [if_neg h32] at h; cases h
theorem pcs_back : ∀ (l : List Pc) (rs : List Int), (∀ x ∈ l, x.1.length = 32 ∧ 0 ≤ x.2 ∧ x.2 ≤ 4096) → pcsG l.length (l.flatMap pcB ++ rs) = some (l, rs)
  | [], rs, _ => rfl
  | x :: l, rs, h => by
    obtain ⟨h1, h2, h3⟩ := h x (by simp)
    obtain ⟨d, n⟩ := x
    dsimp only at h1 h2 h3
    obtain ⟨m, rfl⟩ := Int.eq_ofNat_of_zero_le h2
    have e : (((d, (m : Int)) :: l).flatMap pcB ++ rs) = vint (m : Int) ++ (d ++ (l.flatMap pcB ++ rs)) := by
      rw [List.flatMap_cons]
      show ((vint (m : Int) ++ d) ++ l.flatMap pcB) ++ rs = _
      simp only [List.append_assoc]
    rw [e, List.length_cons, pcsG, numO_vint m 4096 _ (by omega) (by omega)]
    dsimp only
    rw [if_pos (by simp [h1]), show (d ++ (l.flatMap pcB ++ rs)).drop 32 = l.flatMap pcB ++ rs from by rw [← h1, List.drop_left], show (d ++ (l.flatMap pcB ++ rs)).take 32 = d from by rw [← h1, List.take_left], pcs_back l rs (fun y hy => h y (by simp [hy]))]
theorem pcsR_one {z rs : List Int} {l : List Pc} (h : pcsR z = some (l, rs)) (hb : By z) : z = pcsB l ++ rs ∧ l.length ≤ 4096 ∧ ∀ x ∈ l, x.1.length = 32 ∧ By x.1 ∧ 0 ≤ x.2 ∧ x.2 ≤ 4096 := by
  unfold pcsR at h
  cases hn : numO 4096 z with
  | none => rw [hn] at h; cases h
  | some q =>
    obtain ⟨k, z1⟩ := q
    rw [hn] at h
    dsimp only at h
    obtain ⟨hz, hk⟩ := numO_one hn hb
    have hb1 : By z1 := by rw [hz] at hb; exact hb.right
    obtain ⟨e1, e2, e3⟩ := pcs_one h hb1
    refine ⟨?_, by omega, e3⟩
    unfold pcsB
    rw [e2, List.append_assoc, ← e1, ← hz]
theorem pcsR_back (l : List Pc) (rs : List Int) (hl : l.length ≤ 4096) (h : ∀ x ∈ l, x.1.length = 32 ∧ 0 ≤ x.2 ∧ x.2 ≤ 4096) : pcsR (pcsB l ++ rs) = some (l, rs) := by
  unfold pcsR pcsB
  rw [List.append_assoc, numO_vint _ _ _ hl (by omega)]
  exact pcs_back l rs h
/-- What a record that was read is like. -/
structure Red (r : Rec) : Prop where
  len : r.prev.length = 32
  u8 : By r.prev
  seq : 0 ≤ r.seq ∧ r.seq ≤ 1073741824
  epoch : 0 ≤ r.epoch ∧ r.epoch ≤ 1073741824
  kind : 0 ≤ r.kind ∧ r.kind ≤ 255
  site : 0 ≤ r.site ∧ r.site ≤ 255
  path : r.path.size ≤ 255
  pcs : ∀ x ∈ r.ps, x.1.length = 32 ∧ By x.1 ∧ 0 ≤ x.2 ∧ x.2 ≤ 4096
  many : r.ps.length ≤ 4096
  none : r.a = none ∧ r.cap = 0
theorem red_one {zs rs : List Int} {r : Rec} (h : redR zs = some (r, rs)) (hb : By zs) : Red r ∧ (kindB r = true → zs = wrB r ++ rs) := by
  cases zs with
  | nil => cases h
  | cons m z =>
    rw [redR] at h
    by_cases hm : m = 82
    · subst hm
      rw [if_pos rfl] at h
      cases z with
      | nil => cases h
      | cons k z =>
        have hk := hb k (by simp)
        have hb0 := hb.tail.tail
        replace h : red2 k z = some (r, rs) := h
        unfold red2 at h
        cases hn : numO 1073741824 z with
        | none => rw [hn] at h; cases h
        | some q =>
          obtain ⟨sn, z1⟩ := q
          rw [hn] at h
          obtain ⟨hz, hs⟩ := numO_one hn hb0
          have hb1 : By z1 := by rw [hz] at hb0; exact hb0.right
          replace h : red3 k (sn : Int) z1 = some (r, rs) := h
          unfold red3 at h
          cases hn2 : numO 1073741824 z1 with
          | none => rw [hn2] at h; cases h
          | some q =>
            obtain ⟨en, z2⟩ := q
            rw [hn2] at h
            obtain ⟨hz1, hs1⟩ := numO_one hn2 hb1
            have hb2 : By z2 := by rw [hz1] at hb1; exact hb1.right
            replace h : red4 k (sn : Int) (en : Int) z2 = some (r, rs) := h
            unfold red4 at h
            by_cases h32 : 32 ≤ z2.length
            · rw [if_pos h32] at h
              have hl : (z2.take 32).length = 32 := by simp; omega
              have hbd := hb2.take 32
              have hb3 := hb2.drop 32
              have hzz : 82 :: k :: z = ([82, k] ++ vint (sn : Int) ++ vint (en : Int)) ++ z2.take 32 ++ z2.drop 32 := by
                rw [List.append_assoc, List.take_append_drop, hz, hz1]
                simp
              rw [hzz]
              generalize z2.take 32 = D at *
              generalize z2.drop 32 = z3 at *
              unfold red5 at h
              by_cases h1 : k = 1
              · subst h1
                rw [if_pos rfl] at h
                cases z3 with
                | nil => cases h
                | cons x z4 =>
                  unfold redL at h
                  injection h with h
                  injection h with e1 e2
                  subst e1 e2
                  exact ⟨⟨hl, hbd, ⟨by show (0 : Int) ≤ (sn : Int); omega, by show (sn : Int) ≤ _; omega⟩, ⟨by show (0 : Int) ≤ (en : Int); omega, by show (en : Int) ≤ _; omega⟩, hk, hb3 x (by simp), Nat.zero_le _, (fun x hx => by cases hx), Nat.zero_le _, ⟨rfl, rfl⟩⟩, fun _ => by simp [wrB, wrH]⟩
              · rw [if_neg h1] at h
                by_cases h2 : k = 2
                · subst h2
                  rw [if_pos rfl] at h
                  unfold redP at h
                  cases hp : pthO z3 with
                  | none => rw [hp] at h; cases h
                  | some q =>
                    obtain ⟨p, z4⟩ := q
                    rw [hp] at h
                    dsimp only at h
                    obtain ⟨hz3, hpl⟩ := pth_one hp hb3
                    have hb4 : By (p ++ z4) := by rw [hz3] at hb3; exact hb3.tail
                    cases hc : pcsR z4 with
                    | none => rw [hc] at h; cases h
                    | some q =>
                      obtain ⟨l, z5⟩ := q
                      rw [hc] at h
                      dsimp only at h
                      obtain ⟨hz4, hll, hx⟩ := pcsR_one hc hb4.right
                      injection h with h
                      injection h with e1 e2
                      subst e1 e2
                      refine ⟨⟨hl, hbd, ⟨by show (0 : Int) ≤ (sn : Int); omega, by show (sn : Int) ≤ _; omega⟩, ⟨by show (0 : Int) ≤ (en : Int); omega, by show (en : Int) ≤ _; omega⟩, hk, ⟨by show (0 : Int) ≤ 0; omega, by show (0 : Int) ≤ 255; omega⟩, by rw [str_size]; exact hpl, hx, hll, ⟨rfl, rfl⟩⟩, fun _ => ?_⟩
                      rw [hz3, hz4]
                      simp [wrB, wrH, str_size, path_str hb4.left]
                · rw [if_neg h2] at h
                  by_cases h3 : k = 3
                  · subst h3
                    rw [if_pos rfl] at h
                    unfold redX at h
                    cases hp : pthO z3 with
                    | none => rw [hp] at h; cases h
                    | some q =>
                      obtain ⟨p, z4⟩ := q
                      rw [hp] at h
                      dsimp only at h
                      obtain ⟨hz3, hpl⟩ := pth_one hp hb3
                      have hb4 : By (p ++ z4) := by rw [hz3] at hb3; exact hb3.tail
                      injection h with h
                      injection h with e1 e2
                      subst e1 e2
                      refine ⟨⟨hl, hbd, ⟨by show (0 : Int) ≤ (sn : Int); omega, by show (sn : Int) ≤ _; omega⟩, ⟨by show (0 : Int) ≤ (en : Int); omega, by show (en : Int) ≤ _; omega⟩, hk, ⟨by show (0 : Int) ≤ 0; omega, by show (0 : Int) ≤ 255; omega⟩, by rw [str_size]; exact hpl, (fun x hx => by cases hx), Nat.zero_le _, ⟨rfl, rfl⟩⟩, fun _ => ?_⟩
                      rw [hz3]
                      simp [wrB, wrH, str_size, path_str hb4.left]
                  · rw [if_neg h3] at h
                    injection h with h
                    injection h with e1 e2
                    subst e1 e2
                    refine ⟨⟨hl, hbd, ⟨by show (0 : Int) ≤ (sn : Int); omega, by show (sn : Int) ≤ _; omega⟩, ⟨by show (0 : Int) ≤ (en : Int); omega, by show (en : Int) ≤ _; omega⟩, hk, ⟨by show (0 : Int) ≤ 0; omega, by show (0 : Int) ≤ 255; omega⟩, Nat.zero_le _, (fun x hx => by cases hx), Nat.zero_le _, ⟨rfl, rfl⟩⟩, fun q => ?_⟩
                    rcases kinds_of q with q | q | q
                    · exact absurd q h1
                    · exact absurd q h2
                    · exact absurd q h3
            · rw [if_neg h32] at h; cases h
    · rw [if_neg hm] at h; cases h
/-- The record of bytes. -/
def parO (zs : List Int) : Option Rec := match redR zs with
  | some (r, []) => if mayB r = true then some r else none
  | _ => none
theorem par_red {zs : List Int} {r : Rec} (h : parO zs = some r) : redR zs = some (r, []) ∧ mayB r = true := by
  unfold parO at h
  split at h
  · split at h
    · injection h with h
      subst h
      exact ⟨‹_›, ‹_›⟩
    · cases h
  · cases h
theorem par_one {zs : List Int} {r : Rec} (h : parO zs = some r) (hb : By zs) : Red r ∧ mayB r = true ∧ wrB r = zs := by
  obtain ⟨h1, h2⟩ := par_red h
  obtain ⟨h3, h4⟩ := red_one h1 hb
  have := h4 (may_parts h2).2.2
  rw [List.append_nil] at this
  exact ⟨h3, h2, this.symm⟩
theorem red_head (k s e : Nat) (d rs : List Int) (hs : s ≤ 1073741824) (he : e ≤ 1073741824) (hd : d.length = 32) : redR (([82, (k : Int)] ++ vint (s : Int) ++ vint (e : Int)) ++ d ++ rs) = red5 (k : Int) (s : Int) (e : Int) d rs := by
  have e0 : ([82, (k : Int)] ++ vint (s : Int) ++ vint (e : Int)) ++ d ++ rs = 82 :: (k : Int) :: (vint (s : Int) ++ (vint (e : Int) ++ (d ++ rs))) := by simp
  rw [e0, redR, if_pos rfl, red1, red2, numO_vint _ _ _ hs (by omega)]
  dsimp only
  rw [red3, numO_vint _ _ _ he (by omega)]
  dsimp only
  rw [red4]
  rw [if_pos (by simp [hd]), show (d ++ rs).take 32 = d from by rw [← hd, List.take_left], show (d ++ rs).drop 32 = rs from by rw [← hd, List.drop_left]]
theorem empty_path {s : ByteArray} (h : s.size = 0) : s = ByteArray.empty := ByteArray.size_eq_zero_iff.1 h
/-- A record is read of its bytes. -/
theorem par_back2 {r : Rec} (hlen : r.prev.length = 32) (hfit : ∀ x ∈ r.ps, x.1.length = 32) (hm : mayB r = true) : parO (wrB r) = some { r with a := none, cap := 0 } := by
  obtain ⟨h1, h2, h3⟩ := may_parts hm
  have hk := kinds_of h3
  obtain ⟨s, hs⟩ := Int.eq_ofNat_of_zero_le (show 0 ≤ r.seq by omega)
  obtain ⟨e, he⟩ := Int.eq_ofNat_of_zero_le (show 0 ≤ r.epoch by omega)
  obtain ⟨k, hkk⟩ := Int.eq_ofNat_of_zero_le (show 0 ≤ r.kind by omega)
  have hH : ∀ rs, redR (wrH r ++ rs) = red5 r.kind r.seq r.epoch r.prev rs := fun rs => by
    unfold wrH
    rw [hs, he, hkk]
    exact red_head k s e r.prev rs (by omega) (by omega) hlen
  have fin : ∀ q : Rec, q = { r with a := none, cap := 0 } → redR (wrB r) = some (q, []) → parO (wrB r) = some { r with a := none, cap := 0 } := fun q hq hr => by
    subst hq
    unfold parO
    rw [hr]
    dsimp only
    rw [if_pos (show mayB { r with a := none, cap := 0 } = true from hm)]
  obtain ⟨sq, ep, pv, kd, st, pt, ra, rc, ps⟩ := r
  dsimp only at *
  unfold wrB at fin ⊢
  dsimp only at fin ⊢
  by_cases q1 : kd = 1
  · subst q1
    rw [if_pos rfl] at fin ⊢
    obtain ⟨f1, f2, f3⟩ := kind_lead' h3 rfl
    dsimp only at f1 f2 f3
    refine fin ⟨sq, ep, pv, 1, st, ByteArray.empty, none, 0, []⟩ (by rw [empty_path f2, f3]) ?_
    rw [hH]
    rfl
  · rw [if_neg q1] at fin ⊢
    obtain ⟨f1, f2, f3, f4⟩ := kind_file' h3 q1
    dsimp only at f1 f2 f3 f4
    have hpl : (pathL pt).length = pt.size := by unfold pathL; simp
    have hsz := siz_parts f3
    have hpc : ∀ x ∈ ps, x.1.length = 32 ∧ 0 ≤ x.2 ∧ x.2 ≤ 4096 := fun x hx => by
      have a1 := hfit x hx
      have a2 := List.all_eq_true.1 hsz.2 x hx
      unfold nOk at a2
      have a3 := of_decide_eq_true a2
      exact ⟨a1, by omega, a3.2⟩
    by_cases q2 : kd = 2
    · subst q2
      rw [if_pos rfl] at fin ⊢
      refine fin ⟨sq, ep, pv, 2, 0, pt, none, 0, ps⟩ (by rw [f1]) ?_
      rw [List.append_assoc, List.append_assoc, hH]
      show redP 2 sq ep pv _ = _
      unfold redP
      have e1 : [(pt.size : Int)] ++ (pathL pt ++ pcsB ps) = ((pathL pt).length : Int) :: (pathL pt ++ (pcsB ps ++ [])) := by rw [hpl]; simp
      rw [e1, pth_back]
      dsimp only
      rw [pcsR_back ps [] hsz.1 hpc]
      dsimp only
      rw [str_path]
    · rw [if_neg q2] at fin ⊢
      have q3 : kd = 3 := by omega
      subst q3
      refine fin ⟨sq, ep, pv, 3, 0, pt, none, 0, []⟩ (by rw [f1, f4 rfl]) ?_
      rw [List.append_assoc, hH]
      show redX 3 sq ep pv _ = _
      unfold redX
      have e1 : [(pt.size : Int)] ++ pathL pt = ((pathL pt).length : Int) :: (pathL pt ++ []) := by rw [hpl]; simp
      rw [e1, pth_back]
      dsimp only
      rw [str_path]
theorem par_back {w : World} {r : Rec} (h : Rv w r) (hm : mayB r = true) : parO (wrB r) = some { r with a := none, cap := 0 } := par_back2 h.len (fun x hx => (h.row.fits x hx).len) hm
/-- A record that was read, in a world where its pieces lie. -/
theorem Red.rv {w : World} {r : Rec} (h : Red r) {a : Option Addr} {c : Nat} (hp : Rp w a c r.ps) : Rv w { r with a := a, cap := c } :=
  ⟨h.len, get_u8 (fun z hz => wf_mk_u8 (h.u8 z hz).1 (h.u8 z hz).2), wf_mk_i64 (by have := h.seq; show (_ : Int) ≤ r.seq; omega) (by have := h.seq; show r.seq ≤ _; omega), wf_mk_i64 (by have := h.epoch; show (_ : Int) ≤ r.epoch; omega) (by have := h.epoch; show r.epoch ≤ _; omega), wf_mk_i64 (by have := h.kind; show (_ : Int) ≤ r.kind; omega) (by have := h.kind; show r.kind ≤ _; omega), wf_mk_i64 (by have := h.site; show (_ : Int) ≤ r.site; omega) (by have := h.site; show r.site ≤ _; omega), by have := h.path; show r.path.size ≤ _; unfold maxLen; omega, hp⟩
end Go.Proofs.YtpbaacplgohniaaDoor
namespace Go.Proofs.YtpbaacplgohniaaDoor
open Go.ChangeShapes Go.WideShapes Go.ChangeAt Go.RowKit Go.Deep

theorem size84 : (Tryd.prog.info? 84).map (·.size) = some 1 := by kernel_rfl
set_option maxRecDepth 100000 in
theorem of_word (a : Option Addr) (n cap : Nat) (w : World) : Calls Tryd.prog 42 #[.slice a n cap] w fun e w' => e = .returned (.agg #[.slice a n cap]) ∧ Below w.heap.size w w' := by
  go_enter Tryd.func42, Tryd.ntmps42
  go_wp2
  refine bodyPost_ret (results_cell_row (ty := 84) rfl _ _ _ _ _ _ _ rfl (heap_alc w _) Tryd.underlying84 rfl size84) rfl ?_
  exact ⟨rfl, bel_alc _ _⟩
/-- What the closure answers, or where it panics. -/
def ParP (w : World) (zs : List Int) (e : Ending) (w' : World) : Prop :=
  Below w.heap.size w w' ∧ ((e = .panicked faultC ∧ parO zs = none) ∨ ∃ r a c, parO zs = some r ∧ e = .returned (.agg { r with a := a, cap := c }.cs.toArray) ∧ Rv w' { r with a := a, cap := c } ∧ Red r ∧ ∀ b off, a = some ⟨b, off, none⟩ → w.heap.size ≤ b)
theorem par_none {zs : List Int} (h : redR zs = none) : parO zs = none := by unfold parO; rw [h]
theorem par_more {zs : List Int} {r : Rec} {z : Int} {rs : List Int} (h : redR zs = some (r, z :: rs)) : parO zs = none := by unfold parO; rw [h]
theorem par_no {zs : List Int} {r : Rec} (h : redR zs = some (r, [])) (hm : mayB r = false) : parO zs = none := by unfold parO; rw [h]; simp [hm]
theorem par_yes {zs : List Int} {r : Rec} (h : redR zs = some (r, [])) (hm : mayB r = true) : parO zs = some r := by unfold parO; rw [h]; simp [hm]
theorem wpList_store_asP {P : Program} {ops : Array Oper} {rest : List Oper} {o : Oper} {a : Act} {w : World} {Q : Exit → Act → World → Prop} (hgd : o.guard = none) (ty : TypeId) (x y : Operand) (ho : o.op = .store ty x y) (hd : o.dst = none)
    (W : World) (old cells : Array Value) (hw : w = W.alloc (.cells old ty)) (hx : a.eval x = .pointer (some ⟨W.heap.size, 0, none⟩)) (hy : a.eval y = .agg cells) (hi : (P.info? ty).map (·.size) = some cells.size)
    (hold : old.size = cells.size) (h1 : cells.all (·.oneCell') = true) (V : World) (hV : V = W.alloc (.cells cells ty)) (h : wpList P ops Q rest a V) : wpList P ops Q (o :: rest) a w := by
  subst hV
  exact wpList_store_new hgd ty x y ho hd W old cells hw hx hy hi hold h1 h
set_option maxHeartbeats 16000000 in
set_option maxRecDepth 100000 in
theorem pcl_word (pb : Nat) (a : Option Addr) (cap : Nat) (zs : List Int) (w : World) (hc : w.cell? ⟨pb, 0, none⟩ = some (.slice a zs.length cap)) (hr : Ri w .u8 a cap zs) :
    Calls Tryd.prog 41 #[.pointer (some ⟨pb, 0, none⟩)] w (ParP w zs) := by
  have hlt := cell_lt hc
  have b1 := bel_alc w (.cells recZ.cs.toArray 27)
  have o1 := heap_alc w (.cells recZ.cs.toArray 27)
  have c1 : (w.alloc (.cells recZ.cs.toArray 27)).cell? ⟨pb, 0, none⟩ = some (.slice a zs.length cap) := (b1.cell hlt).trans hc
  have HOF := hid (fun V => of_word a zs.length cap V)
  have HB1 := hid b1
  have HO1 := hid o1
  have HR := hid hr
  have HBY : Hid (By zs) := all_u8 hr.fits
  obtain ⟨PP, hPP⟩ : ∃ P : Ending → World → Prop, P = ParP w zs := ⟨_, rfl⟩
  have HPP := hid hPP
  rw [← hPP]
  clear hlt b1 o1 hc hr hPP
  obtain ⟨LZ, hLZ⟩ : ∃ n, n = zs.length := ⟨_, rfl⟩
  have HLZ := hid hLZ
  rw [← hLZ] at c1 HOF
  clear hLZ
  go_enter Tryd.func41, Tryd.ntmps41
  go_wp2_with (first | refine wpList_alloc_at rfl 27 rfl (some 1) rfl _ Tryd.zero27 w.heap.size rfl ?_ | fail)
  refine (HOF.out _).mono ?_
  rintro _ W2 ⟨rfl, hb2⟩
  have HB2 := hid (Bn HB1.out hb2)
  have HO2 := hid ((hb2.block _ (Array.getElem?_eq_some_iff.1 HO1.out).1).trans HO1.out)
  clear hb2 c1 HB1 HO1 HOF
  go_wp2_with fail
  have hb3 := bel_alc W2 (.cells #[.slice a LZ cap] 87)
  have HB3 := hid (Bn HB2.out hb3)
  have HO3 := hid ((hb3.block _ (Array.getElem?_eq_some_iff.1 HO2.out).1).trans HO2.out)
  have HD3 : Hid (Rd w (W2.alloc (.cells #[.slice a LZ cap] 87)) W2.heap.size a cap zs) := ⟨by rw [← HLZ.out]; exact heap_alc W2 _, HR.out, HB3.out, HB2.out.size⟩
  have HGN : Hid (w.heap.size < W2.heap.size) := (Array.getElem?_eq_some_iff.1 HO2.out).1
  have HGS : Hid (w.heap.size ≤ W2.heap.size) := HB2.out.size
  clear hb3 HB2 HO2
  generalize W2.heap.size = g at *
  generalize W2.alloc (.cells #[.slice a LZ cap] 87) = X3 at *
  refine (record_word w X3 g a cap zs HD3.out).mono ?_
  intro e4 V4 q4
  cases hrr : redR zs with
  | none =>
    rw [hrr] at q4
    obtain ⟨rfl, hb4⟩ := q4
    refine ⟨rfl, ?_⟩
    rw [HPP.out]
    exact ⟨HB3.out.trans (hb4.below HGS.out HB3.out.size), .inl ⟨rfl, par_none hrr⟩⟩
  | some q =>
    obtain ⟨r, rs⟩ := q
    rw [hrr] at q4
    obtain ⟨pa, pc, rfl, hrp, a4, c4, hd4, hb4, hpf⟩ := q4
    have HPF : Hid (∀ b off, pa = some ⟨b, off, none⟩ → w.heap.size < b) := fun b off q => by
      have h1 := hpf b off q
      have h2 := HD3.out.lt
      have h3 := HGN.out
      omega
    clear hpf
    have HRE := hid (red_one hrr HBY.out).1
    have HRR := hid hrr
    have HB4 : Hid (Below w.heap.size w V4) := HB3.out.trans (hb4.below HGS.out HB3.out.size)
    have HO4 : Hid (V4.heap[w.heap.size]? = some (.cells recZ.cs.toArray 27)) := (hb4.same _ (Array.getElem?_eq_some_iff.1 HO3.out).1 (by have := HGN.out; omega)).trans HO3.out
    obtain ⟨R, hR⟩ : ∃ R : Rec, R = { r with a := pa, cap := pc } := ⟨_, rfl⟩
    have HRQ := hid hR
    rw [← hR]
    have HRV4 : Hid (Rv V4 R) := by rw [hR]; exact HRE.out.rv hrp
    have HML : Hid (mayB R = mayB r) := by rw [hR]; rfl
    have HRL := hid HRV4.out.len
    have hb5 := bel_alc V4 (.cells R.cs.toArray 27)
    have HB5 := hid (Bn HB4.out hb5)
    have HO5 := hid ((hb5.block _ (Array.getElem?_eq_some_iff.1 HO4.out).1).trans HO4.out)
    have HD5 := hid (hd4.later hb5)
    have HRV5 := hid (HRV4.out.later hb5)
    have HX5 := hid (Bx.mk' V4 R HRL.out)
    have HN5 : Hid (w.heap.size < V4.heap.size) := (Array.getElem?_eq_some_iff.1 HO4.out).1
    obtain ⟨X5, hX5⟩ : ∃ X, X = V4.alloc (.cells R.cs.toArray 27) := ⟨_, rfl⟩
    have HE5 := hid hX5
    rw [← hX5] at HB5 HO5 HD5 HRV5 HX5
    clear hrr hb4 hrp hd4 hb5 hX5 hR HB3 HO3 HD3 HRV4
    have HLW := hid (len_word w X5 g a4 c4 rs HD5.out)
    have HMW := hid (may_word R X5 HRV5.out)
    have HXR := hid HX5.out.range
    obtain ⟨LR, hLR⟩ : ∃ n, n = rs.length := ⟨_, rfl⟩
    have HLR := hid hLR
    rw [← hLR] at HLW
    clear hLR
    go_wp2_with (first | refine wpList_alloc_at rfl 27 rfl (some 3) rfl _ Tryd.zero27 V4.heap.size rfl ?_ | refine wpList_store_asP rfl 27 _ _ rfl rfl V4 recZ.cs.toArray R.cs.toArray rfl rfl rfl (size_recs HRL.out) (by rw [Rec.cs_size HRL.out]; rfl) (all_oneCell_toArray (Rec.cs_one _)) X5 HE5.out ?_ | fail)
    refine HLW.out.mono ?_
    rintro _ w1 ⟨rfl, hw⟩
    obtain rfl := hw.symm
    clear hw HLW
    cases rs with
    | cons z rs =>
      have hz : ((LR : Int) == 0) = false := by rw [beq_eq_false_iff_ne]; have := HLR.out; simp at this; omega
      have hz2 : (LR == 0) = false := by rw [beq_eq_false_iff_ne]; have := HLR.out; simp at this; omega
      go_wp2_with fail
      refine (need_no _).mono ?_
      rintro _ w1 ⟨rfl, hw⟩
      obtain rfl := hw.symm
      refine ⟨rfl, ?_⟩
      rw [HPP.out]
      exact ⟨HB5.out, .inl ⟨rfl, par_more HRR.out⟩⟩
    | nil =>
      have hlr : LR = 0 := HLR.out
      subst hlr
      go_wp2_with (first | refine wpList_load_g rfl 27 _ rfl V4.heap.size 0 rfl R.cs _ HXR.out Tryd.underlying27 rfl (by rw [Rec.cs_len HRL.out]; exact Tryd.size27) ?_ | fail)
      refine HMW.out.mono ?_
      rintro _ W6 ⟨rfl, hb6⟩
      have HB6 := hid (Bn HB5.out hb6)
      have HO6 := hid ((hb6.block _ (Array.getElem?_eq_some_iff.1 HO5.out).1).trans HO5.out)
      have HX6 := hid (HX5.out.later hb6).range
      have HRV6 := hid (HRV5.out.later hb6)
      clear hb6 HMW HXR HX5
      cases hm : mayB R with
      | false =>
        have HM : Hid (mayB r = false) := HML.out.symm.trans hm
        clear hm
        go_wp2_with fail
        refine (need_no _).mono ?_
        rintro _ w1 ⟨rfl, hw⟩
        obtain rfl := hw.symm
        refine ⟨rfl, ?_⟩
        rw [HPP.out]
        exact ⟨HB6.out, .inl ⟨rfl, par_no HRR.out HM.out⟩⟩
      | true =>
        have HM : Hid (mayB r = true) := HML.out.symm.trans hm
        clear hm
        go_wp2_with fail
        refine (need_yes _).mono ?_
        rintro _ w1 ⟨rfl, hw⟩
        obtain rfl := hw.symm
        clear hw
        go_wp2_with (first | refine wpList_load_g rfl 27 _ rfl V4.heap.size 0 rfl R.cs _ HX6.out Tryd.underlying27 rfl (by rw [Rec.cs_len HRL.out]; exact Tryd.size27) ?_ | refine wpList_store_rowTo rfl 27 _ _ rfl rfl w.heap.size R.cs.toArray rfl rfl 27 _ HO6.out (size_recs HRL.out) (by rw [Rec.cs_size HRL.out]; rfl) (all_oneCell_toArray (Rec.cs_one _)) ?_ | fail)
        refine bodyPost_ret (results_cell_row (ty := 27) rfl _ _ _ _ _ _ _ rfl (setRow_heap _ _ _ _ _ _ HO6.out) Tryd.underlying27 rfl (size_recs HRL.out)) rfl ?_
        rw [HPP.out]
        refine ⟨below_setRow HB6.out (Nat.le_refl _) _, .inr ⟨r, pa, pc, par_yes HRR.out HM.out, by rw [HRQ.out], ?_, HRE.out, fun b off q => Nat.le_of_lt (HPF.out b off q)⟩⟩
        have hv := HRV6.out
        rw [HRQ.out] at hv ⊢
        exact ⟨hv.len, hv.u8, hv.seq, hv.epoch, hv.kind, hv.site, hv.path, hv.row.kept (fun b off q => other_setRow _ _ _ _ (by have := HPF.out b off q; omega))⟩
theorem results60 : Tryd.f60.results = #[] := rfl
set_option maxRecDepth 100000 in
theorem catch_idle (p q : Addr) (w : World) :
    CallsD Tryd.prog 60 #[.pointer (some p), .pointer (some q)] .returning w fun e u' w' => e = .returned (.tuple #[]) ∧ u' = .returning ∧ w' = w := by
  refine callsD_of_wpS Tryd.func60 rfl fun c₀ cs hu => ?_
  apply wpS_seq
  apply wpS_region
  simp [wpOpsS, go_sem, recoverD, hu, Tryd.ntmps60, Exit.thenS]
  refine wpS_of_wp ?_
  change Code.wp _ _ _ ⟨#[.pointer (some p), .pointer (some q), .nilIface, undef, undef, .nilIface, undef, undef, undef, undef, undef, undef, undef, undef, undef, undef, undef], []⟩ w
  generalize hQ : (fun (x : Exit) (a : Act) (w' : World) => bodyPostS Tryd.prog Tryd.f60 c₀ cs (fun e u' w' => e = Ending.returned (Value.tuple #[]) ∧ u' = FrameMode.returning ∧ w' = w) x a (c₀ :: cs) w') = Q
  go_wp2
  subst hQ
  refine ⟨rfl, .returning, ?_, .tuple #[], results_none rfl _ _ _, rfl, rfl, rfl⟩
  cases c₀
  simp_all
theorem assert106 (w : World) : (Instr.typeAssert (.iface 106 (.agg #[])) 20 106 true).run Tryd.prog w = .ok (.tuple #[.agg #[], .bool true]) w := by kernel_rfl
set_option maxRecDepth 100000 in
theorem catch_fault (p q : Addr) (x e : Int) (w : World) (hp : w.cell? p = some (.int .i64 e)) (hc : w.cell? q = some (.int .i64 x)) (hz : w.frozen? q = false) :
    CallsD Tryd.prog 60 #[.pointer (some p), .pointer (some q)] (.panicking faultC) w fun e' u' w' => e' = .returned (.tuple #[]) ∧ u' = .panicking [{ v := .iface 106 (.agg #[]), recovered := true }] ∧ w' = (w.alloc (.cells #[] 106)).setCell q (.int .i64 e) := by
  refine callsD_of_wpS Tryd.func60 rfl fun c₀ cs hu => ?_
  apply wpS_seq
  apply wpS_region
  simp [wpOpsS, go_sem, recoverD, hu, Tryd.ntmps60, Exit.thenS]
  refine wpS_of_wp ?_
  have hb := bel_alc w (.cells #[] 106)
  have hc2 : (w.alloc (.cells #[] 106)).cell? q = some (.int .i64 x) := (hb.cell (cell_lt hc)).trans hc
  have hp2 : (w.alloc (.cells #[] 106)).cell? p = some (.int .i64 e) := (hb.cell (cell_lt hp)).trans hp
  have hz2 : (w.alloc (.cells #[] 106)).frozen? q = false := (hb.frozen (cell_lt hc)).trans hz
  have A := assert106
  clear hc hz hb hp
  change Code.wp _ _ _ ⟨#[.pointer (some p), .pointer (some q), .iface 106 (.agg #[]), undef, undef, .iface 106 (.agg #[]), undef, undef, undef, undef, undef, undef, undef, undef, undef, undef, undef], []⟩ w
  go_wp2
  exact ⟨rfl, _, rfl, .tuple #[], results_none rfl _ _ _, rfl, rfl, rfl⟩
/-- What Parse answers. -/
def CauP (B : Nat) (zs : List Int) (w' : World) (R : Rec) (e : Int) : Prop := (parO zs = none ∧ R = recZ ∧ e = 130) ∨ ∃ r a c, parO zs = some r ∧ R = { r with a := a, cap := c } ∧ e = 0 ∧ Red r ∧ Rv w' R ∧ ∀ b off, a = some ⟨b, off, none⟩ → B ≤ b
theorem results_two {P : Program} {fn : Func} {p u : Tmp} {ty tu : TypeId} (h : fn.results = #[.cell p ty, .cell u tu]) (tmps : Array Value) (w : World) (g g2 : Nat) (v v2 : Value) (hp : tmps.getD p undef = .pointer (some ⟨g, 0, none⟩)) (hu : tmps.getD u undef = .pointer (some ⟨g2, 0, none⟩)) (hl : (loadVar ty ⟨g, 0, none⟩).run P w = .ok v w) (hl2 : (loadVar tu ⟨g2, 0, none⟩).run P w = .ok v2 w) :
    (results fn tmps).run P w = .ok (.tuple #[v, v2]) w := by
  rw [Array.getD_eq_getD_getElem?] at hp hu
  simp [results, h, hp, hu, asAddr, hl, hl2]
theorem load30 {w : World} {g : Nat} {x : Int} (h : w.cell? ⟨g, 0, none⟩ = some (.int .i64 x)) : (loadVar 30 ⟨g, 0, none⟩).run Tryd.prog w = .ok (.int .i64 x) w := by
  simp [go_sem, h]
theorem Tryd.results40 : Tryd.f40.results = #[.cell 4 27, .cell 5 30] := rfl
set_option maxHeartbeats 16000000 in
set_option maxRecDepth 100000 in
theorem caught_word (pb : Nat) (a : Option Addr) (cap : Nat) (zs : List Int) (w : World) (hc : w.cell? ⟨pb, 0, none⟩ = some (.slice a zs.length cap)) (hr : Ri w .u8 a cap zs) :
    Calls Tryd.prog 40 #[.int .i64 130, .func (.func 41) #[] #[.pointer (some ⟨pb, 0, none⟩)]] w fun e w' => ∃ R e', e = .returned (.tuple #[.agg R.cs.toArray, .int .i64 e']) ∧ Below w.heap.size w w' ∧ CauP w.heap.size zs w' R e' := by
  have hmf : ∀ (fn : Fn) (first cap : Array Value) (w : World), (Instr.makeFunc fn first cap).run Tryd.prog w = .ok (.func fn first cap) w := fun _ _ _ _ => rfl
  have s1 : (w.alloc (.cells #[.int .i64 130] 30)).heap.size = w.heap.size + 1 := by simp
  have s2 : ((w.alloc (.cells #[.int .i64 130] 30)).alloc (.cells recZ.cs.toArray 27)).heap.size = w.heap.size + 1 + 1 := by simp
  have b1 := bel_alc w (.cells #[.int .i64 130] 30)
  have b2 := bel_alc (w.alloc (.cells #[.int .i64 130] 30)) (.cells recZ.cs.toArray 27)
  have b3 := bel_alc ((w.alloc (.cells #[.int .i64 130] 30)).alloc (.cells recZ.cs.toArray 27)) (.cells #[.int .i64 0] 30)
  have e0 := heap_old _ (.cells #[.int .i64 0] 30) (heap_old _ (.cells recZ.cs.toArray 27) (heap_alc w (.cells #[.int .i64 130] 30)))
  have e1 := heap_old _ (.cells #[.int .i64 0] 30) (heap_alc (w.alloc (.cells #[.int .i64 130] 30)) (.cells recZ.cs.toArray 27))
  have e2 := heap_alc ((w.alloc (.cells #[.int .i64 130] 30)).alloc (.cells recZ.cs.toArray 27)) (.cells #[.int .i64 0] 30)
  rw [s1] at e1
  rw [s2] at e2
  have bb := Bn (Bn b1 b2) b3
  obtain ⟨W0, hW0⟩ : ∃ W, W = ((w.alloc (.cells #[.int .i64 130] 30)).alloc (.cells recZ.cs.toArray 27)).alloc (.cells #[.int .i64 0] 30) := ⟨_, rfl⟩
  rw [← hW0] at e0 e1 e2 bb
  have HC := hid (pcl_word pb a cap zs W0 ((bb.cell (cell_lt hc)).trans hc) (hr.later bb))
  have HE0 := hid e0
  have HE1 := hid e1
  have HE2 := hid e2
  have HBB := hid bb
  have HW0 := hid hW0
  have HS1 := hid s1.symm
  clear hc hr b1 b2 b3 e0 e1 e2 bb s1 s2 hW0
  go_enter_defers Tryd.func40, Tryd.ntmps40
  go_wp2_with (first | refine wpList_alloc_at rfl 27 rfl (some 4) rfl _ Tryd.zero27 (w.heap.size + 1) HS1.out ?_ | fail)
  rw [← HW0.out]
  refine HC.out.mono ?_
  rintro e w1 ⟨hb, ⟨rfl, hpn⟩ | ⟨r, ra, rc, hpo, rfl, hrv, hred, hpf⟩⟩
  · have f0 := (hb.block _ (Array.getElem?_eq_some_iff.1 HE0.out).1).trans HE0.out
    have f1 := (hb.block _ (Array.getElem?_eq_some_iff.1 HE1.out).1).trans HE1.out
    have f2 := (hb.block _ (Array.getElem?_eq_some_iff.1 HE2.out).1).trans HE2.out
    have c0 : w1.cell? ⟨w.heap.size, 0, none⟩ = some (.int .i64 130) := (Joins.cell_of_block f0 0).trans rfl
    have c2 : w1.cell? ⟨w.heap.size + 1 + 1, 0, none⟩ = some (.int .i64 0) := (Joins.cell_of_block f2 0).trans rfl
    have u2 : w1.frozen? ⟨w.heap.size + 1 + 1, 0, none⟩ = false := Joins.unfrozen_of_block f2 0
    have hb1 := bel_alc w1 (.cells #[] 106)
    have HBE : Hid (Below w.heap.size w ((w1.alloc (.cells #[] 106)).setCell ⟨w.heap.size + 1 + 1, 0, none⟩ (.int .i64 130))) := (Bn (Bn HBB.out hb) hb1).setCell (p := ⟨w.heap.size + 1 + 1, 0, none⟩) (show w.heap.size ≤ w.heap.size + 1 + 1 by omega) _
    have g1 : ((w1.alloc (.cells #[] 106)).setCell ⟨w.heap.size + 1 + 1, 0, none⟩ (.int .i64 130)).heap[w.heap.size + 1]? = some (.cells recZ.cs.toArray 27) := (Deep.blk_setCell_other _ _ _ _ (by show w.heap.size + 1 ≠ w.heap.size + 1 + 1; omega)).trans (heap_old _ _ f1)
    have g2 : ((w1.alloc (.cells #[] 106)).setCell ⟨w.heap.size + 1 + 1, 0, none⟩ (.int .i64 130)).cell? ⟨w.heap.size + 1 + 1, 0, none⟩ = some (.int .i64 130) := by
      have e3 := Joins.block_setCell (v := .int .i64 130) (i := 0) (heap_old w1 (.cells #[] 106) f2)
      simpa using Joins.cell_of_block e3 0
    have hld := load_recs g1 rfl
    clear hb f0 f1 f2 hb1 g1 HC
    refine leaves_cons (f := 60) (args := #[.pointer (some ⟨w.heap.size, 0, none⟩), .pointer (some ⟨w.heap.size + 1 + 1, 0, none⟩)]) (by simp) (by simp [go_sem]) ?_
    refine (catch_fault ⟨w.heap.size, 0, none⟩ ⟨w.heap.size + 1 + 1, 0, none⟩ 0 130 w1 c0 c2 u2).mono ?_
    rintro e u' w'' ⟨rfl, rfl, rfl⟩
    generalize (w1.alloc (.cells #[] 106)).setCell ⟨w.heap.size + 1 + 1, 0, none⟩ (.int .i64 130) = W at *
    refine ⟨_, results_two Tryd.results40 _ W (w.heap.size + 1) (w.heap.size + 1 + 1) _ _ rfl rfl hld (load30 g2), recZ, 130, rfl, HBE.out, .inl ⟨hpn, rfl, rfl⟩⟩
  · have f1 := (hb.block _ (Array.getElem?_eq_some_iff.1 HE1.out).1).trans HE1.out
    have f2 := (hb.block _ (Array.getElem?_eq_some_iff.1 HE2.out).1).trans HE2.out
    obtain ⟨R, hR⟩ : ∃ R : Rec, R = { r with a := ra, cap := rc } := ⟨_, rfl⟩
    have HRQ := hid hR
    rw [← hR] at hrv ⊢
    have HPF : Hid (∀ b off, ra = some ⟨b, off, none⟩ → w.heap.size + 1 < b) := fun b off q => by
      have h1 := hpf b off q
      have h2 := (Array.getElem?_eq_some_iff.1 HE2.out).1
      omega
    have HRL := hid hrv.len
    have HF1 := hid f1
    have HRV := hid hrv
    have HPO := hid hpo
    have HRD := hid hred
    have HB1 := hid (Bn HBB.out hb)
    have f3 : (w1.setRow (w.heap.size + 1) R.cs.toArray).heap[w.heap.size + 1 + 1]? = some (.cells #[.int .i64 0] 30) := (other_setRow _ _ _ _ (by omega)).trans f2
    have c2 : (w1.setRow (w.heap.size + 1) R.cs.toArray).cell? ⟨w.heap.size + 1 + 1, 0, none⟩ = some (.int .i64 0) := (Joins.cell_of_block f3 0).trans rfl
    have u2 : (w1.setRow (w.heap.size + 1) R.cs.toArray).frozen? ⟨w.heap.size + 1 + 1, 0, none⟩ = false := Joins.unfrozen_of_block f3 0
    have HST := hid (setCell_same (v := .int .i64 0) (i := 0) f3 rfl)
    have HC2 := hid c2
    have HG1 : Hid ((w1.setRow (w.heap.size + 1) R.cs.toArray).heap[w.heap.size + 1]? = some (.cells R.cs.toArray 27)) := setRow_heap _ _ _ _ _ _ f1
    have HBE := hid (below_setRow HB1.out (show w.heap.size ≤ w.heap.size + 1 by omega) R.cs.toArray)
    clear hb f1 f2 f3 hrv hpo hred hR HC hpf
    go_wp2_with (first | refine wpList_store_rowTo rfl 27 _ _ rfl rfl (w.heap.size + 1) R.cs.toArray rfl rfl 27 _ HF1.out (size_recs HRL.out) (by rw [Rec.cs_size HRL.out]; rfl) (all_oneCell_toArray (Rec.cs_one _)) ?_ | fail)
    rw [HST.out]
    refine leaves_cons (f := 60) (args := #[.pointer (some ⟨w.heap.size, 0, none⟩), .pointer (some ⟨w.heap.size + 1 + 1, 0, none⟩)]) (by simp) (by simp [go_sem]) ?_
    refine (catch_idle ⟨w.heap.size, 0, none⟩ ⟨w.heap.size + 1 + 1, 0, none⟩ _).mono ?_
    rintro e u' w'' ⟨rfl, rfl, hw⟩
    obtain rfl := hw.symm
    clear hw
    refine ⟨_, results_two Tryd.results40 _ _ (w.heap.size + 1) (w.heap.size + 1 + 1) _ _ rfl rfl (load_recs HG1.out HRL.out) (load30 HC2.out), R, 0, rfl, HBE.out, .inr ⟨r, ra, rc, HPO.out, HRQ.out, rfl, HRD.out, ?_, fun b off q => by have := HPF.out b off q; omega⟩⟩
    have hv := HRV.out
    rw [HRQ.out] at hv ⊢
    exact ⟨hv.len, hv.u8, hv.seq, hv.epoch, hv.kind, hv.site, hv.path, hv.row.kept (fun b off q => other_setRow _ _ _ _ (by have := HPF.out b off q; omega))⟩
set_option maxHeartbeats 16000000 in
set_option maxRecDepth 100000 in
theorem parse_word (a : Option Addr) (cap : Nat) (zs : List Int) (w : World) (hr : Ri w .u8 a cap zs) (hl : zs.length ≤ 262144) :
    Calls Tryd.prog 23 #[.slice a zs.length cap] w fun e w' => ∃ R e', e = .returned (.tuple #[.agg R.cs.toArray, .int .i64 e']) ∧ Below w.heap.size w w' ∧ CauP w.heap.size zs w' R e' := by
  have hmf : ∀ (fn : Fn) (first cap : Array Value) (w : World), (Instr.makeFunc fn first cap).run Tryd.prog w = .ok (.func fn first cap) w := fun _ _ _ _ => rfl
  have s1 : (w.alloc (.cells #[.slice a zs.length cap] 29)).heap.size = w.heap.size + 1 := by simp
  have b1 := bel_alc w (.cells #[.slice a zs.length cap] 29)
  have b2 := bel_alc (w.alloc (.cells #[.slice a zs.length cap] 29)) (.cells recZ.cs.toArray 27)
  have e0 := heap_old _ (.cells recZ.cs.toArray 27) (heap_alc w (.cells #[.slice a zs.length cap] 29))
  have e1 := heap_alc (w.alloc (.cells #[.slice a zs.length cap] 29)) (.cells recZ.cs.toArray 27)
  rw [s1] at e1
  have bb := Bn b1 b2
  obtain ⟨W0, hW0⟩ : ∃ W, W = (w.alloc (.cells #[.slice a zs.length cap] 29)).alloc (.cells recZ.cs.toArray 27) := ⟨_, rfl⟩
  rw [← hW0] at e0 e1 bb
  have c0 : W0.cell? ⟨w.heap.size, 0, none⟩ = some (.slice a zs.length cap) := (Joins.cell_of_block e0 0).trans rfl
  have HC := hid (caught_word w.heap.size a cap zs W0 c0 (hr.later bb))
  have HE1 := hid e1
  have HBB := hid bb
  have HW0 := hid hW0
  have HS1 := hid s1.symm
  have hl2 : ¬ ((262144 : Int) < (zs.length : Int)) := by omega
  have hl3 : decide ((262144 : Int) < (zs.length : Int)) = false := decide_eq_false hl2
  have hl4 : decide (262144 < zs.length) = false := decide_eq_false (by omega)
  clear hr b1 b2 e0 e1 bb s1 hW0 hl
  generalize zs.length = LZ at *
  go_enter Tryd.func23, Tryd.ntmps23
  go_wp2_with (first | refine wpList_alloc_to rfl 27 rfl (some 2) rfl _ Tryd.zero27 (w.heap.size + 1) HS1.out W0 HW0.out ?_ | fail)
  refine HC.out.mono ?_
  rintro _ W1 ⟨R, e', rfl, hb1, hp⟩
  have HRL : Hid (R.prev.length = 32) := by
    rcases hp with ⟨_, rfl, _⟩ | ⟨r, ra, rc, _, rfl, _, hred, _, _⟩
    · rfl
    · exact hred.len
  have HO1 := hid ((hb1.block _ (Array.getElem?_eq_some_iff.1 HE1.out).1).trans HE1.out)
  have HB1 := hid (Bn HBB.out hb1)
  have HP := hid hp
  have HB0 := hid hb1
  clear hb1 hp HC
  go_wp2_with (first | refine wpList_store_rowTo rfl 27 _ _ rfl rfl (w.heap.size + 1) R.cs.toArray rfl rfl 27 _ HO1.out (size_recs HRL.out) (by rw [Rec.cs_size HRL.out]; rfl) (all_oneCell_toArray (Rec.cs_one _)) ?_ | fail)
  refine bodyPost_ret (results_row_tmp rfl _ _ (w.heap.size + 1) _ rfl (load_recs (setRow_heap _ _ _ _ _ _ HO1.out) HRL.out)) rfl ?_
  refine ⟨R, e', rfl, below_setRow HB1.out (by omega) _, ?_⟩
  rcases HP.out with q | ⟨r, ra, rc, q1, q2, q3, q4, hv, q5⟩
  · exact .inl q
  · refine .inr ⟨r, ra, rc, q1, q2, q3, q4, ?_, fun b off q => Nat.le_trans HBB.out.size (q5 b off q)⟩
    have h1 := (Array.getElem?_eq_some_iff.1 HE1.out).1
    rw [q2] at hv ⊢
    exact ⟨hv.len, hv.u8, hv.seq, hv.epoch, hv.kind, hv.site, hv.path, hv.row.kept (fun b off q => other_setRow _ _ _ _ (by have := q5 b off q; omega))⟩
end Go.Proofs.YtpbaacplgohniaaDoor
