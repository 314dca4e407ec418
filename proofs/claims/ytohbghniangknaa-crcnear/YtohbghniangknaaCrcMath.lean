/-
  CRC-32C as plain mathematics over natural numbers: a bit in, a byte in, a row in; that they are linear and can be taken back; joined sums; four bytes that make any sum; rows that differ within four bytes.
-/
import Derived.Laws.BitsAllLaws
namespace Go.Proofs.Ytohbghniangknaa.Crc

/-- The polynomial, its bits turned round. -/
def poly : Nat := 2197175160
/-- All ones. -/
def ones : Nat := 4294967295

/-- The polynomial, where the lowest bit is 1. -/
def sel (t : Nat) : Nat := if t % 2 = 1 then poly else 0
/-- A bit (the lowest one of b) in. -/
def bitIn (r b : Nat) : Nat := r / 2 ^^^ sel (r ^^^ b)
/-- The k lowest bits of b in, the lowest one first. -/
def inN : Nat → Nat → Nat → Nat
  | 0, r, _ => r
  | k + 1, r, b => inN k (bitIn r b) (b / 2)
/-- A byte in. -/
def inB (r b : Nat) : Nat := inN 8 r b
/-- A row of bytes in. -/
def inR (r : Nat) (l : List Nat) : Nat := l.foldl inB r

theorem inR_nil (r : Nat) : inR r [] = r := rfl
theorem inR_cons (r b : Nat) (l : List Nat) : inR r (b :: l) = inR (inB r b) l := List.foldl_cons ..

theorem xac (a b c d : Nat) : (a ^^^ b) ^^^ (c ^^^ d) = (a ^^^ c) ^^^ (b ^^^ d) := by
  rw [Nat.xor_assoc, ← Nat.xor_assoc b c d, Nat.xor_comm b c, Nat.xor_assoc c b d, ← Nat.xor_assoc]

theorem xor_can (a b : Nat) : (a ^^^ b) ^^^ b = a := by rw [Nat.xor_assoc, Nat.xor_self, Nat.xor_zero]

theorem xor_mod2 (a b : Nat) : (a ^^^ b) % 2 = (a + b) % 2 := by
  have h := Nat.testBit_xor a b 0
  rw [Nat.testBit_zero, Nat.testBit_zero, Nat.testBit_zero] at h
  rcases Nat.mod_two_eq_zero_or_one a with ha | ha <;> rcases Nat.mod_two_eq_zero_or_one b with hb | hb <;> rcases Nat.mod_two_eq_zero_or_one (a ^^^ b) with hc | hc <;> rw [ha, hb, hc] at h <;> simp at h <;> omega

theorem sel_xor (a b : Nat) : sel (a ^^^ b) = sel a ^^^ sel b := by
  have h : (a ^^^ b) % 2 = (a + b) % 2 := xor_mod2 _ _
  unfold sel
  rw [h]
  rcases Nat.mod_two_eq_zero_or_one a with ha | ha <;> rcases Nat.mod_two_eq_zero_or_one b with hb | hb
  · rw [if_neg (by omega), if_neg (by omega), if_neg (by omega)]; rfl
  · rw [if_pos (by omega), if_neg (by omega), if_pos (by omega)]; simp
  · rw [if_pos (by omega), if_pos (by omega), if_neg (by omega)]; simp
  · rw [if_neg (by omega), if_pos (by omega), if_pos (by omega)]; simp

theorem half_xor (a b : Nat) : (a ^^^ b) / 2 = a / 2 ^^^ b / 2 := Nat.xor_div_two

theorem bitIn_xor (r s a b : Nat) : bitIn (r ^^^ s) (a ^^^ b) = bitIn r a ^^^ bitIn s b := by
  unfold bitIn
  rw [half_xor, xac r s a b, sel_xor, xac]

theorem inN_xor (k : Nat) : ∀ r s a b : Nat, inN k (r ^^^ s) (a ^^^ b) = inN k r a ^^^ inN k s b := by
  induction k with
  | zero => intro r s a b; rfl
  | succ k ih => intro r s a b; rw [inN, inN, inN, bitIn_xor, half_xor, ih]

theorem inB_xor (r s a b : Nat) : inB (r ^^^ s) (a ^^^ b) = inB r a ^^^ inB s b := inN_xor 8 r s a b

theorem inN_split (k r b : Nat) : inN k r b = inN k r 0 ^^^ inN k 0 b := by
  have := inN_xor k r 0 0 b
  rw [Nat.xor_zero, Nat.zero_xor] at this
  exact this

/-- A byte that goes in is as good as one that lies in the register. -/
theorem inN_move (k : Nat) : ∀ b : Nat, b < 2 ^ k → inN k 0 b = inN k b 0 := by
  induction k with
  | zero => intro b h; have : b = 0 := by simpa using h
            rw [this]
  | succ k ih =>
    intro b h
    have hb : b / 2 < 2 ^ k := by rw [Nat.pow_succ] at h; omega
    have e1 : bitIn 0 b = sel b := by simp [bitIn]
    have e2 : bitIn b 0 = sel b ^^^ b / 2 := by rw [bitIn, Nat.xor_zero, Nat.xor_comm]
    rw [inN, inN, e1, e2, inN_split k (sel b) (b / 2), ih _ hb]
    have := inN_xor k (sel b) (b / 2) 0 0
    rw [Nat.xor_zero] at this
    rw [show 0 / 2 = 0 from rfl, this]

theorem inN_join (k r b : Nat) (h : b < 2 ^ k) : inN k r b = inN k (r ^^^ b) 0 := by
  have := inN_xor k r b 0 0
  rw [Nat.xor_zero] at this
  rw [inN_split, inN_move k b h, this]

/-- What lies above the bits that go in is shifted down. -/
theorem inN_shift (k : Nat) : ∀ x : Nat, inN k (x * 2 ^ k) 0 = x := by
  induction k with
  | zero => intro x; simp [inN]
  | succ k ih =>
    intro x
    have e : bitIn (x * 2 ^ (k + 1)) 0 = x * 2 ^ k := by
      unfold bitIn sel
      rw [Nat.xor_zero, Nat.pow_succ, ← Nat.mul_assoc, if_neg (by omega), Nat.xor_zero]
      omega
    rw [inN, e]
    exact ih x

theorem split_256 (r : Nat) : r = (r / 256 * 2 ^ 8) ^^^ (r % 256) := by
  have h1 : (r / 256 * 2 ^ 8) ||| (r % 256) = r / 256 * 2 ^ 8 + r % 256 := nat_join 8 _ _ (Nat.mul_mod_left _ _) (by omega)
  have h2 : (r / 256 * 2 ^ 8) &&& (r % 256) = 0 := by
    apply Nat.eq_of_testBit_eq
    intro i
    rw [Nat.testBit_and, Nat.zero_testBit]
    by_cases hi : i < 8
    · have : (r / 256 * 2 ^ 8).testBit i = false := by rw [Nat.testBit_mul_two_pow]; simp; omega
      rw [this]; rfl
    · have : (r % 256).testBit i = false := Nat.testBit_lt_two_pow (Nat.lt_of_lt_of_le (show r % 256 < 2 ^ 8 from by omega) (Nat.pow_le_pow_right (n := 2) (by decide) (by omega)))
      rw [this, Bool.and_false]
  have h3 : (r / 256 * 2 ^ 8) ^^^ (r % 256) = (r / 256 * 2 ^ 8) ||| (r % 256) := by
    apply Nat.eq_of_testBit_eq
    intro i
    have h := congrArg (fun x => x.testBit i) h2
    simp only [Nat.testBit_and, Nat.zero_testBit] at h
    rw [Nat.testBit_xor, Nat.testBit_or]
    revert h
    cases (r / 256 * 2 ^ 8).testBit i <;> cases (r % 256).testBit i <;> simp
  rw [h3, h1]
  omega

/-- By a table: the register shifted, and the entry of its lowest byte and the one that goes in. -/
theorem inB_table (r b : Nat) (h : b < 256) : inB r b = r / 256 ^^^ inB 0 (r % 256 ^^^ b) := by
  have hx : r % 256 ^^^ b < 2 ^ 8 := Nat.xor_lt_two_pow (by omega) (by omega)
  unfold inB
  rw [inN_join 8 r b (by omega), inN_move 8 _ hx]
  conv => lhs; rw [split_256 r]
  rw [Nat.xor_assoc]
  have := inN_xor 8 (r / 256 * 2 ^ 8) (r % 256 ^^^ b) 0 0
  rw [Nat.xor_zero] at this
  rw [this, inN_shift]

theorem sel_lt (t : Nat) : sel t < 2 ^ 32 := by unfold sel poly; split <;> omega

theorem bitIn_lt (r b : Nat) (h : r < 2 ^ 32) : bitIn r b < 2 ^ 32 := Nat.xor_lt_two_pow (by omega) (sel_lt _)

theorem inN_lt (k : Nat) : ∀ r b : Nat, r < 2 ^ 32 → inN k r b < 2 ^ 32 := by
  induction k with
  | zero => intro r b h; exact h
  | succ k ih => intro r b h; exact ih _ _ (bitIn_lt r b h)

theorem inB_lt (r b : Nat) (h : r < 2 ^ 32) : inB r b < 2 ^ 32 := inN_lt 8 r b h

theorem inR_lt (l : List Nat) : ∀ r : Nat, r < 2 ^ 32 → inR r l < 2 ^ 32 := by
  induction l with
  | nil => intro r h; rw [inR_nil]; exact h
  | cons b l ih => intro r h; rw [inR_cons]; exact ih _ (inB_lt r b h)

/-! Back -/

/-- The register ahead of a bit that went in. -/
def bitOut (r b : Nat) : Nat := if r < 2 ^ 31 then 2 * r + b % 2 else 2 * (r ^^^ poly) + (1 - b % 2)

theorem top_bit (x : Nat) (h : x < 2 ^ 31) : 2 ^ 31 ≤ x ^^^ poly ∧ x ^^^ poly < 2 ^ 32 := by
  have h1 : x ^^^ poly < 2 ^ 32 := Nat.xor_lt_two_pow (by omega) (by unfold poly; omega)
  refine ⟨?_, h1⟩
  have hb : (x ^^^ poly).testBit 31 = true := by
    rw [Nat.testBit_xor, Nat.testBit_lt_two_pow h]
    decide
  exact Nat.ge_two_pow_of_testBit hb

theorem low_of_top (r : Nat) (h : r < 2 ^ 32) (ht : 2 ^ 31 ≤ r) : r ^^^ poly < 2 ^ 31 := by
  have h1 : r ^^^ poly < 2 ^ 32 := Nat.xor_lt_two_pow h (by unfold poly; omega)
  apply Nat.lt_pow_two_of_testBit
  intro i hi
  by_cases h31 : i = 31
  · subst h31
    have : r.testBit 31 = true := by
      rw [Nat.testBit_eq_decide_div_mod_eq]
      have : r / 2 ^ 31 = 1 := by omega
      rw [this]; rfl
    rw [Nat.testBit_xor, this]
    decide
  · exact Nat.testBit_lt_two_pow (Nat.lt_of_lt_of_le h1 (Nat.pow_le_pow_right (n := 2) (by decide) (by omega)))

theorem xor_bit (r b : Nat) : (r ^^^ b) % 2 = (r + b) % 2 := xor_mod2 _ _

theorem bitOut_in (r b : Nat) (h : r < 2 ^ 32) : bitOut (bitIn r b) b = r := by
  have hx := xor_bit r b
  unfold bitIn sel bitOut
  by_cases hs : (r ^^^ b) % 2 = 1
  · rw [if_pos hs, if_neg (by have := (top_bit (r / 2) (by omega)).1; omega), xor_can]
    omega
  · rw [if_neg hs, Nat.xor_zero, if_pos (by omega)]
    omega

theorem bitIn_out (r b : Nat) (h : r < 2 ^ 32) : bitIn (bitOut r b) b = r ∧ bitOut r b < 2 ^ 32 := by
  unfold bitOut
  by_cases ht : r < 2 ^ 31
  · rw [if_pos ht]
    have hx := xor_bit (2 * r + b % 2) b
    refine ⟨?_, by omega⟩
    unfold bitIn sel
    rw [if_neg (by omega), Nat.xor_zero]
    omega
  · have hl := low_of_top r h (by omega)
    rw [if_neg ht]
    have hx := xor_bit (2 * (r ^^^ poly) + (1 - b % 2)) b
    refine ⟨?_, by omega⟩
    unfold bitIn sel
    rw [if_pos (by omega), show (2 * (r ^^^ poly) + (1 - b % 2)) / 2 = r ^^^ poly from by omega, xor_can]

theorem inN_snoc (k : Nat) : ∀ r b : Nat, inN (k + 1) r b = bitIn (inN k r b) (b / 2 ^ k) := by
  induction k with
  | zero => intro r b; simp [inN]
  | succ k ih =>
    intro r b
    rw [inN, ih, inN, Nat.div_div_eq_div_mul, ← Nat.pow_succ']

/-- The register ahead of the k lowest bits of b. -/
def outN : Nat → Nat → Nat → Nat
  | 0, r, _ => r
  | k + 1, r, b => outN k (bitOut r (b / 2 ^ k)) b
def outB (r b : Nat) : Nat := outN 8 r b
def outR (r : Nat) (l : List Nat) : Nat := l.foldr (fun b r => outB r b) r

theorem outR_nil (r : Nat) : outR r [] = r := rfl
theorem outR_cons (r b : Nat) (l : List Nat) : outR r (b :: l) = outB (outR r l) b := List.foldr_cons ..

theorem outN_in (k : Nat) : ∀ r b : Nat, r < 2 ^ 32 → outN k (inN k r b) b = r := by
  induction k with
  | zero => intro r b _; rfl
  | succ k ih => intro r b h; rw [inN_snoc, outN, bitOut_in _ _ (inN_lt k r b h), ih r b h]

theorem inN_out (k : Nat) : ∀ r b : Nat, r < 2 ^ 32 → inN k (outN k r b) b = r ∧ outN k r b < 2 ^ 32 := by
  induction k with
  | zero => intro r b h; exact ⟨rfl, h⟩
  | succ k ih =>
    intro r b h
    obtain ⟨h1, h2⟩ := bitIn_out r (b / 2 ^ k) h
    obtain ⟨h3, h4⟩ := ih (bitOut r (b / 2 ^ k)) b h2
    rw [outN, inN_snoc, h3]
    exact ⟨h1, h4⟩

theorem outB_in (r b : Nat) (h : r < 2 ^ 32) : outB (inB r b) b = r := outN_in 8 r b h
theorem inB_out (r b : Nat) (h : r < 2 ^ 32) : inB (outB r b) b = r := (inN_out 8 r b h).1
theorem outB_lt (r b : Nat) (h : r < 2 ^ 32) : outB r b < 2 ^ 32 := (inN_out 8 r b h).2

theorem outR_lt (l : List Nat) (r : Nat) (h : r < 2 ^ 32) : outR r l < 2 ^ 32 := by
  induction l with
  | nil => rw [outR_nil]; exact h
  | cons b l ih => rw [outR_cons]; exact outB_lt _ _ ih

theorem inR_out (l : List Nat) : ∀ r : Nat, r < 2 ^ 32 → inR (outR r l) l = r := by
  induction l with
  | nil => intro r _; rw [outR_nil, inR_nil]
  | cons b l ih =>
    intro r h
    rw [outR_cons, inR_cons, inB_out _ _ (outR_lt l r h), ih r h]

theorem outR_in (l : List Nat) : ∀ r : Nat, r < 2 ^ 32 → outR (inR r l) l = r := by
  induction l with
  | nil => intro r _; rw [inR_nil, outR_nil]
  | cons b l ih =>
    intro r h
    rw [inR_cons, outR_cons, ih _ (inB_lt r b h), outB_in r b h]

theorem inR_inj (l : List Nat) (r s : Nat) (hr : r < 2 ^ 32) (hs : s < 2 ^ 32) (h : inR r l = inR s l) : r = s := by
  rw [← outR_in l r hr, ← outR_in l s hs, h]

theorem inR_append (r : Nat) (l m : List Nat) : inR r (l ++ m) = inR (inR r l) m := by
  unfold inR; rw [List.foldl_append]

/-! Two rows at once -/

theorem inR_xor (l : List Nat) : ∀ (m : List Nat) (r s : Nat), l.length = m.length → inR (r ^^^ s) (List.zipWith (· ^^^ ·) l m) = inR r l ^^^ inR s m := by
  induction l with
  | nil => intro m r s h; cases m with
    | nil => rw [List.zipWith_nil_left, inR_nil, inR_nil, inR_nil]
    | cons c m => simp at h
  | cons b l ih =>
    intro m r s h
    cases m with
    | nil => simp at h
    | cons c m =>
      rw [List.zipWith_cons_cons, inR_cons, inR_cons, inR_cons, inB_xor, ih m _ _ (by simpa using h)]

theorem zip_zeros (l : List Nat) : List.zipWith (· ^^^ ·) (List.replicate l.length 0) l = l := by
  induction l with
  | nil => rfl
  | cons b l ih => rw [List.length_cons, List.replicate_succ, List.zipWith_cons_cons, ih, Nat.zero_xor]

/-- A register that differs by d: what it differs by goes through as many bytes 0. -/
theorem inR_differ (l : List Nat) (d r : Nat) : inR (d ^^^ r) l = inR d (List.replicate l.length 0) ^^^ inR r l := by
  have := inR_xor (List.replicate l.length 0) l d r (by simp)
  rw [zip_zeros] at this
  exact this

/-! Sums -/

/-- The sum of more bytes. -/
def add (sum : Nat) (l : List Nat) : Nat := inR (sum ^^^ ones) l ^^^ ones
def back (sum : Nat) (l : List Nat) : Nat := outR (sum ^^^ ones) l ^^^ ones

theorem ones_lt (a : Nat) (h : a < 2 ^ 32) : a ^^^ ones < 2 ^ 32 := Nat.xor_lt_two_pow h (by unfold ones; omega)

theorem add_lt (s : Nat) (l : List Nat) (h : s < 2 ^ 32) : add s l < 2 ^ 32 := ones_lt _ (inR_lt l _ (ones_lt s h))
theorem back_lt (s : Nat) (l : List Nat) (h : s < 2 ^ 32) : back s l < 2 ^ 32 := ones_lt _ (outR_lt l _ (ones_lt s h))

theorem add_append (s : Nat) (l m : List Nat) : add s (l ++ m) = add (add s l) m := by
  rw [add, add, add, xor_can, inR_append]

theorem add_nil (s : Nat) : add s [] = s := by rw [add, inR_nil, xor_can]

theorem back_add (s : Nat) (l : List Nat) (h : s < 2 ^ 32) : back (add s l) l = s := by
  unfold back add; rw [xor_can, outR_in l _ (ones_lt s h), xor_can]

theorem add_back (s : Nat) (l : List Nat) (h : s < 2 ^ 32) : add (back s l) l = s := by
  unfold back add; rw [xor_can, inR_out l _ (ones_lt s h), xor_can]

/-- Joined: by the sums of both, and how long the second one is. -/
theorem cat (l m : List Nat) : add 0 (l ++ m) = inR (add 0 l) (List.replicate m.length 0) ^^^ add 0 m := by
  rw [add_append]
  unfold add
  rw [xor_can, Nat.zero_xor, ← Nat.xor_assoc, ← inR_differ m, xor_can]

/-- Four bytes in are as good as a number of 32 bits that lies in the register. -/
def four (x : Nat) : List Nat := [x % 256, x / 256 % 256, x / 65536 % 256, x / 16777216 % 256]

theorem inB_low (d x : Nat) : inB (d ^^^ x) 0 = inB d (x % 256) ^^^ x / 256 := by
  conv => lhs; rw [split_256 x]
  have h1 : d ^^^ ((x / 256 * 2 ^ 8) ^^^ (x % 256)) = (d ^^^ (x % 256)) ^^^ (x / 256 * 2 ^ 8) := by
    rw [Nat.xor_comm (x / 256 * 2 ^ 8), Nat.xor_assoc]
  rw [h1]
  have h2 := inB_xor (d ^^^ (x % 256)) (x / 256 * 2 ^ 8) 0 0
  rw [Nat.xor_zero] at h2
  rw [h2]
  have h3 : inB (x / 256 * 2 ^ 8) 0 = x / 256 := inN_shift 8 (x / 256)
  have h4 : inB d (x % 256) = inB (d ^^^ (x % 256)) 0 := inN_join 8 d (x % 256) (by omega)
  rw [h3, h4]

theorem inR_four (d x : Nat) (hx : x < 2 ^ 32) : inR d (four x) = inR (d ^^^ x) [0, 0, 0, 0] := by
  rw [four]
  simp only [inR_cons, inR_nil]
  rw [inB_low d x, inB_low _ (x / 256), Nat.div_div_eq_div_mul, inB_low _ (x / (256 * 256)), Nat.div_div_eq_div_mul, inB_low _ (x / (256 * 256 * 256)), Nat.div_div_eq_div_mul]
  rw [show x / (256 * 256 * 256 * 256) = 0 from by omega, Nat.xor_zero]

/-- Behind bytes of the sum s, these four make the sum want. -/
def forge (s want : Nat) : Nat := back want [0, 0, 0, 0] ^^^ s

theorem forge_lt (s want : Nat) (hs : s < 2 ^ 32) (hw : want < 2 ^ 32) : forge s want < 2 ^ 32 := Nat.xor_lt_two_pow (back_lt _ _ hw) hs

theorem forged (s want : Nat) (hs : s < 2 ^ 32) (hw : want < 2 ^ 32) : add s (four (forge s want)) = want := by
  have h : (s ^^^ ones) ^^^ forge s want = back want [0, 0, 0, 0] ^^^ ones := by
    unfold forge
    rw [Nat.xor_comm s ones, Nat.xor_comm (back want [0, 0, 0, 0]) s, Nat.xor_assoc, ← Nat.xor_assoc s s, Nat.xor_self, Nat.zero_xor, Nat.xor_comm]
  have hb := add_back want [0, 0, 0, 0] hw
  unfold add at hb ⊢
  rw [inR_four _ _ (forge_lt s want hs hw), h]
  exact hb

/-- Rows that differ by x, within four bytes side by side: their sums differ. -/
theorem near (s x : Nat) (pre mid suf : List Nat) (hs : s < 2 ^ 32) (hx : x < 2 ^ 32) (h0 : x ≠ 0) (hm : mid.length = 4) :
    add s (pre ++ mid ++ suf) ≠ add s (pre ++ List.zipWith (· ^^^ ·) mid (four x) ++ suf) := by
  intro h
  unfold add at h
  have h1 := congrArg (· ^^^ ones) h
  simp only [xor_can] at h1
  rw [inR_append, inR_append, inR_append, inR_append] at h1
  have hr := inR_lt pre _ (ones_lt s hs)
  have h2 := inR_inj suf _ _ (inR_lt mid _ hr) (inR_lt _ _ hr) h1
  have h3 := inR_xor mid (four x) (inR (s ^^^ ones) pre) 0 (by rw [hm]; rfl)
  rw [Nat.xor_zero] at h3
  rw [h3] at h2
  have h4 : inR 0 (four x) = 0 := by
    have := congrArg (inR (inR (s ^^^ ones) pre) mid ^^^ ·) h2
    simp only [Nat.xor_self, ← Nat.xor_assoc, Nat.zero_xor] at this
    exact this.symm
  rw [inR_four 0 x hx, Nat.zero_xor] at h4
  have h5 : inR 0 [0, 0, 0, 0] = 0 := by decide
  exact h0 (inR_inj [0, 0, 0, 0] x 0 hx (by decide) (h4.trans h5.symm))

end Go.Proofs.Ytohbghniangknaa.Crc
