/-
  The contracts of package word that package sha leans on: Bytes and Words, with all that they call.
-/
import Derived.Test.YtgnjicpmfpgdeaaDoorShSmall
namespace Go.Proofs.YtgnjicpmfpgdeaaDoor.Sh.Wd
open Go.RowKit

def sizeF (b : Int) : Int := if b = 8 then 1 else if b = 16 then 2 else if b = 32 then 4 else if b = 64 then 8 else 0

theorem size_any (b : Int) (w : World) : Calls Tryd.prog 73 #[.int .i64 b] w fun e w' => e = .returned (.int .i64 (sizeF b)) ∧ w' = w := by
  by_cases h8 : b = 8
  · subst h8
    go_enter Tryd.func73, Tryd.ntmps73
    go_wp2
    go_ret
    exact ⟨rfl, rfl⟩
  by_cases h16 : b = 16
  · subst h16
    go_enter Tryd.func73, Tryd.ntmps73
    go_wp2
    go_ret
    exact ⟨rfl, rfl⟩
  by_cases h32 : b = 32
  · subst h32
    go_enter Tryd.func73, Tryd.ntmps73
    go_wp2
    go_ret
    exact ⟨rfl, rfl⟩
  by_cases h64 : b = 64
  · subst h64
    go_enter Tryd.func73, Tryd.ntmps73
    go_wp2
    go_ret
    exact ⟨rfl, rfl⟩
  have g8 : (b == 8) = false := by simpa using h8
  have g16 : (b == 16) = false := by simpa using h16
  have g32 : (b == 32) = false := by simpa using h32
  have g64 : (b == 64) = false := by simpa using h64
  go_enter Tryd.func73, Tryd.ntmps73
  go_wp2
  go_ret
  exact ⟨ret_int (by simp [sizeF, h8, h16, h32, h64]), rfl⟩

def wdB (b : Int) : Bool := b == 8 || b == 16 || b == 32 || b == 64

theorem wd_size (b : Int) : (sizeF b == 0) = !wdB b := by
  unfold sizeF wdB
  by_cases h8 : b = 8
  · subst h8; rfl
  by_cases h16 : b = 16
  · subst h16; rfl
  by_cases h32 : b = 32
  · subst h32; rfl
  by_cases h64 : b = 64
  · subst h64; rfl
  simp [h8, h16, h32, h64]

theorem wd_cases {b : Int} (h : wdB b = true) : b = 8 ∨ b = 16 ∨ b = 32 ∨ b = 64 := by
  simpa [wdB, or_assoc] using h

theorem Tryd.info5 : (Tryd.prog.info? 5).map (fun i => (i.zero, i.size, i.bytes)) = some (some (.int .u8 0), 1, 1) := by kernel_rfl

/-- A row of bytes that the call owns, which is not empty: where it lies. -/
theorem own_open {w : World} {B : Nat} {v : Value} {l : List Int} (h : w.ownsRow B 5 1 v l.length (l.map (Value.int .u8))) (hne : 0 < l.length) :
    ∃ g cap, v = .slice (some ⟨g, 0, none⟩) l.length cap ∧ B ≤ g ∧ g < w.heap.size ∧ l.length ≤ cap ∧ cap ≤ maxLen ∧ ∀ j, j < l.length → w.cell? ⟨g, j, none⟩ = some (.int .u8 (l.getD j 0)) := by
  have h' := h
  obtain ⟨_, hcase⟩ := h
  rcases hcase with ⟨_, h0⟩ | ⟨g, cap, cur, rfl, hg, hh, hn, hcap, _, _⟩
  · omega
  · refine ⟨g, cap, rfl, hg, (Array.getElem?_eq_some_iff.1 hh).1, hn, hcap, fun j hj => ?_⟩
    rw [h'.cellAt j (by omega)]
    simp [List.getD, List.getElem?_eq_getElem hj]

theorem bel_drewN {B : Nat} {a w : World} (h : Below B a w) (n : Nat) : Below B a (w.drewN n) := h.trans ⟨rfl, rfl, rfl, Nat.le_refl _, fun _ _ => rfl⟩

/-- A slice value v reads, in the world w, as the bytes zs. -/
structure Rd (w : World) (v : Value) (a : Option Addr) (cap : Nat) (zs : List Int) : Prop where
  val : v = .slice a zs.length cap
  room : zs.length ≤ cap
  most : cap ≤ maxLen
  cells : 0 < zs.length → ∃ b off, a = some ⟨b, off, none⟩ ∧ b < w.heap.size ∧ ∀ j, j < zs.length → w.cell? ⟨b, off + j, none⟩ = some (.int .u8 (zs.getD j 0))
  lo : ∀ j, 0 ≤ zs.getD j 0
  hi : ∀ j, zs.getD j 0 ≤ 255

theorem Rd.later {w w' : World} {v : Value} {a : Option Addr} {cap : Nat} {zs : List Int} (h : Rd w v a cap zs) (hb : Below w.heap.size w w') : Rd w' v a cap zs := by
  refine ⟨h.val, h.room, h.most, fun h0 => ?_, h.lo, h.hi⟩
  obtain ⟨b, off, ha, hbw, hc⟩ := h.cells h0
  exact ⟨b, off, ha, Nat.lt_of_lt_of_le hbw hb.size, fun j hj => (hb.cell (p := ⟨b, off + j, none⟩) hbw).trans (hc j hj)⟩

theorem getD_take (zs : List Int) (n j : Nat) (hj : j < n) : (zs.take n).getD j 0 = zs.getD j 0 := by
  simp [List.getD, List.getElem?_take_of_lt hj]
theorem getD_take_out (zs : List Int) (n j : Nat) (hj : ¬ j < n) : (zs.take n).getD j 0 = 0 := by
  have h : (zs.take n).length ≤ j := by simp; omega
  simp [List.getD, List.getElem?_eq_none h]

theorem Rd.take {w : World} {a : Option Addr} {cap : Nat} {zs : List Int} (h : Rd w (.slice a zs.length cap) a cap zs) (n : Nat) : Rd w (.slice a (zs.take n).length cap) a cap (zs.take n) := by
  have hroom := h.room
  have hle : (zs.take n).length ≤ zs.length := by simp; omega
  have hln : (zs.take n).length ≤ n := List.length_take_le _ _
  refine ⟨rfl, by omega, h.most, fun h0 => ?_, fun j => ?_, fun j => ?_⟩
  · obtain ⟨b, off, ha, hbw, hc⟩ := h.cells (by omega)
    refine ⟨b, off, ha, hbw, fun j hj => ?_⟩
    rw [getD_take zs n j (by omega)]
    exact hc j (by omega)
  · by_cases hj : j < n
    · rw [getD_take zs n j hj]; exact h.lo j
    · rw [getD_take_out zs n j hj]; omega
  · by_cases hj : j < n
    · rw [getD_take zs n j hj]; exact h.hi j
    · rw [getD_take_out zs n j hj]; omega

/-- The n lowest bytes of x, the lowest one first. -/
def leL : Nat → Int → List Int
  | 0, _ => []
  | n + 1, x => (x % 256) :: leL n (x / 256)
/-- The number of some bytes, the highest one first. -/
def numBE (l : List Int) : Int := l.foldl (fun x c => x * 256 + c) 0
/-- In either order (1: the highest one first). -/
def bytesF (n : Nat) (o x : Int) : List Int := if o = 1 then (leL n x).reverse else leL n x
def numF (o : Int) (l : List Int) : Int := if o = 1 then numBE l else numBE l.reverse

theorem leL_length (n : Nat) : ∀ x : Int, (leL n x).length = n := by
  induction n with
  | zero => intro x; rfl
  | succ n ih => intro x; simp [leL, ih]

theorem bytesF_length (n : Nat) (o x : Int) : (bytesF n o x).length = n := by
  unfold bytesF; split <;> simp [leL_length]

theorem ediv_pow_succ (x : Int) (n : Nat) : x / 256 / 256 ^ n = x / 256 ^ (n + 1) := by
  rw [Int.ediv_ediv_of_nonneg (by decide), ← Int.pow_succ']

theorem leL_snoc (n : Nat) : ∀ x : Int, leL (n + 1) x = leL n x ++ [x / 256 ^ n % 256] := by
  induction n with
  | zero => intro x; simp [leL]
  | succ n ih =>
    intro x
    rw [leL, ih (x / 256), leL, ediv_pow_succ]
    rfl

theorem leL_getD (n : Nat) : ∀ (x : Int) (j : Nat), j < n → (leL n x).getD j 0 = x / 256 ^ j % 256 := by
  induction n with
  | zero => intro x j h; omega
  | succ n ih =>
    intro x j h
    match j with
    | 0 => simp [leL]
    | j + 1 =>
      have := ih (x / 256) j (by omega)
      rw [leL, List.getD_cons_succ, this, ediv_pow_succ]

/-- How many bits of a number of n bytes lie below its byte i. -/
def shF (n : Nat) (o : Int) (i : Nat) : Nat := if o = 1 then 8 * (n - 1 - i) else 8 * i

theorem pow256 (k : Nat) : (256 : Int) ^ k = 2 ^ (8 * k) := by rw [Int.pow_mul]; rfl

theorem getD_reverse (l : List Int) (j : Nat) (h : j < l.length) : l.reverse.getD j 0 = l.getD (l.length - 1 - j) 0 := by
  have h1 : j < l.reverse.length := by simpa using h
  have h2 : l.length - 1 - j < l.length := by omega
  simp only [List.getD, List.getElem?_eq_getElem h1, List.getElem?_eq_getElem h2, Option.getD_some]
  rw [List.getElem_reverse]

theorem bytesF_getD (n : Nat) (o x : Int) (j : Nat) (h : j < n) : (bytesF n o x).getD j 0 = x / 2 ^ (shF n o j) % 256 := by
  unfold bytesF shF
  by_cases ho : o = 1
  · rw [if_pos ho, if_pos ho, getD_reverse _ _ (by rw [leL_length]; exact h), leL_length, leL_getD _ _ _ (by omega), pow256]
  · rw [if_neg ho, if_neg ho, leL_getD _ _ _ h, pow256]

theorem bytesF_range (n : Nat) (o x : Int) (j : Nat) : 0 ≤ (bytesF n o x).getD j 0 ∧ (bytesF n o x).getD j 0 ≤ 255 := by
  by_cases h : j < n
  · rw [bytesF_getD n o x j h]; omega
  · have : (bytesF n o x).length ≤ j := by rw [bytesF_length]; omega
    simp [List.getD, List.getElem?_eq_none this]

theorem numBE_from (l : List Int) : ∀ a : Int, l.foldl (fun x c => x * 256 + c) a = a * 256 ^ l.length + numBE l := by
  induction l with
  | nil => intro a; simp [numBE]
  | cons c l ih =>
    intro a
    rw [numBE, List.foldl_cons, List.foldl_cons, ih, ih (0 * 256 + c), List.length_cons, Int.pow_succ', Int.zero_mul, Int.zero_add, Int.add_mul, Int.mul_assoc]
    omega

theorem numBE_cons (c : Int) (l : List Int) : numBE (c :: l) = c * 256 ^ l.length + numBE l := by
  rw [numBE, List.foldl_cons, numBE_from, Int.zero_mul, Int.zero_add]

theorem numBE_snoc (l : List Int) (c : Int) : numBE (l ++ [c]) = numBE l * 256 + c := by
  rw [numBE, List.foldl_append]; rfl

theorem numBE_range (l : List Int) (h : ∀ c ∈ l, 0 ≤ c ∧ c ≤ 255) : 0 ≤ numBE l ∧ numBE l < 256 ^ l.length := by
  induction l with
  | nil => simp [numBE]
  | cons c l ih =>
    have hc := h c (by simp)
    have hl := ih (fun x hx => h x (by simp [hx]))
    rw [numBE_cons, List.length_cons, Int.pow_succ]
    have hp : (0 : Int) < 256 ^ l.length := Int.pow_pos (by decide)
    have h1 : c * 256 ^ l.length ≤ 255 * 256 ^ l.length := Int.mul_le_mul_of_nonneg_right hc.2 (by omega)
    have h2 : 0 ≤ c * 256 ^ l.length := Int.mul_nonneg hc.1 (by omega)
    omega

/-- The number of a number's bytes: its lowest bits. -/
theorem numBE_leL (n : Nat) : ∀ x : Int, numBE (leL n x).reverse = x % 256 ^ n := by
  induction n with
  | zero => intro x; simp [leL, numBE]
  | succ n ih =>
    intro x
    rw [leL, List.reverse_cons, numBE_snoc, ih, Int.pow_succ]
    have hp : (0 : Int) < 256 ^ n := Int.pow_pos (by decide)
    have h1 := Int.mul_ediv_add_emod (x / 256) (256 ^ n)
    have h2 : x % (256 ^ n * 256) = x - 256 ^ n * 256 * (x / (256 ^ n * 256)) := by rw [Int.emod_def]
    have h3 : x / (256 ^ n * 256) = x / 256 / 256 ^ n := by rw [Int.mul_comm, Int.ediv_ediv_of_nonneg (by decide)]
    rw [h2, h3]
    have h4 : (256 : Int) ^ n * 256 * (x / 256 / 256 ^ n) = 256 * (256 ^ n * (x / 256 / 256 ^ n)) := by
      rw [Int.mul_comm (256 ^ n) 256, Int.mul_assoc]
    rw [h4]
    omega

theorem numF_bytesF (n : Nat) (o x : Int) : numF o (bytesF n o x) = x % 256 ^ n := by
  unfold numF bytesF
  by_cases ho : o = 1
  · rw [if_pos ho, if_pos ho, numBE_leL]
  · rw [if_neg ho, if_neg ho, numBE_leL]

/-- What is wrong with a width and an order. -/
def faultF (b o : Int) : Int := if wdB b = false then 10 else if o ≠ 1 ∧ o ≠ 2 then 1 else 0

theorem fault_any (b o : Int) (w : World) : Calls Tryd.prog 72 #[.int .i64 b, .int .i64 o] w fun e w' => e = .returned (.int .i64 (faultF b o)) ∧ w' = w := by
  have hs := wd_size b
  cases hw : wdB b with
  | false =>
    rw [hw] at hs
    have hf : faultF b o = 10 := by simp [faultF, hw]
    rw [hf]
    clear hf
    go_enter Tryd.func72, Tryd.ntmps72
    go_wp2_with (go_at_call 73; refine (size_any _ _).mono ?_; rintro e w' ⟨rfl, rfl⟩)
    go_ret
    exact ⟨rfl, rfl⟩
  | true =>
    rw [hw] at hs
    by_cases h1 : o = 1
    · subst h1
      have hf : faultF b 1 = 0 := by simp [faultF, hw]
      rw [hf]
      clear hf
      go_enter Tryd.func72, Tryd.ntmps72
      go_wp2_with (go_at_call 73; refine (size_any _ _).mono ?_; rintro e w' ⟨rfl, rfl⟩)
      go_ret
      exact ⟨rfl, rfl⟩
    · have g1 : (o != 1) = true := by rw [bne_iff_ne]; exact h1
      by_cases h2 : o = 2
      · subst h2
        have hf : faultF b 2 = 0 := by simp [faultF, hw]
        rw [hf]
        clear hf
        go_enter Tryd.func72, Tryd.ntmps72
        go_wp2_with (go_at_call 73; refine (size_any _ _).mono ?_; rintro e w' ⟨rfl, rfl⟩)
        go_ret
        exact ⟨rfl, rfl⟩
      · have g2 : (o != 2) = true := by rw [bne_iff_ne]; exact h2
        have hf : faultF b o = 1 := by simp [faultF, hw, h1, h2]
        rw [hf]
        clear hf h1 h2
        go_enter Tryd.func72, Tryd.ntmps72
        go_wp2_with (go_at_call 73; refine (size_any _ _).mono ?_; rintro e w' ⟨rfl, rfl⟩)
        go_ret
        exact ⟨rfl, rfl⟩

theorem shift_any (i n : Nat) (o : Int) (w : World) (hi : i < n) (hn : n ≤ 8) :
    Calls Tryd.prog 74 #[.int .i64 i, .int .i64 n, .int .i64 o] w fun e w' => e = .returned (.int .i64 (shF n o i : Nat)) ∧ w' = w := by
  by_cases h1 : o = 1
  · subst h1
    go_enter Tryd.func74, Tryd.ntmps74
    go_wp2
    go_ret
    exact ⟨ret_int (by simp only [shF, if_true]; omega), rfl⟩
  · have g1 : (o == 1) = false := by rw [beq_eq_false_iff_ne]; exact h1
    have hf : shF n o i = 8 * i := by simp [shF, h1]
    have HF := hid hf
    clear hf h1
    go_enter Tryd.func74, Tryd.ntmps74
    go_wp2
    go_ret
    exact ⟨ret_int (by rw [HF.out]; omega), rfl⟩

/-- A row of n places of which the first k are filled. -/
def partL (n k : Nat) (l : List Int) : List Int := l.take k ++ List.replicate (n - k) 0

theorem partL_length (n k : Nat) (l : List Int) (hl : l.length = n) (hk : k ≤ n) : (partL n k l).length = n := by
  simp [partL]; omega

theorem partL_zero (n : Nat) (l : List Int) : partL n 0 l = List.replicate n 0 := by simp [partL]

theorem partL_full (n : Nat) (l : List Int) (hl : l.length = n) : partL n n l = l := by
  simp [partL, ← hl]

theorem partL_set (n k : Nat) (l : List Int) (hl : l.length = n) (hk : k < n) (kd : IntKind) :
    ((partL n k l).map (Value.int kd)).set k (.int kd (l.getD k 0)) = (partL n (k + 1) l).map (Value.int kd) := by
  rw [← List.map_set]
  congr 1
  unfold partL
  rw [List.set_append_right _ _ (by simp; omega), show k - (l.take k).length = 0 from by simp; omega, show n - k = (n - (k + 1)) + 1 from by omega, List.replicate_succ, List.set_cons_zero]
  have e : l.getD k 0 = l[k]'(by omega) := by simp [List.getD, List.getElem?_eq_getElem (show k < l.length from by omega)]
  rw [e, List.take_succ_eq_append_getElem (show k < l.length from by omega), List.append_assoc]
  rfl

theorem shF_le (n : Nat) (o : Int) (i : Nat) (hn : n ≤ 8) (hi : i < n) : shF n o i ≤ 56 := by
  unfold shF; split <;> omega

set_option maxHeartbeats 800000 in
theorem bytes_word (x b o : Int) (n : Nat) (w : World) (_h0 : 0 ≤ x) (_h1 : x < 18446744073709551616) (hf : (faultF b o != 0) = false) (hs : sizeF b = n) (hn8 : n ≤ 8) :
    Calls Tryd.prog 55 #[.int .u64 x, .int .i64 b, .int .i64 o] w fun e w' => ∃ v, e = .returned (.tuple #[v, .int .i64 0]) ∧ w'.ownsRow w.heap.size 5 1 v (bytesF n o x).length ((bytesF n o x).map (Value.int .u8)) ∧ Below w.heap.size w w' := by
  obtain ⟨i0, hi, hz0, hz1, hz2⟩ := info_parts Tryd.info5
  have hlen := bytesF_length n o x
  have hget := bytesF_getD n o x
  generalize hl : bytesF n o x = l at *
  have HL : Hid (l.length = n) := hlen
  have HG : Hid (∀ j, j < n → l.getD j 0 = x / 2 ^ (shF n o j) % 256) := hget
  clear hlen hget hl
  go_enter Tryd.func55, Tryd.ntmps55
  go_wp2_with (first
    | (go_at_call 72; refine (fault_any _ _ _).mono ?_; rintro e w' ⟨rfl, hw⟩; obtain rfl := hw.symm; clear hw)
    | (go_at_call 73; refine (size_any _ _).mono ?_; rintro e w' ⟨rfl, hw⟩; obtain rfl := hw.symm; clear hw)
    | (at_make; refine wpList_make_full _ rfl _ _ 22 rfl w.heap.size 5 i0 (.int .u8 0) 1 Tryd.underlying22 hi hz0 hz1 .i64 .i64 _ _ n rfl rfl (by first | rfl | omega) (by first | rfl | omega) ?b2 ?b3 ?b4 ?_))
  case b2 => rw [hz2]; omega
  case b3 => unfold maxLen; omega
  case b4 => exact Nat.le_refl _
  intro w1 hown0 hgrow
  have hb1 : Below w.heap.size w w1 := (Below.refl _ _).grown hgrow (Nat.le_refl _) (fun k hk => by cases hk)
  rw [toList_madeCells_one, show List.replicate n (Value.int .u8 0) = (partL n 0 l).map (Value.int .u8) from by rw [partL_zero]; simp] at hown0
  clear hgrow
  go_wp2
  go_loopw [22] (fun i wr => ∃ k : Nat, k ≤ n ∧ i = .int .i64 k ∧ wr.ownsRow w.heap.size 5 1 (.slice (some ⟨w.heap.size, 0, none⟩) n n) n ((partL n k l).map (Value.int .u8)) ∧ Below w.heap.size w wr) (fun i _ => n - (intOf i).toNat)
  case atStart => exact ⟨0, by omega, rfl, hown0, hb1⟩
  case round =>
    obtain ⟨k, hk, rfl, hown, hbel⟩ := hrel
    by_cases hlt : k < n
    · have hsh := shF_le n o k hn8 hlt
      have hcell : ∃ u, wr.cell? ⟨w.heap.size, k, none⟩ = some u := by
        rw [hown.cellAt k (by omega)]
        exact ⟨_, List.getElem?_eq_getElem (by rw [List.length_map, partL_length n k l HL.out hk]; exact hlt)⟩
      obtain ⟨u, hu⟩ := hcell
      have hfz := hown.frozenAt k
      have hst := hown.stored k (.int .u8 (l.getD k 0))
      rw [partL_set n k l HL.out hlt] at hst
      have hnb := hbel.grown hst.2 hbel.size (fun j hj => by injection hj with hj; omega)
      rw [HG.out k hlt] at hst hnb
      have HS := hid hst.1
      have HB := hid hnb
      clear hst hnb hown
      go_wp2_with (go_at_call 74; refine (shift_any k n o _ hlt hn8).mono ?_; rintro e w' ⟨rfl, hw⟩; obtain rfl := hw.symm; clear hw)
      go_roundw
      case rel => exact ⟨k + 1, by omega, by go_num, HS.out, HB.out⟩
      case measure => simp [intOf]; omega
    · have hkn : k = n := by omega
      subst hkn
      rw [partL_full _ _ HL.out] at hown
      go_wp2
      go_ret2
      exact ⟨_, rfl, by rw [HL.out]; exact hown, hbel⟩

/-- The number behind k bytes of n. -/
def accF (o : Int) (n : Nat) (zs : List Int) (k : Nat) : Int := if o = 1 then numBE (zs.take k) * 256 ^ (n - k) else numBE (zs.take k).reverse

theorem take_snoc (zs : List Int) (k : Nat) (hk : k < zs.length) : zs.take (k + 1) = zs.take k ++ [zs.getD k 0] := by
  rw [List.take_succ_eq_append_getElem hk]
  simp [List.getD, List.getElem?_eq_getElem hk]

theorem take_bytes {zs : List Int} (h : ∀ j, 0 ≤ zs.getD j 0 ∧ zs.getD j 0 ≤ 255) (k : Nat) : ∀ c ∈ zs.take k, 0 ≤ c ∧ c ≤ 255 := by
  intro c hc
  obtain ⟨j, hj, rfl⟩ := List.getElem_of_mem (List.mem_of_mem_take hc)
  have := h j
  simpa [List.getD, List.getElem?_eq_getElem hj] using this

theorem or_sum (i : Nat) (a b : Int) (ha0 : 0 ≤ a) (ha : a < 18446744073709551616) (hm : a % 2 ^ i = 0) (hb0 : 0 ≤ b) (hb : b < 2 ^ i) (hb64 : b < 18446744073709551616) : bits .or .u64 a b = a + b := by
  obtain ⟨m, rfl⟩ := Int.eq_ofNat_of_zero_le ha0
  obtain ⟨n, rfl⟩ := Int.eq_ofNat_of_zero_le hb0
  have e1 : m % 2 ^ i = 0 := by
    have : ((m % 2 ^ i : Nat) : Int) = 0 := by simpa using hm
    omega
  have e2 : n < 2 ^ i := by
    have : (n : Int) < ((2 ^ i : Nat) : Int) := by simpa using hb
    omega
  rw [u64_or_nat _ _ (by omega) (by omega), nat_join i m n e1 e2]
  omega

theorem or_sum' (i : Nat) (a b : Int) (ha0 : 0 ≤ a) (ha : a < 2 ^ i) (ha64 : a < 18446744073709551616) (hb0 : 0 ≤ b) (hb : b < 18446744073709551616) (hm : b % 2 ^ i = 0) : bits .or .u64 a b = a + b := by
  have h := or_sum i b a hb0 hb hm ha0 ha ha64
  obtain ⟨m, rfl⟩ := Int.eq_ofNat_of_zero_le ha0
  obtain ⟨n, rfl⟩ := Int.eq_ofNat_of_zero_le hb0
  rw [u64_or_nat _ _ (by omega) (by omega)] at h ⊢
  rw [Nat.or_comm, h]; omega

theorem pow256_le (k : Nat) (hk : k ≤ 8) : (256 : Int) ^ k ≤ 18446744073709551616 := by
  have h := Nat.pow_le_pow_right (n := 256) (by decide) hk
  have e : ((256 ^ k : Nat) : Int) ≤ ((256 ^ 8 : Nat) : Int) := by omega
  simpa using e

theorem accF_bound (o : Int) (n : Nat) (zs : List Int) (k : Nat) (hz : zs.length = n) (hn : n ≤ 8) (hk : k ≤ n) (h : ∀ j, 0 ≤ zs.getD j 0 ∧ zs.getD j 0 ≤ 255) : 0 ≤ accF o n zs k ∧ accF o n zs k < 18446744073709551616 := by
  have hl : (zs.take k).length = k := by simp; omega
  have hb := numBE_range (zs.take k) (take_bytes h k)
  have hb' := numBE_range (zs.take k).reverse (fun c hc => take_bytes h k c (List.mem_reverse.1 hc))
  rw [List.length_reverse] at hb'
  rw [hl] at hb hb'
  have hp : (0 : Int) < 256 ^ (n - k) := Int.pow_pos (by decide)
  unfold accF
  split
  · refine ⟨Int.mul_nonneg hb.1 (by omega), ?_⟩
    have h1 : numBE (zs.take k) * 256 ^ (n - k) < 256 ^ k * 256 ^ (n - k) := Int.mul_lt_mul_of_pos_right hb.2 hp
    rw [← Int.pow_add, show k + (n - k) = n from by omega] at h1
    exact Int.lt_of_lt_of_le h1 (pow256_le n hn)
  · exact ⟨hb'.1, Int.lt_of_lt_of_le hb'.2 (pow256_le k (by omega))⟩

theorem accF_step0 (o : Int) (n : Nat) (zs : List Int) (k : Nat) (hz : zs.length = n) (hn : n ≤ 8) (hk : k < n) (h : ∀ j, 0 ≤ zs.getD j 0 ∧ zs.getD j 0 ≤ 255) :
    0 ≤ zs.getD k 0 * 2 ^ (shF n o k) ∧ zs.getD k 0 * 2 ^ (shF n o k) < 18446744073709551616 ∧ bits .or .u64 (accF o n zs k) (zs.getD k 0 * 2 ^ (shF n o k)) = accF o n zs (k + 1) := by
  have hc := h k
  have hl : (zs.take k).length = k := by simp; omega
  have hb := numBE_range (zs.take k) (take_bytes h k)
  have hb' := numBE_range (zs.take k).reverse (fun c hc => take_bytes h k c (List.mem_reverse.1 hc))
  rw [List.length_reverse] at hb'
  rw [hl] at hb hb'
  have hab := accF_bound o n zs k hz hn (by omega) h
  have hab' := accF_bound o n zs (k + 1) hz hn (by omega) h
  have hs := take_snoc zs k (by omega)
  unfold accF shF at *
  by_cases ho : o = 1
  · simp only [if_pos ho] at *
    rw [← pow256]
    have hp : (0 : Int) < 256 ^ (n - 1 - k) := Int.pow_pos (by decide)
    have hnk : (256 : Int) ^ (n - k) = 256 ^ (n - 1 - k) * 256 := by rw [← Int.pow_succ, show (n - 1 - k).succ = n - k from by omega]
    rw [hs, numBE_snoc] at hab' ⊢
    rw [show n - (k + 1) = n - 1 - k from by omega] at hab' ⊢
    have e1 : (numBE (zs.take k) * 256 + zs.getD k 0) * 256 ^ (n - 1 - k) = numBE (zs.take k) * 256 ^ (n - k) + zs.getD k 0 * 256 ^ (n - 1 - k) := by
      rw [hnk, Int.add_mul, Int.mul_assoc, Int.mul_comm 256]
    rw [e1] at hab' ⊢
    have h5 : 0 ≤ zs.getD k 0 * 256 ^ (n - 1 - k) := Int.mul_nonneg hc.1 (by omega)
    have h6 : zs.getD k 0 * 256 ^ (n - 1 - k) ≤ 255 * 256 ^ (n - 1 - k) := Int.mul_le_mul_of_nonneg_right hc.2 (by omega)
    refine ⟨h5, by omega, or_sum (8 * (n - k)) _ _ hab.1 hab.2 ?_ h5 ?_ (by omega)⟩
    · rw [← pow256]; exact Int.mul_emod_left _ _
    · rw [← pow256, hnk]; omega
  · simp only [if_neg ho] at *
    rw [← pow256]
    have hp : (0 : Int) < 256 ^ k := Int.pow_pos (by decide)
    rw [hs, List.reverse_append, List.reverse_singleton, List.singleton_append, numBE_cons, List.length_reverse, hl] at hab' ⊢
    have h5 : 0 ≤ zs.getD k 0 * 256 ^ k := Int.mul_nonneg hc.1 (by omega)
    refine ⟨h5, by omega, ?_⟩
    rw [or_sum' (8 * k) _ _ hab.1 (by rw [← pow256]; exact hb'.2) hab.2 h5 (by omega) (by rw [← pow256]; exact Int.mul_emod_left _ _)]
    omega

theorem accF_step (o : Int) (n : Nat) (zs : List Int) (k : Nat) (hz : zs.length = n) (hn : n ≤ 8) (hk : k < n) (h : ∀ j, 0 ≤ zs.getD j 0 ∧ zs.getD j 0 ≤ 255) :
    bits .or .u64 (accF o n zs k) (IntKind.u64.wrap (zs.getD k 0 * 2 ^ (shF n o k))) = accF o n zs (k + 1) := by
  obtain ⟨h1, h2, h3⟩ := accF_step0 o n zs k hz hn hk h
  rw [IntKind.wrap_u64, Int.emod_eq_of_lt h1 h2, h3]

theorem accF_full (o : Int) (n : Nat) (zs : List Int) (hz : zs.length = n) : accF o n zs n = numF o zs := by
  unfold accF numF
  rw [List.take_of_length_le (by omega)]
  simp

theorem accF_zero (o : Int) (n : Nat) (zs : List Int) : accF o n zs 0 = 0 := by
  simp [accF, numBE]

theorem number_any (a : Option Addr) (cap : Nat) (zs : List Int) (o : Int) (w : World) (hr : Rd w (.slice a zs.length cap) a cap zs) (hn : zs.length ≤ 8) :
    Calls Tryd.prog 91 #[.slice a zs.length cap, .int .i64 o] w fun e w' => e = .returned (.int .u64 (numF o zs)) ∧ ∃ m, w' = w.drewN m := by
  have hcells := hr.cells
  have hby : ∀ j, 0 ≤ zs.getD j 0 ∧ zs.getD j 0 ≤ 255 := fun j => ⟨hr.lo j, hr.hi j⟩
  obtain ⟨n, hlen⟩ : ∃ n, n = zs.length := ⟨_, rfl⟩
  clear hr
  rw [← hlen] at hcells hn ⊢
  have HL : Hid (zs.length = n) := hlen.symm
  have HY := hid hby
  clear hlen hby
  go_enter Tryd.func91, Tryd.ntmps91
  go_wp2
  go_loopw [5, 9] (fun x i wr => ∃ k : Nat, k ≤ n ∧ i = .int .i64 k ∧ x = .int .u64 (accF o n zs k) ∧ ∃ m, wr = w.drewN m) (fun _ i _ => n - (intOf i).toNat)
  case atStart => exact ⟨0, by omega, rfl, by rw [accF_zero], 0, rfl⟩
  case round =>
    obtain ⟨k, hk, rfl, rfl, m, rfl⟩ := hrel
    by_cases hlt : k < n
    · obtain ⟨b, off, rfl, hbw, hc⟩ := hcells (by omega)
      have hck : (w.drewN m).cell? ⟨b, off + k, none⟩ = some (.int .u8 (zs.getD k 0)) := by simpa using hc k hlt
      have hyk := HY.out k
      have hst := accF_step o n zs k HL.out hn hlt HY.out
      have hb1 := accF_bound o n zs k HL.out hn hk HY.out
      have hsh := shF_le n o k hn hlt
      have hkn : (k : Int) < (n : Int) := by omega
      generalize zs.getD k 0 = c at *
      generalize hac : accF o n zs k = ac at *
      generalize hac' : accF o n zs (k + 1) = ac' at *
      have HAC := hid hac'
      generalize hW : w.drewN m = W at *
      have HW := hid hW
      clear hc hcells hac hac' hW
      go_wp2_with fail
      go_quiet ((go_at_call 74; exact Calls.quiet_of_same (shift_any k n o _ hlt hn)))
      go_wp2
      go_roundw
      case rel => exact ⟨k + 1, by omega, by go_num, by rw [HAC.out], m + nq, by rw [← HW.out, World.drewN_drewN]⟩
      case measure => simp [intOf]; omega
    · have hkn : k = n := by omega
      subst hkn
      rw [accF_full _ _ _ HL.out]
      go_wp2
      go_ret
      exact ⟨rfl, m, rfl⟩
theorem Tryd.info23 : (Tryd.prog.info? 23).map (fun i => (i.zero, i.size, i.bytes)) = some (some (.int .u64 0), 1, 8) := by kernel_rfl

/-- The first m numbers of some bytes. -/
def wordsF (n : Nat) (o : Int) (zs : List Int) (m : Nat) : List Int := (List.range m).map (fun i => numF o ((zs.drop (i * n)).take n))

theorem wordsF_length (n : Nat) (o : Int) (zs : List Int) (m : Nat) : (wordsF n o zs m).length = m := by simp [wordsF]
theorem wordsF_getD (n : Nat) (o : Int) (zs : List Int) (m k : Nat) (hk : k < m) : (wordsF n o zs m).getD k 0 = numF o ((zs.drop (k * n)).take n) := by
  simp [wordsF, List.getD, hk]
theorem wordsF_succ (n : Nat) (o : Int) (zs : List Int) (m : Nat) : wordsF n o zs (m + 1) = wordsF n o zs m ++ [numF o ((zs.drop (m * n)).take n)] := by
  simp [wordsF, List.range_succ]

theorem getD_drop_take (zs : List Int) (p n j : Nat) (hj : j < n) : ((zs.drop p).take n).getD j 0 = zs.getD (p + j) 0 := by
  rw [getD_take _ _ _ hj]; simp [List.getD]
theorem getD_drop (zs : List Int) (p j : Nat) : (zs.drop p).getD j 0 = zs.getD (p + j) 0 := by simp [List.getD]

/-- A piece of a slice, from place p on. -/
theorem Rd.piece {w : World} {bk off cap : Nat} {zs : List Int} (h : Rd w (.slice (some ⟨bk, off, none⟩) zs.length cap) (some ⟨bk, off, none⟩) cap zs) (p : Nat) (hp : p < zs.length) :
    Rd w (.slice (some ⟨bk, off + p, none⟩) (zs.drop p).length (cap - p)) (some ⟨bk, off + p, none⟩) (cap - p) (zs.drop p) := by
  have hroom := h.room
  have hmost := h.most
  have hl : (zs.drop p).length = zs.length - p := List.length_drop
  obtain ⟨b', off', hb', hbw, hc⟩ := h.cells (by omega)
  injection hb' with hb'
  injection hb' with e1 e2
  subst e1; subst e2
  refine ⟨rfl, by omega, by omega, fun _ => ⟨bk, off + p, rfl, hbw, fun j hj => ?_⟩, fun j => ?_, fun j => ?_⟩
  · rw [getD_drop, Nat.add_assoc]; exact hc (p + j) (by omega)
  · rw [getD_drop]; exact h.lo _
  · rw [getD_drop]; exact h.hi _

set_option maxHeartbeats 1600000 in
theorem words_ok (a : Option Addr) (cap : Nat) (zs : List Int) (b o : Int) (n m : Nat) (w : World) (hr : Rd w (.slice a zs.length cap) a cap zs) (hf : (faultF b o != 0) = false) (hs : sizeF b = n) (h1 : 1 ≤ n) (h8 : n ≤ 8) (hlen : zs.length ≤ 400) (hm : zs.length = m * n) :
    Calls Tryd.prog 97 #[.slice a zs.length cap, .int .i64 b, .int .i64 o] w fun e w' => ∃ v, e = .returned (.tuple #[v, .int .i64 0]) ∧ w'.ownsRow w.heap.size 23 1 v (wordsF n o zs m).length ((wordsF n o zs m).map (Value.int .u64)) ∧ Below w.heap.size w w' := by
  obtain ⟨i0, hi, hz0, hz1, hz2⟩ := info_parts Tryd.info23
  have hcap := hr.room
  have hmax := hr.most
  unfold maxLen at hmax
  have hmm : m ≤ zs.length := by rw [hm]; exact Nat.le_mul_of_pos_right m h1
  have HR := hid hr
  obtain ⟨len, hl⟩ : ∃ n, n = zs.length := ⟨_, rfl⟩
  have HL := hid hl
  have hd1 : (len : Int) % (n : Int) = 0 := by
    rw [hl, hm]; simp
  have hd2 : (len : Int) / (n : Int) = (m : Int) := by
    rw [hl, hm]; simp; exact Int.mul_ediv_cancel _ (by omega)
  have hd3 : len = m * n := by rw [hl]; exact hm
  rw [← hl] at hcap hlen hmm ⊢
  have HM := hid hd3
  clear hr hm hl hd3
  have HW := hid (wordsF_length n o zs m)
  have HG := hid (wordsF_getD n o zs m)
  generalize hws : wordsF n o zs m = ws at *
  clear hws
  go_enter Tryd.func97, Tryd.ntmps97
  go_wp2_with (first
    | (go_at_call 72; refine (fault_any _ _ _).mono ?_; rintro e w' ⟨rfl, hw⟩; obtain rfl := hw.symm; clear hw)
    | (go_at_call 73; refine (size_any _ _).mono ?_; rintro e w' ⟨rfl, hw⟩; obtain rfl := hw.symm; clear hw)
    | (at_make; refine wpList_make_full _ rfl _ _ 130 rfl w.heap.size 23 i0 (.int .u64 0) 1 Tryd.underlying130 hi hz0 hz1 .i64 .i64 _ _ m rfl rfl (by first | rfl | omega) (by first | rfl | omega) ?b2 ?b3 ?b4 ?_))
  case b2 => rw [hz2]; omega
  case b3 => unfold maxLen; omega
  case b4 => exact Nat.le_refl _
  intro w1 hown0 hgrow
  have hb1 : Below w.heap.size w w1 := (Below.refl _ _).grown hgrow (Nat.le_refl _) (fun k hk => by cases hk)
  rw [toList_madeCells_one, show List.replicate m (Value.int .u64 0) = (partL m 0 ws).map (Value.int .u64) from by rw [partL_zero]; simp] at hown0
  clear hgrow
  go_wp2
  go_loopw [32] (fun i wr => ∃ k : Nat, k ≤ m ∧ i = .int .i64 k ∧ wr.ownsRow w.heap.size 23 1 (.slice (some ⟨w.heap.size, 0, none⟩) m m) m ((partL m k ws).map (Value.int .u64)) ∧ Below w.heap.size w wr) (fun i _ => m - (intOf i).toNat)
  case atStart => exact ⟨0, by omega, rfl, hown0, hb1⟩
  case round =>
    obtain ⟨k, hk, rfl, hown, hbel⟩ := hrel
    by_cases hlt : k < m
    · have hle : (k + 1) * n ≤ m * n := Nat.mul_le_mul_right n hlt
      obtain ⟨p, hp⟩ : ∃ p, p = k * n := ⟨_, rfl⟩
      have hp1 : p + n ≤ len := by rw [HM.out, hp]; rw [Nat.add_mul] at hle; omega
      have hpi : (k : Int) * (n : Int) = (p : Int) := by rw [hp]; simp
      have hpj : ((k : Int) + 1) * (n : Int) = (p : Int) + (n : Int) := by rw [hp, Int.add_mul]; simp
      have hgk := HG.out k hlt
      rw [← hp] at hgk
      obtain ⟨bk, off, rfl, _, _⟩ := (HR.out).cells (by rw [← HL.out]; omega)
      have hrp := ((HR.out).later hbel).piece p (by rw [← HL.out]; omega)
      have hrt := hrp.take n
      have hlp : ((zs.drop p).take n).length = n := by rw [List.length_take, List.length_drop, ← HL.out]; omega
      have hnum := number_any (some ⟨bk, off + p, none⟩) (cap - p) ((zs.drop p).take n) o wr hrt (by omega)
      rw [hlp, ← hgk] at hnum
      have HN := hid hnum
      have hcell : ∃ u, wr.cell? ⟨w.heap.size, k, none⟩ = some u := by
        rw [hown.cellAt k (by omega)]
        exact ⟨_, List.getElem?_eq_getElem (by rw [List.length_map, partL_length m k ws HW.out hk]; exact hlt)⟩
      obtain ⟨u, hu⟩ := hcell
      have hfz := hown.frozenAt k
      have HO := hid hown
      have hkm : (k : Int) < (m : Int) := by omega
      have hpc : p ≠ cap := by omega
      have hpc2 : p + n ≤ cap := by omega
      clear hown hnum hrt hrp hlp hle hp
      generalize hgz : ws.getD k 0 = z at *
      have HZ := hid hgz
      clear hgz hgk
      have hst := (HO.out).stored k (.int .u64 (ws.getD k 0))
      rw [partL_set m k ws HW.out hlt] at hst
      rw [HZ.out] at hst
      have HS := hid hst.1
      clear hst HO
      go_wp2_with fail
      refine (HN.out).mono ?_
      rintro e w2 ⟨rfl, q, rfl⟩
      go_wp2
      go_roundw
      case rel => exact ⟨k + 1, by omega, by go_num, HS.out, (bel_drewN hbel q).setCell (Nat.le_refl _) _⟩
      case measure => simp [intOf]; omega
    · have hkn : k = m := by omega
      subst hkn
      rw [partL_full _ _ HW.out] at hown
      go_wp2
      go_ret2
      exact ⟨_, rfl, by rw [HW.out]; exact hown, hbel⟩
end Go.Proofs.YtgnjicpmfpgdeaaDoor.Sh.Wd
