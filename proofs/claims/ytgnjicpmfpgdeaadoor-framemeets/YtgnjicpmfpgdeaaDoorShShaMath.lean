/-
  SHA-256 as plain mathematics over natural numbers: a step, the padding, the digest.
-/
import Derived.Laws.BitsAllLaws
namespace Go.Proofs.YtgnjicpmfpgdeaaDoor.Sh.Sha

/-- Turned right by one place. -/
def rot1 (x : Nat) : Nat := x / 2 + x % 2 * 2147483648
/-- f, n times. -/
def iter (f : Nat → Nat) : Nat → Nat → Nat
  | 0, x => x
  | n + 1, x => iter f n (f x)
theorem iter_zero (f : Nat → Nat) (x : Nat) : iter f 0 x = x := rfl
theorem iter_succ (f : Nat → Nat) (n x : Nat) : iter f (n + 1) x = iter f n (f x) := rfl
theorem iter_lt (f : Nat → Nat) (B : Nat) (hf : ∀ x, x < B → f x < B) (n : Nat) : ∀ x : Nat, x < B → iter f n x < B := by
  induction n with
  | zero => intro x h; exact h
  | succ n ih => intro x h; exact ih (f x) (hf x h)
/-- Moved right by one place. -/
def mov1 (x : Nat) : Nat := x / 2
/-- Turned right by n places. -/
def rotN (n x : Nat) : Nat := iter rot1 n x
/-- Moved right by n places. -/
def movN (n x : Nat) : Nat := iter mov1 n x

def sg0 (x : Nat) : Nat := rotN 7 x ^^^ rotN 18 x ^^^ movN 3 x
def sg1 (x : Nat) : Nat := rotN 17 x ^^^ rotN 19 x ^^^ movN 10 x
def up0 (x : Nat) : Nat := rotN 2 x ^^^ rotN 13 x ^^^ rotN 22 x
def up1 (x : Nat) : Nat := rotN 6 x ^^^ rotN 11 x ^^^ rotN 25 x

/-- A sum cut to 32 bits. -/
def add32 (a b : Nat) : Nat := (a + b) % 4294967296

/-- The i-th number of a block, the highest byte first. -/
def be4 (bl : List Nat) (i : Nat) : Nat := add32 (add32 (add32 (bl.getD (4 * i) 0 * 16777216 % 4294967296) (bl.getD (4 * i + 1) 0 * 65536 % 4294967296)) (bl.getD (4 * i + 2) 0 * 256 % 4294967296)) (bl.getD (4 * i + 3) 0)

/-- The next one of the numbers w. -/
def next (bl l : List Nat) : Nat :=
  if l.length < 16 then be4 bl l.length
  else add32 (add32 (add32 (l.getD (l.length - 16) 0) (sg0 (l.getD (l.length - 15) 0))) (l.getD (l.length - 7) 0)) (sg1 (l.getD (l.length - 2) 0))
/-- The first n numbers w of a block. -/
def sched (bl : List Nat) : Nat → List Nat
  | 0 => []
  | n + 1 => sched bl n ++ [next bl (sched bl n)]

def kL : List Nat := [0x428a2f98, 0x71374491, 0xb5c0fbcf, 0xe9b5dba5, 0x3956c25b, 0x59f111f1, 0x923f82a4, 0xab1c5ed5,
  0xd807aa98, 0x12835b01, 0x243185be, 0x550c7dc3, 0x72be5d74, 0x80deb1fe, 0x9bdc06a7, 0xc19bf174,
  0xe49b69c1, 0xefbe4786, 0x0fc19dc6, 0x240ca1cc, 0x2de92c6f, 0x4a7484aa, 0x5cb0a9dc, 0x76f988da,
  0x983e5152, 0xa831c66d, 0xb00327c8, 0xbf597fc7, 0xc6e00bf3, 0xd5a79147, 0x06ca6351, 0x14292967,
  0x27b70a85, 0x2e1b2138, 0x4d2c6dfc, 0x53380d13, 0x650a7354, 0x766a0abb, 0x81c2c92e, 0x92722c85,
  0xa2bfe8a1, 0xa81a664b, 0xc24b8b70, 0xc76c51a3, 0xd192e819, 0xd6990624, 0xf40e3585, 0x106aa070,
  0x19a4c116, 0x1e376c08, 0x2748774c, 0x34b0bcb5, 0x391c0cb3, 0x4ed8aa4a, 0x5b9cca4f, 0x682e6ff3,
  0x748f82ee, 0x78a5636f, 0x84c87814, 0x8cc70208, 0x90befffa, 0xa4506ceb, 0xbef9a3f7, 0xc67178f2]
def startL : List Nat := [0x6a09e667, 0xbb67ae85, 0x3c6ef372, 0xa54ff53a, 0x510e527f, 0x9b05688c, 0x1f83d9ab, 0x5be0cd19]

/-- A state of eight numbers. -/
structure St where
  a : Nat
  b : Nat
  c : Nat
  d : Nat
  e : Nat
  f : Nat
  g : Nat
  h : Nat

def St.list (s : St) : List Nat := [s.a, s.b, s.c, s.d, s.e, s.f, s.g, s.h]

def t1F (s : St) (k w : Nat) : Nat := add32 (add32 (add32 (add32 s.h (up1 s.e)) ((s.e &&& s.f) ^^^ ((s.e ^^^ 4294967295) &&& s.g))) k) w
def t2F (s : St) : Nat := add32 (up0 s.a) ((s.a &&& s.b) ^^^ (s.a &&& s.c) ^^^ (s.b &&& s.c))
/-- One round. -/
def rnd (s : St) (k w : Nat) : St := ⟨add32 (t1F s k w) (t2F s), s.a, s.b, s.c, add32 s.d (t1F s k w), s.e, s.f, s.g⟩
/-- n rounds. -/
def rounds (ws : List Nat) (s : St) : Nat → St
  | 0 => s
  | n + 1 => rnd (rounds ws s n) (kL.getD n 0) (ws.getD n 0)
/-- The sums of two states. -/
def both (s t : St) : St := ⟨add32 s.a t.a, add32 s.b t.b, add32 s.c t.c, add32 s.d t.d, add32 s.e t.e, add32 s.f t.f, add32 s.g t.g, add32 s.h t.h⟩
/-- A step. -/
def step (s : St) (bl : List Nat) : St := both (rounds (sched bl 64) s 64) s

def start : St := ⟨0x6a09e667, 0xbb67ae85, 0x3c6ef372, 0xa54ff53a, 0x510e527f, 0x9b05688c, 0x1f83d9ab, 0x5be0cd19⟩

/-! The bounds -/

theorem add32_lt (a b : Nat) : add32 a b < 2 ^ 32 := Nat.mod_lt _ (by decide)
theorem rot1_lt (x : Nat) (h : x < 2 ^ 32) : rot1 x < 2 ^ 32 := by unfold rot1; omega
theorem mov1_lt (x : Nat) (h : x < 2 ^ 32) : mov1 x < 2 ^ 32 := by unfold mov1; omega
theorem rotN_lt (n x : Nat) (h : x < 2 ^ 32) : rotN n x < 2 ^ 32 := iter_lt rot1 (2 ^ 32) rot1_lt n x h
theorem movN_lt (n x : Nat) (h : x < 2 ^ 32) : movN n x < 2 ^ 32 := iter_lt mov1 (2 ^ 32) mov1_lt n x h
theorem sg0_lt (x : Nat) (h : x < 2 ^ 32) : sg0 x < 2 ^ 32 := by
  unfold sg0
  exact Nat.xor_lt_two_pow (Nat.xor_lt_two_pow (rotN_lt _ _ h) (rotN_lt _ _ h)) (movN_lt _ _ h)
theorem sg1_lt (x : Nat) (h : x < 2 ^ 32) : sg1 x < 2 ^ 32 := by
  unfold sg1
  exact Nat.xor_lt_two_pow (Nat.xor_lt_two_pow (rotN_lt _ _ h) (rotN_lt _ _ h)) (movN_lt _ _ h)
theorem up0_lt (x : Nat) (h : x < 2 ^ 32) : up0 x < 2 ^ 32 := by
  unfold up0
  exact Nat.xor_lt_two_pow (Nat.xor_lt_two_pow (rotN_lt _ _ h) (rotN_lt _ _ h)) (rotN_lt _ _ h)
theorem up1_lt (x : Nat) (h : x < 2 ^ 32) : up1 x < 2 ^ 32 := by
  unfold up1
  exact Nat.xor_lt_two_pow (Nat.xor_lt_two_pow (rotN_lt _ _ h) (rotN_lt _ _ h)) (rotN_lt _ _ h)

theorem sched_length (bl : List Nat) (n : Nat) : (sched bl n).length = n := by
  induction n with
  | zero => rfl
  | succ n ih => rw [sched, List.length_append, ih]; rfl
theorem next_lt (bl l : List Nat) : next bl l < 2 ^ 32 := by
  unfold next
  split
  · exact add32_lt _ _
  · exact add32_lt _ _
theorem sched_lt (bl : List Nat) (n : Nat) : ∀ x ∈ sched bl n, x < 2 ^ 32 := by
  induction n with
  | zero => intro x h; cases h
  | succ n ih =>
    intro x h
    rw [sched, List.mem_append] at h
    rcases h with h | h
    · exact ih x h
    · rw [List.mem_singleton] at h
      rw [h]; exact next_lt _ _

/-- A state's numbers are below 2 ^ 32. -/
structure St.Ok (s : St) : Prop where
  a : s.a < 2 ^ 32
  b : s.b < 2 ^ 32
  c : s.c < 2 ^ 32
  d : s.d < 2 ^ 32
  e : s.e < 2 ^ 32
  f : s.f < 2 ^ 32
  g : s.g < 2 ^ 32
  h : s.h < 2 ^ 32

theorem rnd_ok (s : St) (k w : Nat) (h : s.Ok) : (rnd s k w).Ok := ⟨add32_lt _ _, h.a, h.b, h.c, add32_lt _ _, h.e, h.f, h.g⟩
theorem rounds_ok (ws : List Nat) (s : St) (h : s.Ok) (n : Nat) : (rounds ws s n).Ok := by
  induction n with
  | zero => exact h
  | succ n ih => exact rnd_ok _ _ _ ih
theorem both_ok (s t : St) : (both s t).Ok := ⟨add32_lt _ _, add32_lt _ _, add32_lt _ _, add32_lt _ _, add32_lt _ _, add32_lt _ _, add32_lt _ _, add32_lt _ _⟩
theorem step_ok (s : St) (bl : List Nat) : (step s bl).Ok := both_ok _ _
theorem start_ok : start.Ok := ⟨by decide, by decide, by decide, by decide, by decide, by decide, by decide, by decide⟩

/-! The digest -/

/-- n blocks, one behind the other, by the step f. -/
def blocksG (f : St → List Nat → St) : Nat → List Nat → St → St
  | 0, _, s => s
  | n + 1, l, s => blocksG f n (l.drop 64) (f s (l.take 64))
theorem blocksG_zero (f : St → List Nat → St) (l : List Nat) (s : St) : blocksG f 0 l s = s := rfl
theorem blocksG_succ (f : St → List Nat → St) (n : Nat) (l : List Nat) (s : St) : blocksG f (n + 1) l s = blocksG f n (l.drop 64) (f s (l.take 64)) := rfl
theorem blocksG_ok (f : St → List Nat → St) (hf : ∀ s l, (f s l).Ok) (n : Nat) : ∀ (l : List Nat) (s : St), s.Ok → (blocksG f n l s).Ok := by
  induction n with
  | zero => intro l s h; exact h
  | succ n ih => intro l s h; rw [blocksG_succ]; exact ih _ _ (hf _ _)
theorem blocksG_same (f g : St → List Nat → St) (hf : ∀ s l, (f s l).Ok) (hfg : ∀ s l, s.Ok → f s l = g s l) (n : Nat) : ∀ (l : List Nat) (s : St), s.Ok → blocksG f n l s = blocksG g n l s := by
  induction n with
  | zero => intro l s _; rfl
  | succ n ih => intro l s h; rw [blocksG_succ, blocksG_succ, ih _ _ (hf _ _), hfg s _ h]
def blocks (n : Nat) (l : List Nat) (s : St) : St := blocksG step n l s
theorem blocks_ok (n : Nat) (l : List Nat) (s : St) (h : s.Ok) : (blocks n l s).Ok := blocksG_ok step step_ok n l s h

/-- The padding of n bytes. -/
def pad (n : Nat) : List Nat := 128 :: List.replicate ((119 - n % 64) % 64) 0 ++ (List.range 8).map fun i => (8 * n) % 2 ^ 64 / 256 ^ (7 - i) % 256
/-- A number as four bytes, the highest one first. -/
def four (x : Nat) : List Nat := [x / 16777216 % 256, x / 65536 % 256, x / 256 % 256, x % 256]
def bytes (s : St) : List Nat := four s.a ++ four s.b ++ four s.c ++ four s.d ++ four s.e ++ four s.f ++ four s.g ++ four s.h
/-- The digest of bytes. -/
def digest (l : List Nat) : List Nat := bytes (blocks ((l ++ pad l.length).length / 64) (l ++ pad l.length) start)

end Go.Proofs.YtgnjicpmfpgdeaaDoor.Sh.Sha
