/-
  SHA-256 in a form that the kernel can reckon with: each number is reckoned once.
-/
import Derived.Test.YtgnjicpmfpgdeaaDoorShShaMath
namespace Go.Proofs.YtgnjicpmfpgdeaaDoor.Sh.Sha

/-- f x, where the kernel reckons x first. -/
def force {α : Type} (x : Nat) (f : Nat → α) : α := Nat.rec (f 0) (fun n _ => f n.succ) x
theorem force_eq {α : Type} (x : Nat) (f : Nat → α) : force x f = f x := by cases x <;> rfl

/-- Turned right, at once. -/
def rotQ (n x : Nat) : Nat := x / 2 ^ n + x % 2 ^ n * 2 ^ (32 - n)

theorem rotQ_succ (n x : Nat) (hn : n < 32) (_hx : x < 2 ^ 32) : rotQ n (rot1 x) = rotQ (n + 1) x := by
  have hp : (2 : Nat) ^ (32 - n) = 2 * 2 ^ (31 - n) := by rw [← Nat.pow_succ', show (31 - n).succ = 32 - n from by omega]
  have hq : (2 : Nat) ^ 31 = 2 ^ n * 2 ^ (31 - n) := by rw [← Nat.pow_add, show n + (31 - n) = 31 from by omega]
  have hn0 : (0 : Nat) < 2 ^ n := Nat.two_pow_pos n
  have e1 : rot1 x = x / 2 + 2 ^ n * (x % 2 * 2 ^ (31 - n)) := by
    unfold rot1
    rw [show (2147483648 : Nat) = 2 ^ 31 from rfl, hq, ← Nat.mul_assoc, ← Nat.mul_assoc, Nat.mul_comm (x % 2) (2 ^ n)]
  unfold rotQ
  rw [e1, Nat.add_mul_div_left _ _ hn0, Nat.add_mul_mod_self_left, Nat.div_div_eq_div_mul, ← Nat.pow_succ', hp, show 32 - (n + 1) = 31 - n from by omega]
  have e2 : x % 2 ^ (n + 1) = x % 2 + 2 * (x / 2 % 2 ^ n) := by rw [Nat.pow_succ', Nat.mod_mul]
  rw [e2, Nat.add_mul]
  have e3 : x / 2 % 2 ^ n * (2 * 2 ^ (31 - n)) = 2 * (x / 2 % 2 ^ n) * 2 ^ (31 - n) := by rw [← Nat.mul_assoc, Nat.mul_comm _ 2]
  rw [e3, Nat.add_assoc]

theorem iter_quick (f : Nat → Nat) (Q : Nat → Nat → Nat) (B M : Nat) (h0 : ∀ x, Q 0 x = x) (hf : ∀ x, x < B → f x < B) (hs : ∀ n x, n < M → x < B → Q n (f x) = Q (n + 1) x) (n : Nat) : ∀ x : Nat, n ≤ M → x < B → iter f n x = Q n x := by
  induction n with
  | zero => intro x _ _; rw [h0, iter_zero]
  | succ n ih => intro x hn hx; rw [iter_succ, ih _ (by omega) (hf x hx), hs n x (by omega) hx]

theorem rotQ_zero (x : Nat) : rotQ 0 x = x := by unfold rotQ; rw [Nat.pow_zero, Nat.div_one, Nat.mod_one, Nat.zero_mul, Nat.add_zero]
theorem rotN_quick (n x : Nat) (hn : n ≤ 32) (hx : x < 2 ^ 32) : rotN n x = rotQ n x := iter_quick rot1 rotQ (2 ^ 32) 32 rotQ_zero rot1_lt rotQ_succ n x hn hx

theorem mov_succ (n x : Nat) : mov1 x / 2 ^ n = x / 2 ^ (n + 1) := by unfold mov1; rw [Nat.div_div_eq_div_mul, ← Nat.pow_succ']
theorem movN_quick (n x : Nat) (hn : n ≤ 32) (hx : x < 2 ^ 32) : movN n x = x / 2 ^ n := iter_quick mov1 (fun n x => x / 2 ^ n) (2 ^ 32) 32 (fun x => by rw [Nat.pow_zero, Nat.div_one]) mov1_lt (fun n x _ _ => mov_succ n x) n x hn hx

def sgQ0 (x : Nat) : Nat := rotQ 7 x ^^^ rotQ 18 x ^^^ x / 2 ^ 3
def sgQ1 (x : Nat) : Nat := rotQ 17 x ^^^ rotQ 19 x ^^^ x / 2 ^ 10
def upQ0 (x : Nat) : Nat := rotQ 2 x ^^^ rotQ 13 x ^^^ rotQ 22 x
def upQ1 (x : Nat) : Nat := rotQ 6 x ^^^ rotQ 11 x ^^^ rotQ 25 x

theorem sg0_quick (x : Nat) (h : x < 2 ^ 32) : sg0 x = sgQ0 x := by rw [sg0, sgQ0, rotN_quick _ _ (by decide) h, rotN_quick _ _ (by decide) h, movN_quick _ _ (by decide) h]
theorem sg1_quick (x : Nat) (h : x < 2 ^ 32) : sg1 x = sgQ1 x := by rw [sg1, sgQ1, rotN_quick _ _ (by decide) h, rotN_quick _ _ (by decide) h, movN_quick _ _ (by decide) h]
theorem up0_quick (x : Nat) (h : x < 2 ^ 32) : up0 x = upQ0 x := by rw [up0, upQ0, rotN_quick _ _ (by decide) h, rotN_quick _ _ (by decide) h, rotN_quick _ _ (by decide) h]
theorem up1_quick (x : Nat) (h : x < 2 ^ 32) : up1 x = upQ1 x := by rw [up1, upQ1, rotN_quick _ _ (by decide) h, rotN_quick _ _ (by decide) h, rotN_quick _ _ (by decide) h]

/-- The i-th number w. -/
def wS (bl : List Nat) (i : Nat) : Nat := next bl (sched bl i)

theorem sched_get (bl : List Nat) (n i : Nat) (h : i < n) : (sched bl n).getD i 0 = wS bl i := by
  induction n with
  | zero => omega
  | succ n ih =>
    rw [sched]
    by_cases hi : i < n
    · rw [← ih hi]
      simp [List.getD, List.getElem?_append_left (show i < (sched bl n).length from by rw [sched_length]; exact hi)]
    · have : i = n := by omega
      subst this
      have hl := sched_length bl i
      simp [List.getD, wS, hl]

theorem wS_lt (bl : List Nat) (i : Nat) : wS bl i < 2 ^ 32 := next_lt _ _
theorem wS_low (bl : List Nat) (i : Nat) (h : i < 16) : wS bl i = be4 bl i := by
  rw [wS, next, sched_length, if_pos h]
theorem wS_next (bl : List Nat) (i : Nat) : wS bl (i + 16) = add32 (add32 (add32 (wS bl i) (sgQ0 (wS bl (i + 1)))) (wS bl (i + 9))) (sgQ1 (wS bl (i + 14))) := by
  rw [← sg0_quick _ (wS_lt _ _), ← sg1_quick _ (wS_lt _ _)]
  rw [show wS bl (i + 16) = next bl (sched bl (i + 16)) from rfl, next, sched_length, if_neg (by omega)]
  rw [sched_get _ _ _ (show i + 16 - 16 < i + 16 by omega), sched_get _ _ _ (show i + 16 - 15 < i + 16 by omega), sched_get _ _ _ (show i + 16 - 7 < i + 16 by omega), sched_get _ _ _ (show i + 16 - 2 < i + 16 by omega)]
  rfl

def t1Q (e f g h k w : Nat) : Nat := add32 (add32 (add32 (add32 h (upQ1 e)) ((e &&& f) ^^^ ((e ^^^ 4294967295) &&& g))) k) w
def t2Q (a b c : Nat) : Nat := add32 (upQ0 a) ((a &&& b) ^^^ (a &&& c) ^^^ (b &&& c))

/-- Sixteen numbers w. -/
structure Win where
  w0 : Nat
  w1 : Nat
  w2 : Nat
  w3 : Nat
  w4 : Nat
  w5 : Nat
  w6 : Nat
  w7 : Nat
  w8 : Nat
  w9 : Nat
  w10 : Nat
  w11 : Nat
  w12 : Nat
  w13 : Nat
  w14 : Nat
  w15 : Nat

/-- The rounds of the constants ks, from sixteen numbers and a state on. -/
def go : List Nat → Win → St → St
  | [], _, s => s
  | k :: ks, ⟨w0, w1, w2, w3, w4, w5, w6, w7, w8, w9, w10, w11, w12, w13, w14, w15⟩, ⟨a, b, c, d, e, f, g, h⟩ =>
    force (add32 (add32 (add32 w0 (sgQ0 w1)) w9) (sgQ1 w14)) fun wn =>
    force (t1Q e f g h k w0) fun t1 =>
    force (add32 t1 (t2Q a b c)) fun a' =>
    force (add32 d t1) fun e' =>
    go ks ⟨w1, w2, w3, w4, w5, w6, w7, w8, w9, w10, w11, w12, w13, w14, w15, wn⟩ ⟨a', a, b, c, e', e, f, g⟩

def winAt (bl : List Nat) (i : Nat) : Win := ⟨wS bl (i + 0), wS bl (i + 1), wS bl (i + 2), wS bl (i + 3), wS bl (i + 4), wS bl (i + 5), wS bl (i + 6), wS bl (i + 7), wS bl (i + 8), wS bl (i + 9), wS bl (i + 10), wS bl (i + 11), wS bl (i + 12), wS bl (i + 13), wS bl (i + 14), wS bl (i + 15)⟩

theorem go_rounds (bl : List Nat) (s : St) (hs : s.Ok) : ∀ (m n : Nat), n + m = 64 → go (kL.drop n) (winAt bl n) (rounds (sched bl 64) s n) = rounds (sched bl 64) s 64 := by
  intro m
  induction m with
  | zero =>
    intro n hn
    have : n = 64 := by omega
    subst this
    rw [show kL.drop 64 = [] from rfl, go]
  | succ m ih =>
    intro n hn
    have hk : kL.drop n = kL.getD n 0 :: kL.drop (n + 1) := by
      have hl : n < kL.length := by rw [show kL.length = 64 from rfl]; omega
      rw [List.drop_eq_getElem_cons hl]
      simp [List.getD, List.getElem?_eq_getElem hl]
    have hok := rounds_ok (sched bl 64) s hs n
    rw [← ih (n + 1) (by omega), hk]
    rw [rounds, sched_get _ _ _ (show n < 64 by omega)]
    generalize rounds (sched bl 64) s n = r at *
    obtain ⟨a, b, c, d, e, f, g, h⟩ := r
    rw [winAt, go, force_eq, force_eq, force_eq, force_eq, rnd, t1F, t2F, up0_quick _ hok.a, up1_quick _ hok.e, winAt]
    simp only [Nat.add_zero, ← wS_next]
    rfl

/-- The first sixteen numbers of a block. -/
def win (bl : List Nat) : Win := ⟨be4 bl 0, be4 bl 1, be4 bl 2, be4 bl 3, be4 bl 4, be4 bl 5, be4 bl 6, be4 bl 7, be4 bl 8, be4 bl 9, be4 bl 10, be4 bl 11, be4 bl 12, be4 bl 13, be4 bl 14, be4 bl 15⟩
theorem win_eq (bl : List Nat) : winAt bl 0 = win bl := by
  rw [winAt, win]
  simp only [Nat.zero_add]
  rw [wS_low bl 0 (by decide), wS_low bl 1 (by decide), wS_low bl 2 (by decide), wS_low bl 3 (by decide), wS_low bl 4 (by decide), wS_low bl 5 (by decide), wS_low bl 6 (by decide), wS_low bl 7 (by decide), wS_low bl 8 (by decide), wS_low bl 9 (by decide), wS_low bl 10 (by decide), wS_low bl 11 (by decide), wS_low bl 12 (by decide), wS_low bl 13 (by decide), wS_low bl 14 (by decide), wS_low bl 15 (by decide)]

theorem rounds_zero (ws : List Nat) (s : St) : rounds ws s 0 = s := rfl

/-- A step, so that the kernel can reckon it. -/
def stepQ (s : St) (bl : List Nat) : St :=
  force (be4 bl 0) fun w0 => force (be4 bl 1) fun w1 => force (be4 bl 2) fun w2 => force (be4 bl 3) fun w3 => force (be4 bl 4) fun w4 => force (be4 bl 5) fun w5 => force (be4 bl 6) fun w6 => force (be4 bl 7) fun w7 => force (be4 bl 8) fun w8 => force (be4 bl 9) fun w9 => force (be4 bl 10) fun w10 => force (be4 bl 11) fun w11 => force (be4 bl 12) fun w12 => force (be4 bl 13) fun w13 => force (be4 bl 14) fun w14 => force (be4 bl 15) fun w15 =>
  match go kL ⟨w0, w1, w2, w3, w4, w5, w6, w7, w8, w9, w10, w11, w12, w13, w14, w15⟩ s, s with
  | ⟨a, b, c, d, e, f, g, h⟩, ⟨a', b', c', d', e', f', g', h'⟩ =>
    force (add32 a a') fun a => force (add32 b b') fun b => force (add32 c c') fun c => force (add32 d d') fun d => force (add32 e e') fun e => force (add32 f f') fun f => force (add32 g g') fun g => force (add32 h h') fun h => ⟨a, b, c, d, e, f, g, h⟩

theorem step_quick (s : St) (bl : List Nat) (hs : s.Ok) : step s bl = stepQ s bl := by
  have hgo := go_rounds bl s hs 64 0 (by decide)
  rw [win_eq, List.drop_zero, rounds_zero] at hgo
  rw [step, ← hgo, stepQ, win, force_eq, force_eq, force_eq, force_eq, force_eq, force_eq, force_eq, force_eq, force_eq, force_eq, force_eq, force_eq, force_eq, force_eq, force_eq, force_eq]
  clear hgo hs
  generalize go kL _ s = r
  obtain ⟨a, b, c, d, e, f, g, h⟩ := r
  obtain ⟨a', b', c', d', e', f', g', h'⟩ := s
  show both ⟨a, b, c, d, e, f, g, h⟩ ⟨a', b', c', d', e', f', g', h'⟩ = force (add32 a a') fun a => force (add32 b b') fun b => force (add32 c c') fun c => force (add32 d d') fun d => force (add32 e e') fun e => force (add32 f f') fun f => force (add32 g g') fun g => force (add32 h h') fun h => ⟨a, b, c, d, e, f, g, h⟩
  rw [force_eq, force_eq, force_eq, force_eq, force_eq, force_eq, force_eq, force_eq, both]

/-- As stepQ, the state first. -/
def stepR (s : St) (bl : List Nat) : St := match s with | ⟨a, b, c, d, e, f, g, h⟩ => stepQ ⟨a, b, c, d, e, f, g, h⟩ bl
theorem stepR_eq (s : St) (bl : List Nat) : stepR s bl = stepQ s bl := by cases s; rw [stepR]

theorem blocks_quick (n : Nat) (l : List Nat) (s : St) (h : s.Ok) : blocks n l s = blocksG stepR n l s :=
  blocksG_same step stepR step_ok (fun s l h => by rw [stepR_eq, step_quick s l h]) n l s h

/-- The digest, so that the kernel can reckon it. -/
def digestQ (l : List Nat) : List Nat := bytes (blocksG stepR ((l ++ pad l.length).length / 64) (l ++ pad l.length) start)
theorem digest_quick (l : List Nat) : digest l = digestQ l := by rw [digest, digestQ, blocks_quick _ _ _ start_ok]

theorem abc : digest [97, 98, 99] = [0xba, 0x78, 0x16, 0xbf, 0x8f, 0x01, 0xcf, 0xea, 0x41, 0x41, 0x40, 0xde, 0x5d, 0xae, 0x22, 0x23, 0xb0, 0x03, 0x61, 0xa3, 0x96, 0x17, 0x7a, 0x9c, 0xb4, 0x10, 0xff, 0x61, 0xf2, 0x00, 0x15, 0xad] := by
  rw [digest_quick]
  decide +kernel

end Go.Proofs.YtgnjicpmfpgdeaaDoor.Sh.Sha
