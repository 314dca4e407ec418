/-
  Plain facts on bits that are put into bytes.
-/
import Derived.Test.YtgecoiakhmnilaaHuffMath
namespace Go.Proofs.Ytgecoiakhmnilaa
namespace Hf

/-- The whole bytes of the n bits of N, the highest one first. -/
def fullB (N n : Nat) : List Int := (List.range (n / 8)).map (fun i => ((N / 2 ^ (n - 8 * (i + 1)) % 256 : Nat) : Int))
theorem fullB_length (N n : Nat) : (fullB N n).length = n / 8 := by simp [fullB]
theorem fullB_getD (N n i : Nat) (h : i < n / 8) : (fullB N n).getD i 0 = ((N / 2 ^ (n - 8 * (i + 1)) % 256 : Nat) : Int) := by
  simp [fullB, List.getD, h]
theorem fullB_rng (N n j : Nat) : 0 ≤ (fullB N n).getD j 0 ∧ (fullB N n).getD j 0 ≤ 255 := by
  by_cases h : j < n / 8
  · rw [fullB_getD N n j h]
    have := Nat.mod_lt (N / 2 ^ (n - 8 * (j + 1))) (show 0 < 256 by decide)
    omega
  · have : (fullB N n)[j]? = none := List.getElem?_eq_none (by rw [fullB_length]; omega)
    simp [List.getD, this]
theorem il_ext {l m : List Int} (h : l.length = m.length) (he : ∀ i, i < l.length → l.getD i 0 = m.getD i 0) : l = m := by
  refine List.ext_getElem h (fun i h1 h2 => ?_)
  have := he i h1
  simpa [List.getD, List.getElem?_eq_getElem h1, List.getElem?_eq_getElem h2] using this

theorem div_up (N c len e : Nat) (hc : c < 2 ^ len) : (N * 2 ^ len + c) / 2 ^ (e + len) = N / 2 ^ e := by
  rw [Nat.add_comm e len, Nat.pow_add, ← Nat.div_div_eq_div_mul, Nat.mul_comm N, Nat.mul_add_div (Nat.two_pow_pos len), Nat.div_eq_of_lt hc, Nat.add_zero]
theorem fullB_keep (N n c len : Nat) (hc : c < 2 ^ len) : (fullB (N * 2 ^ len + c) (n + len)).take (n / 8) = fullB N n := by
  have hle : n / 8 ≤ (n + len) / 8 := Nat.div_le_div_right (by omega)
  refine il_ext (by rw [List.length_take, fullB_length, fullB_length]; omega) (fun i hi => ?_)
  rw [List.length_take, fullB_length] at hi
  have e : ((fullB (N * 2 ^ len + c) (n + len)).take (n / 8)).getD i 0 = (fullB (N * 2 ^ len + c) (n + len)).getD i 0 := by
    simp [List.getD, List.getElem?_take_of_lt (show i < n / 8 from by omega)]
  rw [e, fullB_getD _ _ _ (by omega), fullB_getD _ _ _ (by omega)]
  rw [show n + len - 8 * (i + 1) = (n - 8 * (i + 1)) + len from by omega, div_up N c len _ hc]

theorem or_low (x c len : Nat) (hlen : len ≤ 15) (hc : c < 2 ^ len) : (x * 2 ^ len % 4294967296) ||| c = (x * 2 ^ len + c) % 4294967296 := by
  have e : (4294967296 : Nat) = 2 ^ len * 2 ^ (32 - len) := by
    rw [← Nat.pow_add, show len + (32 - len) = 32 from by omega]
  have h1 : x * 2 ^ len % 4294967296 = (x % 2 ^ (32 - len)) * 2 ^ len := by
    rw [e, Nat.mul_comm x, Nat.mul_mod_mul_left, Nat.mul_comm]
  rw [h1]
  have h2 := Nat.shiftLeft_add_eq_or_of_lt hc (x % 2 ^ (32 - len))
  rw [Nat.shiftLeft_eq] at h2
  rw [← h2, Nat.add_mod, h1]
  have h3 : x % 2 ^ (32 - len) < 2 ^ (32 - len) := Nat.mod_lt _ (Nat.two_pow_pos _)
  have h4 : (x % 2 ^ (32 - len)) * 2 ^ len + 2 ^ len ≤ 4294967296 := by
    have : (x % 2 ^ (32 - len) + 1) * 2 ^ len ≤ 2 ^ (32 - len) * 2 ^ len := Nat.mul_le_mul_right _ h3
    rw [Nat.add_mul, Nat.one_mul, Nat.mul_comm (2 ^ (32 - len)), ← e] at this
    exact this
  rw [Nat.mod_eq_of_lt (show c < 4294967296 from by omega), Nat.mod_eq_of_lt (show (x % 2 ^ (32 - len)) * 2 ^ len + c < 4294967296 from by omega)]

theorem byte_low (N e : Nat) (he : e ≤ 14) : N % 4294967296 / 2 ^ e % 256 = N / 2 ^ e % 256 := by
  have h : ∀ e, e ≤ 14 → N % 4294967296 / 2 ^ e % 256 = N / 2 ^ e % 256 := by
    intro e he
    match e, he with
    | 0, _ => omega
    | 1, _ => omega
    | 2, _ => omega
    | 3, _ => omega
    | 4, _ => omega
    | 5, _ => omega
    | 6, _ => omega
    | 7, _ => omega
    | 8, _ => omega
    | 9, _ => omega
    | 10, _ => omega
    | 11, _ => omega
    | 12, _ => omega
    | 13, _ => omega
    | 14, _ => omega
  exact h e he

theorem mod_step (N len c : Nat) : (N % 4294967296 * 2 ^ len + c) % 4294967296 = (N * 2 ^ len + c) % 4294967296 := by
  rw [Nat.add_mod, Nat.mul_mod, Nat.mod_mod, ← Nat.mul_mod, ← Nat.add_mod]
end Hf
end Go.Proofs.Ytgecoiakhmnilaa
