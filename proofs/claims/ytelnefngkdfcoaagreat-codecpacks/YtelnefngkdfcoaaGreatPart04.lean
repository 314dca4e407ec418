/-
  Bits as the document packs them: bytes whose bits are a row of bits and fewer than eight zeros are the row's packing.
-/
import Derived.Test.YtelnefngkdfcoaaGreatPart03
import Derived.Test.YtelnefngkdfcoaaGreatPart01
namespace Go.Proofs.YtelnefngkdfcoaaGreat
open Hf

def numG (a : Nat) (l : List Nat) : Nat := l.foldl (fun a b => a * 2 + b) a
theorem numG_at : ∀ (l : List Nat) (a : Nat), numG a l = a * 2 ^ l.length + numG 0 l
  | [], a => by simp [numG]
  | b :: l, a => by
    have h1 := numG_at l (a * 2 + b)
    have h2 := numG_at l (0 * 2 + b)
    show numG (a * 2 + b) l = a * 2 ^ (l.length + 1) + numG (0 * 2 + b) l
    rw [h1, h2, Nat.pow_succ, Nat.add_mul, Nat.zero_mul, Nat.zero_add, Nat.mul_assoc, Nat.mul_comm 2, Nat.add_assoc]
theorem numG_app (l m : List Nat) (a : Nat) : numG a (l ++ m) = numG a l * 2 ^ m.length + numG 0 m := by
  rw [show numG a (l ++ m) = numG (numG a l) m from by simp [numG, List.foldl_append], numG_at m]
theorem numG_low (x : Nat) : ∀ n, numG 0 (low x n) = x % 2 ^ n
  | 0 => by simp [low, numG, Nat.mod_one]
  | n + 1 => by
    show numG (0 * 2 + x / 2 ^ n % 2) (low x n) = _
    rw [numG_at, numG_low x n, low_length, Nat.zero_mul, Nat.zero_add, Nat.pow_succ]
    have h := Nat.mod_mul (a := 2 ^ n) (b := 2) (x := x)
    rw [h, Nat.mul_comm, Nat.add_comm]
theorem numG_zeros (p : Nat) : numG 0 (List.replicate p 0) = 0 := by
  induction p with
  | zero => rfl
  | succ p ih => show numG (0 * 2 + 0) (List.replicate p 0) = 0; exact ih
theorem fullB_snoc (N q : Nat) (z : Nat) (hz : z < 256) : fullB (N * 256 + z) (8 * (q + 1)) = fullB N (8 * q) ++ [(z : Int)] := by
  refine il_ext (by rw [List.length_append, fullB_length, fullB_length]; simp) (fun j hj => ?_)
  rw [fullB_length] at hj
  have hq : 8 * (q + 1) / 8 = q + 1 := by omega
  have hq2 : 8 * q / 8 = q := by omega
  rw [hq] at hj
  rw [fullB_getD _ _ _ (by omega)]
  by_cases h : j < q
  · have e : (fullB N (8 * q) ++ [(z : Int)]).getD j 0 = (fullB N (8 * q)).getD j 0 := by
      simp [List.getD, List.getElem?_append_left (show j < (fullB N (8 * q)).length from by rw [fullB_length]; omega)]
    rw [e, fullB_getD _ _ _ (by omega), show 8 * (q + 1) - 8 * (j + 1) = 8 + (8 * q - 8 * (j + 1)) from by omega, Nat.pow_add, ← Nat.div_div_eq_div_mul, show (N * 256 + z) / 2 ^ 8 = N from by omega]
  · obtain rfl : j = q := by omega
    have e : (fullB N (8 * j) ++ [(z : Int)]).getD j 0 = (z : Int) := by
      simp [List.getD, fullB_length, hq2]
    rw [e, Nat.sub_self, Nat.pow_zero, Nat.div_one]
    omega
def bytB (M : List Int) : List Nat := M.flatMap fun z => low z.toNat 8
theorem bytB_length (M : List Int) : (bytB M).length = 8 * M.length := by
  induction M with
  | nil => rfl
  | cons z M ih => rw [show bytB (z :: M) = low z.toNat 8 ++ bytB M from rfl, List.length_append, low_length, ih, List.length_cons]; omega
theorem bytB_snoc (M : List Int) (z : Int) : bytB (M ++ [z]) = bytB M ++ low z.toNat 8 := by simp [bytB]
theorem full_bytes : ∀ (k : Nat) (M : List Int), M.length = k → (∀ z ∈ M, 0 ≤ z ∧ z ≤ 255) → M = fullB (numG 0 (bytB M)) (8 * M.length)
  | 0, M, h, _ => by
    obtain rfl := List.length_eq_zero_iff.1 h
    rfl
  | k + 1, M, h, hM => by
    obtain ⟨M', z, rfl⟩ : ∃ M' z, M = M' ++ [z] := ⟨M.dropLast, M.getLast (by intro e; subst e; cases h), (List.dropLast_concat_getLast _).symm⟩
    have hl : M'.length = k := by simpa using h
    have ih := full_bytes k M' hl (fun y hy => hM y (by simp [hy]))
    have hz := hM z (by simp)
    have e : ((z.toNat : Nat) : Int) = z := by omega
    rw [bytB_snoc, numG_app, low_length, numG_low, Nat.mod_eq_of_lt (show z.toNat < 2 ^ 8 from by omega), List.length_append, List.length_singleton, show (2 : Nat) ^ 8 = 256 from rfl, fullB_snoc _ _ _ (by omega), ← ih, e]
theorem pad_of {n p k : Nat} (h : 8 * k = n + p) (hp : p < 8) : p = padN n := by
  unfold padN
  split <;> omega
theorem pack_bytes (M : List Int) (hM : ∀ z ∈ M, 0 ≤ z ∧ z ≤ 255) (B : List Nat) (p : Nat) (h : bytB M = B ++ List.replicate p 0) (hp : p < 8) : M = packN (numG 0 B) B.length := by
  have h1 := full_bytes M.length M rfl hM
  have h2 : 8 * M.length = B.length + p := by rw [← bytB_length, h]; simp
  rw [h1, h, numG_app, List.length_replicate, numG_zeros, Nat.add_zero, h2, pad_of h2 hp]
  rfl
def bitN (b : Bool) : Nat := if b then 1 else 0
theorem nB_num : ∀ (k : Nat) (bs : List Bool), bs.length = k → nB bs bs.length = numG 0 (bs.map bitN)
  | 0, bs, h => by
    obtain rfl := List.length_eq_zero_iff.1 h
    rfl
  | k + 1, bs, h => by
    obtain ⟨b', z, rfl⟩ : ∃ M' z, bs = M' ++ [z] := ⟨bs.dropLast, bs.getLast (by intro e; subst e; cases h), (List.dropLast_concat_getLast _).symm⟩
    have hl : b'.length = k := by simpa using h
    have ih := nB_num k b' hl
    rw [List.length_append, List.length_singleton, nB_append, ih, List.map_append, numG_app]
    simp [nB, numG, bitN]
theorem bits_low (c : Nat) : ∀ n, (bitsL c n).map bitN = low c n
  | 0 => rfl
  | n + 1 => by
    have ih := bits_low c n
    refine List.ext_getElem (by rw [List.length_map, bitsL_length, low_length]) (fun i h1 h2 => ?_)
    cases i with
    | zero => simp [bitsL, bitAt, low, bitN]; split <;> omega
    | succ i =>
      have e : (low c n)[i]'(by rw [low_length] at h2 ⊢; omega) = ((bitsL c n).map bitN)[i]'(by rw [List.length_map, bitsL_length]; rw [low_length] at h2; omega) := by
        simp only [ih]
      simp only [low, List.getElem_cons_succ]
      rw [e]
      simp only [List.getElem_map, bitsL, List.getElem_range, bitAt]
      rw [show n + 1 - 1 - (i + 1) = n - 1 - i from by omega]
theorem pack_bits (M : List Int) (hM : ∀ z ∈ M, 0 ≤ z ∧ z ≤ 255) (bs : List Bool) (p : Nat) (h : bytB M = bs.map bitN ++ List.replicate p 0) (hp : p < 8) : M = packN (nB bs bs.length) bs.length := by
  have := pack_bytes M hM _ p h hp
  rwa [← nB_num _ _ rfl, List.length_map] at this
end Go.Proofs.YtelnefngkdfcoaaGreat
