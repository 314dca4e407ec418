/-
  Plain facts: what was encoded is decoded, whatever stands behind it.
-/
import Derived.Test.YtgecoiakhmnilaaDecG
namespace Go.Proofs.Ytgecoiakhmnilaa
namespace Hf

/-- A code's first bits, as a number. -/
theorem vb_div (b : List Int) (at' l d : Nat) : vb b at' l = vb b at' (l + d) / 2 ^ d := by
  induction d with
  | zero => simp
  | succ d ih =>
    have := bitV_lt b (at' + (l + d))
    rw [ih, ← Nat.add_assoc, vb, Nat.pow_succ, Nat.mul_comm (2 ^ d) 2, ← Nat.div_div_eq_div_mul, show (vb b at' (l + d) * 2 + bitV b (at' + (l + d))) / 2 = vb b at' (l + d) from by omega]
theorem first_up (zs : List Int) (l d : Nat) : (first zs l + cnt zs l) * 2 ^ (d + 1) ≤ first zs (l + d + 1) := by
  induction d with
  | zero => rw [first]; simp
  | succ d ih =>
    rw [Nat.pow_succ, ← Nat.mul_assoc, show l + (d + 1) + 1 = (l + d + 1) + 1 from by omega, first]
    exact Nat.mul_le_mul_right 2 (Nat.le_trans ih (Nat.le_add_right _ _))
/-- A symbol whose code stands there is found. -/
theorem oneG_hit (zs b : List Int) (at' s L : Nat) (hs : s < zs.length) (hz : zs.getD s 0 = (L : Int)) (hL : L < 16) (h0 : 0 < L) (hr : at' + L ≤ 8 * b.length) (hv : vb b at' L = codeN zs s) :
    ∀ f l, 0 < l → l ≤ L → L < l + f → oneG zs b at' f l = ((s : Int), (L : Int))
  | 0, l, _, h1, h2 => by omega
  | f + 1, l, h, h1, h2 => by
    rw [oneG, if_pos ⟨by omega, by omega⟩]
    by_cases he : l = L
    · subst he; rw [who_some h0 hs hz hv.symm]
    · have hw : who zs l (vb b at' l) = none := who_none (fun t ht htz hc => by
        have c1 := codeN_eq zs t l htz
        have c2 := cnt_take_lt zs t l ht htz h
        have c3 := codeN_eq zs s L hz
        have c4 := first_up zs l (L - l - 1)
        rw [show L - l - 1 + 1 = L - l from by omega, show l + (L - l - 1) + 1 = L from by omega] at c4
        have c5 := vb_div b at' l (L - l)
        rw [show l + (L - l) = L from by omega, hv] at c5
        have c6 : first zs l + cnt zs l ≤ codeN zs s / 2 ^ (L - l) := by
          rw [Nat.le_div_iff_mul_le (Nat.two_pow_pos _)]
          omega
        omega)
      rw [hw]
      exact oneG_hit zs b at' s L hs hz hL h0 hr hv f (l + 1) (by omega) (by omega) (by omega)
theorem oneF_hit (zs b : List Int) (at' s L : Nat) (hs : s < zs.length) (hz : zs.getD s 0 = (L : Int)) (hL : L < 16) (h0 : 0 < L) (hr : at' + L ≤ 8 * b.length) (hv : vb b at' L = codeN zs s) : oneF zs b at' = ((s : Int), (L : Int)) :=
  oneG_hit zs b at' s L hs hz hL h0 hr hv 16 1 (by omega) (by omega) (by omega)

/-- The bits of packed bits are they. -/
theorem bit_byte (x e : Nat) (he : e ≤ 7) : x % 256 / 2 ^ e % 2 = x / 2 ^ e % 2 := by
  rw [show 256 = 2 ^ e * 2 ^ (8 - e) from by rw [← Nat.pow_add, show e + (8 - e) = 8 from by omega], Nat.mod_mul_right_div_self, show 8 - e = (7 - e) + 1 from by omega, Nat.pow_succ, Nat.mod_mul_left_mod]
theorem bit_pack (N n i : Nat) (ts : List Int) (hi : i < n) : bitV (packN N n ++ ts) i = N / 2 ^ (n - 1 - i) % 2 := by
  have hp : n + padN n = 8 * ((n + 7) / 8) := by unfold padN; split <;> omega
  have hl : (packN N n).length = (n + 7) / 8 := packN_length N n
  have h8 : (n + padN n) / 8 = (n + 7) / 8 := by omega
  unfold bitV
  rw [List.getD_eq_getElem?_getD, List.getElem?_append_left (by omega), ← List.getD_eq_getElem?_getD]
  unfold packN
  rw [fullB_getD _ _ _ (by omega), Int.toNat_natCast, bit_byte _ _ (by omega), Nat.div_div_eq_div_mul, ← Nat.pow_add, show n + padN n - 8 * (i / 8 + 1) + (7 - i % 8) = padN n + (n - 1 - i) from by omega, Nat.pow_add, Nat.mul_comm N, ← Nat.div_div_eq_div_mul, Nat.mul_div_cancel_left _ (Nat.two_pow_pos _)]
theorem vb_pack (N n : Nat) (ts : List Int) (p : Nat) : ∀ l, p + l ≤ n → vb (packN N n ++ ts) p l = N / 2 ^ (n - p - l) % 2 ^ l
  | 0, _ => by rw [vb, Nat.pow_zero, Nat.mod_one]
  | l + 1, h => by
    rw [vb, vb_pack N n ts p l (by omega), bit_pack N n (p + l) ts (by omega), show n - p - l = (n - p - (l + 1)) + 1 from by omega, show n - 1 - (p + l) = n - p - (l + 1) from by omega, Nat.pow_succ, ← Nat.div_div_eq_div_mul]
    generalize N / 2 ^ (n - p - (l + 1)) = x
    rw [Nat.pow_succ, Nat.mul_comm (2 ^ l) 2, Nat.mod_mul]
    omega

theorem encN_up (zs ys : List Int) (h : ∀ j, j < ys.length → symC zs ys j < 2 ^ symL zs ys j) (k : Nat) : ∀ d, k + d ≤ ys.length → encN zs ys (k + d) / 2 ^ (encL zs ys (k + d) - encL zs ys k) = encN zs ys k ∧ encL zs ys k ≤ encL zs ys (k + d)
  | 0, _ => by simp
  | d + 1, hd => by
    obtain ⟨h1, h2⟩ := encN_up zs ys h k d (by omega)
    refine ⟨?_, by rw [← Nat.add_assoc, encL]; omega⟩
    rw [← Nat.add_assoc, encN, encL, show encL zs ys (k + d) + symL zs ys (k + d) - encL zs ys k = (encL zs ys (k + d) - encL zs ys k) + symL zs ys (k + d) from by omega, div_up _ _ _ _ (h _ (by omega))]
    exact h1

/-- What was encoded is decoded. -/
theorem back_at {zs ys : List Int} (hc : checkB zs = true) (ha : allHas zs ys = true) (ts : List Int) (k : Nat) (hk : k ≤ ys.length) :
    At zs (packN (encN zs ys ys.length) (encL zs ys ys.length) ++ ts) ys.length (ys.take k) (encL zs ys k) := by
  have hH : ∀ j, j < ys.length → has zs (ys.getD j 0) = true := fun j hj => by
    unfold allHas at ha
    rw [List.all_eq_true] at ha
    refine ha _ ?_
    rw [show ys.getD j 0 = ys[j] from by simp [List.getD, List.getElem?_eq_getElem hj]]; exact List.getElem_mem hj
  have hok : lenOk zs = true := by unfold checkB at hc; rw [Bool.and_eq_true] at hc; exact hc.1
  have hlen := (lenOk_all hok).1
  have hall := (lenOk_all hok).2
  have hS : ∀ j, j < ys.length → ∃ s L : Nat, ys.getD j 0 = (s : Int) ∧ s < zs.length ∧ zs.getD s 0 = (L : Int) ∧ 0 < L ∧ L ≤ 15 ∧ symL zs ys j = L ∧ symC zs ys j = codeN zs s := fun j hj => by
    have h := hH j hj
    unfold has at h
    rw [Bool.and_eq_true, Bool.and_eq_true, decide_eq_true_eq, decide_eq_true_eq, bne_iff_ne] at h
    have hz := hall _ (getD_mem zs (ys.getD j 0).toNat (by omega))
    refine ⟨(ys.getD j 0).toNat, (zs.getD (ys.getD j 0).toNat 0).toNat, by omega, by omega, by omega, by omega, by omega, rfl, rfl⟩
  have hlt : ∀ j, j < ys.length → symC zs ys j < 2 ^ symL zs ys j := fun j hj => by
    obtain ⟨s, L, _, h1, h2, h3, h4, h5, h6⟩ := hS j hj
    rw [h5, h6]; exact codeN_lt hc s L h1 h2 h3 h4
  induction k with
  | zero => exact At.start _ _ _
  | succ k ih =>
    have ih := ih (by omega)
    obtain ⟨s, L, h0, h1, h2, h3, h4, h5, h6⟩ := hS k (by omega)
    have hup := encN_up zs ys hlt (k + 1) (ys.length - (k + 1)) (by omega)
    rw [show k + 1 + (ys.length - (k + 1)) = ys.length from by omega] at hup
    have hE : encL zs ys (k + 1) = encL zs ys k + L := by rw [encL, h5]
    have hN : encN zs ys (k + 1) = encN zs ys k * 2 ^ L + codeN zs s := by rw [encN, h5, h6]
    have hcl := codeN_lt hc s L h1 h2 h3 h4
    have hpl := packN_length (encN zs ys ys.length) (encL zs ys ys.length)
    have hroom : encL zs ys k + L ≤ 8 * (packN (encN zs ys ys.length) (encL zs ys ys.length) ++ ts).length := by
      rw [List.length_append, hpl]; omega
    have hv : vb (packN (encN zs ys ys.length) (encL zs ys ys.length) ++ ts) (encL zs ys k) L = codeN zs s := by
      rw [vb_pack _ _ _ _ _ (by omega), show encL zs ys ys.length - encL zs ys k - L = encL zs ys ys.length - encL zs ys (k + 1) from by omega, hup.1, hN, Nat.mul_comm, Nat.mul_add_mod, Nat.mod_eq_of_lt hcl]
    have hst := ih.step (by rw [List.length_take]; omega) (oneF_hit zs _ (encL zs ys k) s L h1 h2 (by omega) h3 hroom hv) (by omega) h3 hroom
    rw [take_snoc ys k (by omega), h0, hE]
    exact hst
theorem back_eq {zs ys : List Int} (hc : checkB zs = true) (ha : allHas zs ys = true) (ts : List Int) :
    decO zs (packN (encN zs ys ys.length) (encL zs ys ys.length) ++ ts) (ys.length : Int) = (ys, ((encL zs ys ys.length : Nat) : Int), 0) := by
  have h := back_at hc ha ts ys.length (Nat.le_refl _)
  rw [List.take_length] at h
  unfold decO
  rw [hc, if_neg (by decide), if_neg (by omega), Int.toNat_natCast]
  exact h.done rfl
theorem encL_most (zs ys : List Int) (h : ∀ j, symL zs ys j ≤ 15) (k : Nat) : encL zs ys k ≤ 15 * k := by
  induction k with
  | zero => simp [encL]
  | succ k ih => have := h k; rw [encL]; omega
end Hf
end Go.Proofs.Ytgecoiakhmnilaa
