/-
  Lengths as bytes, run by run: the contract of codec's runs.
-/
import Derived.Test.YtelnefngkdfcoaaGreatPart21
import Derived.Test.YtelnefngkdfcoaaGreatPart09
import Derived.RegionTactic
namespace Go.Proofs.YtelnefngkdfcoaaGreat
open Go.RowKit

def runN (z : Int) (l : List Int) : Nat := (l.takeWhile (· == z)).length
def runsF : Nat → List Int → List Int
  | 0, _ => []
  | _ + 1, [] => []
  | f + 1, z :: l => z :: (vint ((runN z l + 1 : Nat) : Int) ++ runsF f (l.drop (runN z l)))
def runsL (zs : List Int) : List Int := runsF zs.length zs
theorem runN_of {z : Int} : ∀ (k : Nat) (l : List Int), k ≤ l.length → (∀ p, p < k → l.getD p 0 = z) → (k = l.length ∨ l.getD k 0 ≠ z) → runN z l = k
  | 0, [], _, _, _ => rfl
  | 0, x :: l, _, _, h => by
    rcases h with h | h
    · simp at h
    · unfold runN
      rw [List.takeWhile_cons_of_neg (by simpa using h)]; rfl
  | k + 1, [], h, _, _ => by simp at h
  | k + 1, x :: l, hk, h1, h2 => by
    have hx : x = z := by have := h1 0 (by omega); simpa using this
    have ih := runN_of k l (by simpa using hk) (fun p hp => by have := h1 (p + 1) (by omega); simpa using this) (by
      rcases h2 with h2 | h2
      · left; simpa using h2
      · right; simpa using h2)
    unfold runN at ih ⊢
    rw [List.takeWhile_cons_of_pos (by simpa using hx), List.length_cons, ih]
theorem getD_drop0 (l : List Int) (n p : Nat) : (l.drop n).getD p 0 = l.getD (n + p) 0 := by simp [List.getD]
theorem drop_at (zs : List Int) (k : Nat) (hk : k < zs.length) : zs.drop k = zs.getD k 0 :: zs.drop (k + 1) := by
  rw [List.drop_eq_getElem_cons hk]
  simp [List.getD, List.getElem?_eq_getElem hk]
theorem runs_step (zs : List Int) (i j f : Nat) (hi : i < j) (hj : j ≤ zs.length) (hsame : ∀ p, i < p → p < j → zs.getD p 0 = zs.getD i 0) (hend : j = zs.length ∨ zs.getD j 0 ≠ zs.getD i 0) :
    runsF (f + 1) (zs.drop i) = zs.getD i 0 :: (vint ((j - i : Nat) : Int) ++ runsF f (zs.drop j)) := by
  have hr : runN (zs.getD i 0) (zs.drop (i + 1)) = j - i - 1 := runN_of _ _ (by simp; omega) (fun p hp => by rw [getD_drop0]; exact hsame _ (by omega) (by omega)) (by
    rcases hend with h | h
    · left; simp; omega
    · right; rw [getD_drop0, show i + 1 + (j - i - 1) = j from by omega]; exact h)
  rw [drop_at zs i (by omega), runsF, hr, List.drop_drop, show i + 1 + (j - i - 1) = j from by omega, show j - i - 1 + 1 = j - i from by omega]
theorem runs_done (f : Nat) (zs : List Int) (i : Nat) (h : zs.length ≤ i) : runsF f (zs.drop i) = [] := by
  rw [List.drop_eq_nil_of_le h]
  cases f <;> rfl
theorem vint_short (x : Int) (h0 : 0 ≤ x) (h1 : x < 16384) : (vint x).length ≤ 2 := by
  unfold vint
  rw [vintL]
  split
  · simp
  · rw [vintL, if_pos (by omega)]; simp
theorem vint_mid (x : Int) (h0 : 0 ≤ x) (h1 : x < 2097152) : (vint x).length ≤ 3 := by
  unfold vint
  rw [vintL]
  split
  · simp
  · rw [vintL]
    split
    · simp
    · rw [vintL, if_pos (by omega)]; simp
theorem vintL_u8 : ∀ (f : Nat) (x : Int), 0 ≤ x → x < 128 ^ (f + 1) → ∀ y ∈ vintL f x, 0 ≤ y ∧ y ≤ 255
  | 0, x, h0, h1, y, hy => by
    simp [vintL] at hy
    subst hy
    simp at h1; omega
  | f + 1, x, h0, h1, y, hy => by
    rw [vintL] at hy
    split at hy
    · simp at hy; subst hy; omega
    · rcases List.mem_cons.1 hy with rfl | hy
      · omega
      · exact vintL_u8 f (x / 128) (by omega) (by rw [Int.ediv_lt_iff_lt_mul (by decide), ← Int.pow_succ]; exact h1) y hy
theorem vint_u8 (x : Int) (h0 : 0 ≤ x) (h1 : x < 18446744073709551616) (j : Nat) : 0 ≤ (vint x).getD j 0 ∧ (vint x).getD j 0 ≤ 255 := by
  by_cases h : j < (vint x).length
  · have := vintL_u8 9 x h0 (by omega) _ (List.getElem_mem h)
    simpa [List.getD, List.getElem?_eq_getElem h] using this
  · simp [List.getD, List.getElem?_eq_none (show (vint x).length ≤ j by omega)]

theorem runsF_len : ∀ (f : Nat) (zs : List Int), zs.length ≤ 1000 → (runsF f zs).length ≤ 3 * zs.length
  | 0, _, _ => by simp [runsF]
  | _ + 1, [], _ => by simp [runsF]
  | f + 1, z :: l, hl => by
    rw [List.length_cons] at hl
    have hr : runN z l ≤ l.length := by unfold runN; exact (List.takeWhile_sublist _).length_le
    have h1 := runsF_len f (l.drop (runN z l)) (by rw [List.length_drop]; omega)
    have h2 := vint_short ((runN z l + 1 : Nat) : Int) (by omega) (by omega)
    rw [List.length_drop] at h1
    rw [runsF, List.length_cons, List.length_append, List.length_cons]
    omega
theorem runs_len (zs : List Int) (h : zs.length ≤ 1000) : (runsL zs).length ≤ 3 * zs.length := runsF_len zs.length zs h
theorem own_later2 {w w' : World} {B n : Nat} {v : Value} {xs : List Value} {e s : Nat} (h : w.ownsRow B e s v n xs) (hb : Below w.heap.size w w') : w'.ownsRow B e s v n xs := own_laterZ h hb
theorem runsF_u8 : ∀ (f : Nat) (zs : List Int), zs.length ≤ 1000 → (∀ z ∈ zs, 0 ≤ z ∧ z ≤ 255) → ∀ y ∈ runsF f zs, 0 ≤ y ∧ y ≤ 255
  | 0, _, _, _, y, hy => by cases hy
  | _ + 1, [], _, _, y, hy => by cases hy
  | f + 1, z :: l, hl, hz, y, hy => by
    rw [runsF] at hy
    rcases List.mem_cons.1 hy with rfl | hy
    · exact hz _ List.mem_cons_self
    · rcases List.mem_append.1 hy with hy | hy
      · have hr : runN z l ≤ l.length := by unfold runN; exact (List.takeWhile_sublist _).length_le
        rw [List.length_cons] at hl
        exact vintL_u8 9 _ (by omega) (by omega) y hy
      · exact runsF_u8 f _ (by rw [List.length_cons] at hl; rw [List.length_drop]; omega) (fun x hx => hz x (List.mem_cons_of_mem _ (List.mem_of_mem_drop hx))) y hy
theorem runs_u8 (zs : List Int) (hn : zs.length ≤ 1000) (hz : ∀ j, 0 ≤ zs.getD j 0 ∧ zs.getD j 0 ≤ 15) (j : Nat) : 0 ≤ (runsL zs).getD j 0 ∧ (runsL zs).getD j 0 ≤ 255 := by
  by_cases h : j < (runsL zs).length
  · have := runsF_u8 zs.length zs hn (fun z hm => by
      obtain ⟨i, hi, rfl⟩ := List.getElem_of_mem hm
      have := hz i
      simp [List.getD, List.getElem?_eq_getElem hi] at this
      omega) _ (List.getElem_mem h)
    simpa [List.getD, List.getElem?_eq_getElem h] using this
  · simp [List.getD, List.getElem?_eq_none (show (runsL zs).length ≤ j by omega)]
theorem varint_ri (x : Int) (w : World) (h0 : 0 ≤ x) (h1 : x < 18446744073709551616) :
    Calls Tryz.prog 26 #[.int .u64 x] w fun e w' => ∃ a c, e = .returned (.slice a (vint x).length c) ∧ Ri w' .u8 a c (vint x) ∧ Below w.heap.size w w' := by
  refine (var_word x w h0 h1).mono ?_
  rintro e w' ⟨v, rfl, ho, hb⟩
  obtain ⟨a, c, rfl, hr⟩ := Ri.own ho (fun j => wf_mk_u8 (vint_u8 x h0 h1 j).1 (vint_u8 x h0 h1 j).2)
  exact ⟨a, c, rfl, hr, hb⟩

set_option maxHeartbeats 3200000 in
set_option maxRecDepth 100000 in
theorem runs_word (a : Option Addr) (cap : Nat) (zs : List Int) (w : World) (hr : Ri w .i64 a cap zs) (hn : zs.length ≤ 1000) (hz : ∀ j, 0 ≤ zs.getD j 0 ∧ zs.getD j 0 ≤ 255) :
    Calls Tryz.prog 25 #[.slice a zs.length cap] w fun e w' => ∃ v, e = .returned v ∧ w'.ownsRow w.heap.size 5 1 v (runsL zs).length ((runsL zs).map (Value.int .u8)) ∧ Below w.heap.size w w' := by
  obtain ⟨i0, hi, hz0, hz1, hz2⟩ := info_parts Tryz.info5Z
  have HR := hid hr
  have HZ := hid hz
  have hroom := hr.room
  obtain ⟨len, hle⟩ : ∃ n, n = zs.length := ⟨_, rfl⟩
  have HL := hid hle
  rw [← hle] at hn hroom ⊢
  clear hr hle hz
  go_enter Tryz.func25, Tryz.ntmps25
  go_wp2_with fail
  go_loopw [3, 4, 5] (fun v i _ wr => ∃ (k f : Nat) (acc : List Int), k ≤ len ∧ i = .int .i64 (k : Int) ∧ Hid (len - k ≤ f) ∧ Hid (acc ++ runsF f (zs.drop k) = runsL zs) ∧ Hid (acc.length ≤ 3 * k) ∧ Hid (wr.ownsRow w.heap.size 5 1 v acc.length (acc.map (Value.int .u8))) ∧ Hid (Below w.heap.size w wr)) (fun _ i _ _ => len - (intOf i).toNat)
  case atStart => exact ⟨0, len, [], by omega, rfl, by show len - 0 ≤ len; omega, by rw [HL.out]; rfl, by show 0 ≤ 3 * 0; omega, World.ownsRow_nil _ _ _ _, Below.refl _ _⟩
  case round =>
    obtain ⟨k, f, acc, hk, rfl, HF, HACC, HAL, HO, HB⟩ := hrel
    by_cases hlt : k < len
    · have hkl : (k : Int) < (len : Int) := by omega
      go_wp2_with fail
      go_loopw [5] (fun j wr2 => ∃ p : Nat, j = .int .i64 (p : Int) ∧ k < p ∧ p ≤ len ∧ Hid (∀ q, k < q → q < p → zs.getD q 0 = zs.getD k 0) ∧ Hid (wr2.ownsRow w.heap.size 5 1 u3 acc.length (acc.map (Value.int .u8))) ∧ Hid (Below w.heap.size w wr2)) (fun j _ => len - (intOf j).toNat)
      case atStart => exact ⟨k + 1, by go_num, by omega, by omega, fun q h1 h2 => by omega, HO.out, HB.out⟩
      case round =>
        obtain ⟨p, rfl, hp1, hp2, HS, HO2, HB2⟩ := hrel
        by_cases hpl : p < len
        · have hpi : (p : Int) < (len : Int) := by omega
          obtain ⟨b, off, rfl, hbw, hc⟩ := HR.out.cells (by rw [← HL.out]; omega)
          have cp := (HB2.out.cell (p := ⟨b, off + p, none⟩) hbw).trans (hc p (by rw [← HL.out]; exact hpl))
          have ck := (HB2.out.cell (p := ⟨b, off + k, none⟩) hbw).trans (hc k (by rw [← HL.out]; exact hlt))
          clear hc
          have HB3 := hid HB2.out.drew
          have HO3 := hid HO2.out.drew
          by_cases hq : zs.getD p 0 = zs.getD k 0
          · have HS2 : Hid (∀ q, k < q → q < p + 1 → zs.getD q 0 = zs.getD k 0) := fun q h1 h2 => by
              by_cases e : q = p
              · rw [e]; exact hq
              · exact HS.out q h1 (by omega)
            rw [hq] at cp
            clear HS hq HB2 HO2
            generalize zs.getD k 0 = z at *
            go_wp2_with fail
            go_region
            clear cp ck
            generalize wr.drew = W at *
            go_wp2
            exact ⟨⟨p + 1, by go_num, by omega, by omega, HS2.out, HO3.out, HB3.out⟩, by simp [intOf]; omega⟩
          · have HEND : p = zs.length ∨ zs.getD p 0 ≠ zs.getD k 0 := Or.inr hq
            have hqb : (zs.getD p 0 == zs.getD k 0) = false := by rw [beq_eq_false_iff_ne]; exact hq
            clear hq
            clear HO2 HB2 HO HB
            have hzr := HZ.out k
            have HST := hid (runs_step zs k p (f - 1) hp1 (by rw [← HL.out]; exact hp2) HS.out HEND)
            have HF1 : Hid (f - 1 + 1 = f) := by show f - 1 + 1 = f; have := HF.out; omega
            rw [HF1.out] at HST
            have HVI := hid (fun W => varint_ri ((p : Int) - (k : Int)) W (by omega) (by omega))
            have HVL := hid (vint_short ((p : Int) - (k : Int)) (by omega) (by omega))
            have hpk : ((p - k : Nat) : Int) = (p : Int) - (k : Int) := by omega
            rw [hpk] at HST
            have HF2 : Hid (len - p ≤ f - 1) := by show len - p ≤ f - 1; have := HF.out; omega
            have hz256 : zs.getD k 0 % 256 = zs.getD k 0 := by omega
            have hal := HAL.out
            clear hpk HF HF1 HEND HS
            generalize zs.getD p 0 = y at *
            generalize zs.getD k 0 = z at *
            have hz9 := hzr.1
            have hz8 := hzr.2
            clear hzr
            obtain ⟨W, hW⟩ : ∃ x, x = wr.drew := ⟨_, rfl⟩
            have HC0 : Hid (W.cell? ⟨b, off + k, none⟩ = some (.int .i64 z)) := by rw [hW]; exact ck
            go_wp2_with fail
            go_region
            rw [← hW] at HO3 HB3 ⊢
            have ck2 := HC0.out
            clear cp ck hW HC0
            go_wp2_with (at_builtin; refine wpList_append_own _ rfl _ _ 24 rfl w.heap.size 5 i0 (.int .u8 0) 1 1 Tryz.underlying24 hi hz0 hz1 hz2 rfl (by decide) _ _ _ rfl (HO3.out.alloc _) ⟨W.heap.size, 0, none⟩ 1 1 [.int .u8 z] rfl rfl ?c1 ?c2 ?c3 ?c4 ?c5 ?_)
            case c1 =>
              intro j u hj
              match j, hj with
              | 0, hj => simp at hj; subst hj; simp [Addr.add]
            case c2 => intro u hu; simp at hu; subst hu; rfl
            case c3 => unfold maxLen; omega
            case c4 => omega
            case c5 => have := HB3.out.size; simp; omega
            intro v' w1 hown' hgrow _
            have R := own_snocW HB3.out.size HO3.out HB3.out hown' hgrow
            have HO4 := hid R.1
            have HB4 := hid R.2
            clear hown' hgrow R HO3 HB3 ck2
            go_wp2_with fail
            go_at_call 26
            refine (HVI.out w1).mono ?_
            rintro _ w2 ⟨va, vc, rfl, hvr, hvb⟩
            have HO5 := hid (own_later2 HO4.out hvb)
            have HB5 := hid (Bn HB4.out hvb)
            have HVR := hid hvr
            have hsz := HB5.out.size
            clear hvb hvr HVI HO4 HB4
            generalize vint ((p : Int) - (k : Int)) = vi at *
            have hbd : (acc ++ [z]).length + vi.length ≤ 10000000 := by have := HVL.out; simp; omega
            go_wp2_with (at_builtin; refine app_any _ rfl _ _ rfl w.heap.size _ (acc ++ [z]) rfl HO5.out va vc vi rfl HVR.out hbd hsz ?_)
            intro v' w3 hown' hgrow
            have HB6 := hid (HB5.out.grown hgrow (by omega) (fun j hj => (HO5.out.lt j hj).1))
            have HO6 : Hid (w3.ownsRow w.heap.size 5 1 v' (acc ++ [z] ++ vi).length ((acc ++ [z] ++ vi).map (Value.int .u8))) := by
              show World.ownsRow _ _ _ _ _ _ _
              have e1 : (acc ++ [z] ++ vi).length = acc.length + (vi.length + 1) := by simp
              have e2 : (acc ++ [z] ++ vi).map (Value.int .u8) = acc.map (Value.int .u8) ++ Value.int .u8 z :: vi.map (Value.int .u8) := by simp
              rw [e1, e2]; exact hown'
            have HAC : Hid ((acc ++ [z] ++ vi) ++ runsF (f - 1) (zs.drop p) = runsL zs) := by show _ = _; rw [← HACC.out, HST.out]; simp
            have HLE : Hid ((acc ++ [z] ++ vi).length ≤ 3 * p) := by show _ ≤ _; have := HVL.out; simp; omega
            clear hgrow hown' HO5 HB5 HVR hbd HST HACC HVL HAL
            go_wp2
            exact ⟨⟨p, f - 1, acc ++ [z] ++ vi, by omega, rfl, HF2.out, HAC.out, HLE.out, HO6.out, HB6.out⟩, by simp [intOf]; omega⟩
        · have HEND : p = zs.length ∨ zs.getD p 0 ≠ zs.getD k 0 := Or.inl (by rw [← HL.out]; omega)
          have hpi : ¬ (p : Int) < (len : Int) := by omega
          obtain ⟨b, off, rfl, hbw, hc⟩ := HR.out.cells (by rw [← HL.out]; omega)
          have ck := (HB2.out.cell (p := ⟨b, off + k, none⟩) hbw).trans (hc k (by rw [← HL.out]; exact hlt))
          clear hc
          have HB3 := hid HB2.out.drew
          have HO3 := hid HO2.out.drew
          clear HO2 HB2 HO HB
          have hzr := HZ.out k
          have HST := hid (runs_step zs k p (f - 1) hp1 (by rw [← HL.out]; exact hp2) HS.out HEND)
          have HF1 : Hid (f - 1 + 1 = f) := by show f - 1 + 1 = f; have := HF.out; omega
          rw [HF1.out] at HST
          have HVI := hid (fun W => varint_ri ((p : Int) - (k : Int)) W (by omega) (by omega))
          have HVL := hid (vint_short ((p : Int) - (k : Int)) (by omega) (by omega))
          have hpk : ((p - k : Nat) : Int) = (p : Int) - (k : Int) := by omega
          rw [hpk] at HST
          have HF2 : Hid (len - p ≤ f - 1) := by show len - p ≤ f - 1; have := HF.out; omega
          have hz256 : zs.getD k 0 % 256 = zs.getD k 0 := by omega
          have hal := HAL.out
          clear hpk HF HF1 HEND HS
          generalize zs.getD k 0 = z at *
          have hz9 := hzr.1
          have hz8 := hzr.2
          clear hzr
          obtain ⟨W, hW⟩ : ∃ x, x = wr.drew := ⟨_, rfl⟩
          have HC0 : Hid (W.cell? ⟨b, off + k, none⟩ = some (.int .i64 z)) := by rw [hW]; exact ck
          go_wp2_with fail
          go_region
          rw [← hW] at HO3 HB3 ⊢
          have ck2 := HC0.out
          clear ck hW HC0
          go_wp2_with (at_builtin; refine wpList_append_own _ rfl _ _ 24 rfl w.heap.size 5 i0 (.int .u8 0) 1 1 Tryz.underlying24 hi hz0 hz1 hz2 rfl (by decide) _ _ _ rfl (HO3.out.alloc _) ⟨W.heap.size, 0, none⟩ 1 1 [.int .u8 z] rfl rfl ?d1 ?d2 ?d3 ?d4 ?d5 ?_)
          case d1 =>
            intro j u hj
            match j, hj with
            | 0, hj => simp at hj; subst hj; simp [Addr.add]
          case d2 => intro u hu; simp at hu; subst hu; rfl
          case d3 => unfold maxLen; omega
          case d4 => omega
          case d5 => have := HB3.out.size; simp; omega
          intro v' w1 hown' hgrow _
          have R := own_snocW HB3.out.size HO3.out HB3.out hown' hgrow
          have HO4 := hid R.1
          have HB4 := hid R.2
          clear hown' hgrow R HO3 HB3 ck2
          go_wp2_with fail
          go_at_call 26
          refine (HVI.out w1).mono ?_
          rintro _ w2 ⟨va, vc, rfl, hvr, hvb⟩
          have HO5 := hid (own_later2 HO4.out hvb)
          have HB5 := hid (Bn HB4.out hvb)
          have HVR := hid hvr
          have hsz := HB5.out.size
          clear hvb hvr HVI HO4 HB4
          generalize vint ((p : Int) - (k : Int)) = vi at *
          have hbd : (acc ++ [z]).length + vi.length ≤ 10000000 := by have := HVL.out; simp; omega
          go_wp2_with (at_builtin; refine app_any _ rfl _ _ rfl w.heap.size _ (acc ++ [z]) rfl HO5.out va vc vi rfl HVR.out hbd hsz ?_)
          intro v' w3 hown' hgrow
          have HB6 := hid (HB5.out.grown hgrow (by omega) (fun j hj => (HO5.out.lt j hj).1))
          have HO6 : Hid (w3.ownsRow w.heap.size 5 1 v' (acc ++ [z] ++ vi).length ((acc ++ [z] ++ vi).map (Value.int .u8))) := by
            show World.ownsRow _ _ _ _ _ _ _
            have e1 : (acc ++ [z] ++ vi).length = acc.length + (vi.length + 1) := by simp
            have e2 : (acc ++ [z] ++ vi).map (Value.int .u8) = acc.map (Value.int .u8) ++ Value.int .u8 z :: vi.map (Value.int .u8) := by simp
            rw [e1, e2]; exact hown'
          have HAC : Hid ((acc ++ [z] ++ vi) ++ runsF (f - 1) (zs.drop p) = runsL zs) := by show _ = _; rw [← HACC.out, HST.out]; simp
          have HLE : Hid ((acc ++ [z] ++ vi).length ≤ 3 * p) := by show _ ≤ _; have := HVL.out; simp; omega
          clear hgrow hown' HO5 HB5 HVR hbd HST HACC HVL HAL
          go_wp2
          exact ⟨⟨p, f - 1, acc ++ [z] ++ vi, by omega, rfl, HF2.out, HAC.out, HLE.out, HO6.out, HB6.out⟩, by simp [intOf]; omega⟩
    · obtain rfl : k = len := by omega
      have HE : Hid (acc = runsL zs) := by show _ = _; rw [← HACC.out, runs_done f zs k (by rw [← HL.out]; omega)]; simp
      go_wp2
      go_ret
      exact ⟨_, rfl, by rw [← HE.out]; exact HO.out, HB.out⟩
end Go.Proofs.YtelnefngkdfcoaaGreat
