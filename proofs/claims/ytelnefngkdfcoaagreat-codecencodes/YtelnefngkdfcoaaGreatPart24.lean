/-
  A code's tree: the contract of codec's grown.
-/
import Derived.Test.YtelnefngkdfcoaaGreatPart01
import Derived.Test.YtelnefngkdfcoaaGreatPart10
import Derived.Test.YtelnefngkdfcoaaGreatPart23
import Derived.Test.YtelnefngkdfcoaaGreatPart17
import Derived.Test.YtelnefngkdfcoaaGreatPart19
import Derived.Laws.DeepNot64
import Derived.RegionTactic
namespace Go.Proofs.YtelnefngkdfcoaaGreat
open Go.RowKit Hf

theorem flat_ent (T : Tr) (i b : Nat) (hb : b < 2) : (flatN T).getD (i * 2 + b) 0 = ent T i b := by
  unfold ent
  by_cases e : b = 0
  · subst e; rw [if_pos rfl, Nat.add_zero, Nat.mul_comm]; exact flatN_wt T i
  · obtain rfl : b = 1 := by omega
    rw [if_neg (by omega), Nat.mul_comm]; exact flatN_inn T i
theorem flat_setE (T : Tr) (i b : Nat) (x : Int) (hi : i < T.length) (hb : b < 2) : (flatN T).set (i * 2 + b) x = flatN (setE T i b x) := by
  unfold setE
  induction T generalizing i with
  | nil => simp at hi
  | cons y T ih =>
    cases i with
    | zero =>
      by_cases e : b = 0
      · subst e; simp [flatN_cons]
      · obtain rfl : b = 1 := by omega
        simp [flatN_cons]
    | succ i =>
      have := ih i (by simpa using hi)
      rw [show (i + 1) * 2 + b = i * 2 + b + 1 + 1 from by omega]
      simp only [flatN_cons, List.set_cons_succ, List.getD_cons_succ]
      rw [this]
theorem Tryz.info155 : (Tryz.prog.info? 155).map (fun i => (i.zero, i.size, i.bytes)) = some (some (.agg #[.int .i64 0, .int .i64 0]), 2, 16) := by kernel_rfl
def Tm (B : Nat) (w : World) (v : Value) (T : Tr) : Prop := w.ownsRow B 155 2 v T.length ((flatN T).map (Value.int .i64))
theorem Tm.cells {B : Nat} {w : World} {v : Value} {T : Tr} (h : Tm B w v T) (h0 : 0 < T.length) : ∃ g cap, v = .slice (some ⟨g, 0, none⟩) T.length cap ∧ B ≤ g ∧ T.length ≤ cap ∧ cap ≤ maxLen ∧ (∀ i b, i < T.length → b < 2 → w.cell? ⟨g, i * 2 + b, none⟩ = some (.int .i64 (ent T i b))) ∧ ∀ k, w.frozen? ⟨g, k, none⟩ = false := by
  have hr := h
  unfold Tm at hr
  rcases hr.2 with ⟨_, h2⟩ | ⟨g, cap, cur, rfl, hB, hh, hn, hm, _⟩
  · omega
  · refine ⟨g, cap, rfl, hB, hn, hm, fun i b hi hb => ?_, fun k => hr.frozenAt k⟩
    have hlt : i * 2 + b < ((flatN T).map (Value.int .i64)).length := by rw [List.length_map, flatN_length]; omega
    rw [hr.cellAt _ (by omega), ← flat_ent T i b hb]
    simp only [List.length_map] at hlt
    simp [List.getD, List.getElem?_eq_getElem hlt]
theorem Tm.put {B g cap : Nat} {w : World} {T : Tr} (h : Tm B w (.slice (some ⟨g, 0, none⟩) T.length cap) T) (i b : Nat) (x : Int) (hi : i < T.length) (hb : b < 2) : Tm B (w.setCell ⟨g, i * 2 + b, none⟩ (.int .i64 x)) (.slice (some ⟨g, 0, none⟩) T.length cap) (setE T i b x) := by
  unfold Tm at h ⊢
  have hs := (h.stored (i * 2 + b) (.int .i64 x)).1
  rw [← List.map_set, flat_setE T i b x hi hb] at hs
  rw [setE_length]; exact hs

theorem two_new (w : World) (x y : Value) (t : TypeId) : ∀ j u, [x, y][j]? = some u → (w.alloc (.cells #[x, y] t)).cell? (Addr.add ⟨w.heap.size, 0, none⟩ j) = some u := by
  intro j u hj
  have h := heap_new w (.cells #[x, y] t)
  have h2 : (w.alloc (.cells #[x, y] t)).cell? (Addr.add ⟨w.heap.size, 0, none⟩ j) = #[x, y][j]? := by
    rw [Go.WideShapes.add_plain]
    simp only [World.cell?, h, Nat.zero_add]; rfl
  rw [h2, ← hj]
  simp
theorem and_u16 (y : Nat) (h : y < 65536) : bits .and .u16 (y : Int) 1 = ((y % 2 : Nat) : Int) := by
  rw [show (1 : Int) = ((1 : Nat) : Int) from rfl, u16_and_nat y 1 h (by omega), Nat.and_one_is_mod]

set_option maxHeartbeats 6400000 in
set_option maxRecDepth 100000 in
theorem tgrown_word (W w : World) (v : Value) (T : Tr) (P : List (Nat × Nat)) (S : Nat × Nat → Prop) (s c n : Nat) (hown : Tm W.heap.size w v T) (hbel : Below W.heap.size W w) (hT : Tv T P S) (hn : 1 ≤ n) (hn2 : n ≤ 15) (hc : c < 2 ^ n) (hs : s ≤ 1000) (hlen : T.length ≤ 100000)
    (hap : ∀ l p, S (l, p) → l < n → c / 2 ^ (n - l) ≠ p) :
    Calls Tryz.prog 97 #[v, .int .i64 (s : Int), .int .u16 (c : Int), .int .i64 (n : Int)] w fun e w' => ∃ v', e = .returned v' ∧ Tm W.heap.size w' v' (growF s c (n - 1) 0 T) ∧ Below W.heap.size W w' := by
  obtain ⟨i0, hi, hz0, hz1, hz2⟩ := info_parts Tryz.info155
  have hc16 : c < 65536 := Nat.lt_of_lt_of_le hc (by have := Nat.pow_le_pow_right (show 0 < 2 by decide) (show n ≤ 16 by omega); simpa using this)
  have HAP := hid hap
  have HST : Hid (∃ (T' : Tr) (P' : List (Nat × Nat)), Tm W.heap.size w v T' ∧ Tv T' P' S ∧ 0 < T'.length ∧ P'.getD 0 (0, 0) = (n - 1 - (n - 1), c / 2 ^ (n - 1 + 1)) ∧ growF s c (n - 1) 0 T' = growF s c (n - 1) 0 T ∧ T'.length + (n - 1) ≤ 100100) :=
    ⟨T, P, hown, hT, hT.pos, by rw [hT.root, show n - 1 + 1 = n from by omega, Nat.div_eq_of_lt hc, Nat.sub_self], rfl, by omega⟩
  have HB := hid hbel
  clear hown hbel hT hap
  obtain ⟨m0, hm0⟩ : ∃ m, m = n - 1 := ⟨_, rfl⟩
  have HM0 := hid hm0
  rw [← hm0] at HST ⊢
  have HNI : Hid ((n : Int) - 1 = (m0 : Int)) := by show _ = _; omega
  have hm14 : m0 ≤ 14 := by omega
  clear hm0
  go_enter Tryz.func97, Tryz.ntmps97
  go_wp2_with fail
  rw [HNI.out]
  clear HNI
  go_loopw [0, 3, 9, 10] (fun x y z _ wr => ∃ (m at_ : Nat), y = .int .i64 (m : Int) ∧ z = .int .i64 (at_ : Int) ∧ m ≤ m0 ∧ Hid (Below W.heap.size W wr) ∧ Hid (∃ (T' : Tr) (P' : List (Nat × Nat)), Tm W.heap.size wr x T' ∧ Tv T' P' S ∧ at_ < T'.length ∧ P'.getD at_ (0, 0) = (m0 - m, c / 2 ^ (m + 1)) ∧ growF s c m at_ T' = growF s c m0 0 T ∧ T'.length + m ≤ 100100)) (fun _ y _ _ _ => (intOf y).toNat)
  case atStart => exact ⟨m0, 0, rfl, rfl, by omega, HB.out, HST.out⟩
  case round =>
    obtain ⟨m, at_, rfl, rfl, hm, HB1, HX⟩ := hrel
    clear HST HB
    obtain ⟨T', P', hTm, hTv, hat, hP, hg, hln⟩ := HX.out
    clear HX
    obtain ⟨g, cap, hv, hgB, hcap, hcm, hcl, hfz⟩ := hTm.cells hTv.pos
    subst hv
    rcases Nat.eq_zero_or_pos m with h0 | h0
    · subst h0
      obtain ⟨b, hb⟩ : ∃ b, b = c % 2 := ⟨_, rfl⟩
      have hand := and_u16 c hc16
      rw [← hb] at hand
      have hb2 : b < 2 := by omega
      have hbi : (b : Int) < 2 := by omega
      have ce := hcl at_ b hat hb2
      have fe := hfz (at_ * 2 + b)
      have hati : (at_ : Int) < (T'.length : Int) := by omega
      have HG0 : Hid (growF s c m0 0 T = setE T' at_ b (-(s : Int) - 1)) := by show _ = _; rw [← hg, growF, ← hb]
      have HTM := hid (hTm.put at_ b (-(s : Int) - 1) hat hb2)
      have HB3 := hid (HB1.out.setCell (p := ⟨g, at_ * 2 + b, none⟩) hgB (.int .i64 (-(s : Int) - 1)))
      obtain ⟨tl, htl⟩ : ∃ x, x = T'.length := ⟨_, rfl⟩
      rw [← htl] at hat hcap hati HTM
      rw [← htl]
      clear hb hcl hfz hTm hTv hP hg hln htl
      have hnot : bits .xor .i64 (-1) (s : Int) = -(s : Int) - 1 := by rw [i64_not s (by omega)]; omega
      go_wp2_with fail
      go_ret
      refine ⟨_, rfl, ?_, HB3.out⟩
      rw [HG0.out]
      exact HTM.out
    · obtain ⟨q, rfl⟩ : ∃ q, m = q + 1 := ⟨m - 1, by omega⟩
      have hq0 : (0 : Int) < ((q : Int) + 1) := by omega
      obtain ⟨y, hy⟩ : ∃ y, y = c / 2 ^ (q + 1) := ⟨_, rfl⟩
      have hyl : y < 65536 := by rw [hy]; exact Nat.lt_of_le_of_lt (Nat.div_le_self _ _) hc16
      have hsh : (c : Int) / 2 ^ (q + 1) = (y : Int) := by rw [hy]; simp
      have hand := and_u16 y hyl
      obtain ⟨b, hb⟩ : ∃ b, b = y % 2 := ⟨_, rfl⟩
      rw [← hb] at hand
      have hb2 : b < 2 := by omega
      have hbi : (b : Int) < 2 := by omega
      have ce := hcl at_ b hat hb2
      have fe := hfz (at_ * 2 + b)
      have hati : (at_ : Int) < (T'.length : Int) := by omega
      have HG0 : Hid (growF s c (q + 1) at_ T' = if ent T' at_ b = 0 then growF s c q T'.length (setE T' at_ b (T'.length : Int) ++ [(0, 0)]) else growF s c q (ent T' at_ b).toNat T') := by show _ = _; rw [growF, ← hy, ← hb]
      have HY := hid hy
      have HBB := hid hb
      have HTM := hid hTm
      have HTV := hid hTv
      have HPP := hid hP
      have HGG := hid hg
      have HLN := hid hln
      obtain ⟨tl, htl⟩ : ∃ x, x = T'.length := ⟨_, rfl⟩
      have HTL := hid htl
      rw [← htl] at hat hcap hati HG0 HTM
      rw [← htl]
      clear hy hb hcl hfz hTm hTv hP hg hln htl
      have hmi : ((q + 1 : Nat) : Int) = (q : Int) + 1 := by omega
      rw [hmi]
      by_cases he : ent T' at_ b = 0
      · rw [he] at ce
        rw [if_pos he] at HG0
        have hB1s := HB1.out.size
        have HO2 : Hid ((wr.setCell ⟨g, at_ * 2 + b, none⟩ (.int .i64 (tl : Int))).ownsRow W.heap.size 155 2 (.slice (some ⟨g, 0, none⟩) tl cap) tl ((flatN (setE T' at_ b (tl : Int))).map (Value.int .i64))) := by
          have h1 := HTM.out
          rw [HTL.out] at h1 ⊢
          have h2 := h1.put at_ b (T'.length : Int) (by rw [← HTL.out]; exact hat) hb2
          unfold Tm at h2
          rw [setE_length] at h2
          exact h2
        have HNW : Hid (∀ j u, [Value.int .i64 0, Value.int .i64 0][j]? = some u → ((wr.setCell ⟨g, at_ * 2 + b, none⟩ (.int .i64 (tl : Int))).alloc (.cells #[.int .i64 0, .int .i64 0] 155)).cell? (Addr.add ⟨wr.heap.size, 0, none⟩ j) = some u) := by
          have h1 := two_new (wr.setCell ⟨g, at_ * 2 + b, none⟩ (.int .i64 (tl : Int))) (.int .i64 0) (.int .i64 0) 155
          rw [World.size_setCell] at h1
          exact h1
        have htl9 : tl ≤ 100100 := by have := HLN.out; have := HTL.out; omega
        go_wp2_with (at_builtin; refine wpList_append_own _ rfl _ _ 119 rfl W.heap.size 155 i0 (.agg #[.int .i64 0, .int .i64 0]) 2 16 Tryz.underlying119 hi hz0 hz1 hz2 rfl (by decide) _ _ _ rfl (HO2.out.alloc _) ⟨wr.heap.size, 0, none⟩ 1 1 [.int .i64 0, .int .i64 0] rfl rfl HNW.out (by simp [Value.oneCell']) (by unfold maxLen; omega) (by omega) (by simp; omega) ?_)
        intro v' w3 hown3 hgrow3 _
        have HB3 : Hid (Below W.heap.size W w3) := by
          refine ((HB1.out.setCell (p := ⟨g, at_ * 2 + b, none⟩) hgB _).alloc (by simp; omega) _).grown hgrow3 (by simp; omega) (fun k hk => ?_)
          simp only [Value.ownBlock, Option.some.injEq] at hk
          omega
        obtain ⟨T2, hT2⟩ : ∃ x, x = setE T' at_ b (tl : Int) ++ [(0, 0)] := ⟨_, rfl⟩
        have hl2 : T2.length = tl + 1 := by rw [hT2, List.length_append, setE_length, ← HTL.out]; rfl
        have hTm2 : Tm W.heap.size w3 v' T2 := by
          unfold Tm
          rw [hl2, hT2, flatN_app, List.map_append]
          exact hown3
        have HTV2 : Hid (Tv T2 (P' ++ [((P'.getD at_ (0, 0)).1 + 1, 2 * (P'.getD at_ (0, 0)).2 + b)]) S) := by
          have := HTV.out.node at_ b (by rw [← HTL.out]; exact hat) hb2
          rw [← HTL.out, ← hT2] at this
          exact this
        have HP2 : Hid ((P' ++ [((P'.getD at_ (0, 0)).1 + 1, 2 * (P'.getD at_ (0, 0)).2 + b)]).getD tl (0, 0) = (m0 - q, c / 2 ^ (q + 1))) := by
          have h1 := HTV.out.len
          have h2 := HTL.out
          have h3 := half c (q + 1)
          have h4 := HBB.out
          rw [HY.out] at h4
          show _ = _
          rw [h2, ← h1, HPP.out]
          simp only [List.getD, List.getElem?_concat_length, Option.getD_some, Prod.mk.injEq]
          exact ⟨by omega, by omega⟩
        obtain ⟨g3, cap3, hv3, hgB3, hcap3, hcm3, hcl3, hfz3⟩ := hTm2.cells HTV2.out.pos
        subst hv3
        have HTM2 := hid hTm2
        have ce3 := hcl3 at_ b (by omega) hb2
        rw [hT2, ent_app, ent_setE T' at_ b _ (by rw [← HTL.out]; exact hat) at_ b hb2 hb2, if_pos ⟨rfl, rfl⟩] at ce3
        rw [← hT2] at HG0
        rw [hl2] at hcap3 HTM2
        rw [hl2]
        have HL2 := hid hl2
        clear hown3 hgrow3 hT2 hl2 hTm2 hcl3 hfz3 ce fe
        have hati3 : (at_ : Int) < ((tl + 1 : Nat) : Int) := by omega
        go_wp2_with fail
        refine ⟨⟨q, tl, rfl, rfl, by omega, HB3, T2, _, HTM2.out, HTV2.out, by rw [HL2.out]; omega, HP2.out, by rw [← HG0.out]; exact HGG.out, by have := HLN.out; have := HTL.out; rw [HL2.out]; omega⟩, ?_⟩
        simp only [intOf]
        omega
      · have hpos : 0 < ent T' at_ b := by
          rcases Int.lt_trichotomy (ent T' at_ b) 0 with h | h | h
          · exfalso
            have h1 := HTV.out.leaf at_ b (by rw [← HTL.out]; exact hat) hb2 h
            have h3 := half c (q + 1)
            have h4 := HBB.out
            have h5 := HM0.out
            rw [HY.out] at h4
            rw [HPP.out] at h1
            refine HAP.out _ _ h1 (by dsimp only; omega) ?_
            dsimp only
            rw [show n - (m0 - (q + 1) + 1) = q + 1 from by omega]
            omega
          · exact absurd h he
          · exact h
        have hup := HTV.out.up at_ b (by rw [← HTL.out]; exact hat) hb2 hpos
        rw [if_neg he] at HG0
        obtain ⟨e, hee⟩ : ∃ e : Nat, ent T' at_ b = (e : Int) := ⟨_, (Int.toNat_of_nonneg (by omega)).symm⟩
        rw [hee] at HG0 hup ce hpos
        rw [Int.toNat_natCast] at HG0 hup
        have HUP := hid hup
        have he0 : ¬ (e : Int) = 0 := by omega
        clear hup hee he
        go_wp2_with fail
        refine ⟨⟨q, e, rfl, rfl, by omega, HB1, T', P', HTM.out, HTV.out, HUP.out.1, ?_, by rw [← HG0.out]; exact HGG.out, by have := HLN.out; omega⟩, ?_⟩
        · have h3 := half c (q + 1)
          have h4 := HBB.out
          rw [HY.out] at h4
          rw [HUP.out.2, HPP.out]
          simp only [Prod.mk.injEq]
          exact ⟨by omega, by omega⟩
        · simp only [intOf]
          omega
theorem treeOf_no (a : Option Addr) (cap : Nat) (zs : List Int) (w : World) (hr : Ri w .i64 a cap zs) (hc : checkB zs = false) :
    Calls Tryz.prog 69 #[.slice a zs.length cap] w fun e w' => e = .panicked faultC ∧ Below w.heap.size w w' := by
  have HC := hid (codes_no a cap zs w hr hc)
  generalize zs.length = len at *
  clear hr hc
  go_enter Tryz.func69, Tryz.ntmps69
  go_wp2_with fail
  refine HC.out.mono ?_
  rintro _ w1 ⟨rfl, hb1⟩
  go_wp2_with fail
  refine (need_no w1).mono ?_
  rintro _ w2 ⟨rfl, rfl⟩
  exact ⟨rfl, rfl, hb1⟩
set_option maxHeartbeats 6400000 in
set_option maxRecDepth 100000 in
theorem treeOf_word (a : Option Addr) (cap : Nat) (zs : List Int) (w : World) (hr : Ri w .i64 a cap zs) (hc : checkB zs = true) :
    Calls Tryz.prog 69 #[.slice a zs.length cap] w fun e w' => ∃ v, e = .returned v ∧ Tm w.heap.size w' v (treeG zs zs.length) ∧ Below w.heap.size w w' := by
  have HC := hid (codes_word a cap zs w hr hc)
  have HCB := hid hc
  have hok : lenOk zs = true := by unfold checkB at hc; rw [Bool.and_eq_true] at hc; exact hc.1
  have hlen := (lenOk_all hok).1
  have HA := hid (lenOk_all hok).2
  have HR := hid hr
  obtain ⟨len, hl⟩ : ∃ n, n = zs.length := ⟨_, rfl⟩
  have HL := hid hl
  rw [← hl] at hlen HC ⊢
  clear hr hc hok hl
  go_enter Tryz.func69, Tryz.ntmps69
  go_wp2_with fail
  refine HC.out.mono ?_
  rintro _ w0 ⟨cv, rfl, hown1, hb1⟩
  go_wp2_with fail
  refine (need_yes w0).mono ?_
  rintro _ w1 ⟨rfl, rfl⟩
  have HO1 := hid hown1
  have HB1 := hid hb1
  have hw1 := hb1.size
  clear HC hown1 hb1
  go_wp2_with fail
  have HT0 : Hid (Tm w1.heap.size (w1.alloc (.cells #[.int .i64 0, .int .i64 0] 155)) (.slice (some ⟨w1.heap.size, 0, none⟩) 1 1) (treeG zs 0)) := by
    unfold Tm
    exact ⟨rfl, .inr ⟨w1.heap.size, 1, _, rfl, Nat.le_refl _, heap_new _ _, Nat.le_refl _, by unfold maxLen; omega, rfl, rfl⟩⟩
  have HB0 := hid (bel_alloc w1 (.cells #[.int .i64 0, .int .i64 0] 155))
  go_loopw [5, 6, 7, 20] (fun t _ _ i wr => ∃ k : Nat, k ≤ len ∧ i = .int .i64 k ∧ Hid (Below w1.heap.size w1 wr) ∧ Hid (Tm w1.heap.size wr t (treeG zs k))) (fun _ _ _ i _ => len - (intOf i).toNat)
  case atStart => exact ⟨0, by omega, rfl, HB0, HT0⟩
  case round =>
    obtain ⟨k, hk, rfl, HB, HTM⟩ := hrel
    clear HT0 HB0
    by_cases hlt : k < len
    · have hkl : (k : Int) < (len : Int) := by omega
      have HZ : Hid (k < zs.length) := by show _ < _; rw [← HL.out]; exact hlt
      obtain ⟨b, off, rfl, hbw, hc⟩ := (HR.out).cells (by rw [← HL.out]; omega)
      have ck : wr.cell? ⟨b, off + k, none⟩ = some (.int .i64 (zs.getD k 0)) := ((Bn HB1.out HB.out).cell (p := ⟨b, off + k, none⟩) hbw).trans (hc k HZ.out)
      have hrng := HA.out _ (getD_mem zs k HZ.out)
      clear hc
      by_cases hz : 0 < zs.getD k 0
      · have hcl := codesL_length zs
        have how := own_later HO1.out HB.out
        rcases how.2 with ⟨_, h2⟩ | ⟨gc, capc, curc, hv, hgB, hgc, hnc, hcm, _, _⟩
        · rw [hcl, ← HL.out] at h2; omega
        · subst hv
          have hlc : k < ((codesL zs).map (Value.int .u16)).length := by rw [List.length_map, hcl]; exact HZ.out
          obtain ⟨n, hn⟩ : ∃ n : Nat, zs.getD k 0 = (n : Int) := ⟨(zs.getD k 0).toNat, by omega⟩
          rw [hn] at hrng hz ck
          have hcd : codeN zs k < 2 ^ n := codeN_lt HCB.out k n HZ.out hn (by omega) (by omega)
          have h15 : 2 ^ n ≤ 2 ^ 15 := Nat.pow_le_pow_right (by decide) (by omega)
          have hcF : (codesL zs).getD k 0 = (codeN zs k : Int) := by
            rw [codesL_getD zs k HZ.out]
            unfold codeF
            rw [hn, if_pos hz, Nat.mod_eq_of_lt (by simp at h15; omega)]
          have cc : wr.cell? ⟨gc, k, none⟩ = some (.int .u16 (codeN zs k : Int)) := by
            rw [how.cellAt k (by simpa using hlc), ← hcF]
            rw [List.length_map] at hlc
            simp [List.getD, List.getElem?_eq_getElem hlc]
          rw [hcl, ← HL.out]
          have hcl2 : (codesL zs).length = len := by rw [hcl, HL.out]
          obtain ⟨P, hTv, hTl⟩ := treeG_tv HCB.out k (by rw [← HL.out]; exact hk)
          have hap := coS_apart (zs := zs) k n HZ.out hn
          have HG := hid (tgrown_word w1 wr u5 (treeG zs k) P (coS zs (k + 1)) k (codeN zs k) n HTM.out HB.out (hTv.mono (fun x ⟨s, hs, hx⟩ => ⟨s, by omega, hx⟩)) (by omega) (by omega) hcd (by omega) (by omega) hap)
          have HE : Hid (treeG zs (k + 1) = growF k (codeN zs k) (n - 1) 0 (treeG zs k)) := by
            show _ = _
            rw [treeG, hn, if_pos hz, Int.toNat_natCast]
          clear how hlc hcd h15 hcF hcl hcl2 hTv hTl hap hn HTM HB
          go_wp2_with fail
          refine HG.out.mono ?_
          rintro _ w4 ⟨v4, rfl, hT4, hb4⟩
          have HT4 : Hid (Tm w1.heap.size w4 v4 (treeG zs (k + 1))) := by show Tm _ _ _ _; rw [HE.out]; exact hT4
          have HB4 := hid hb4
          clear hT4 hb4 HG HE
          go_wp2_with fail
          exact ⟨⟨k + 1, by omega, rfl, HB4, HT4⟩, by simp only [intOf]; omega⟩
      · have HE : Hid (treeG zs (k + 1) = treeG zs k) := by
          show _ = _
          rw [treeG, if_neg hz]
        rw [← HE.out] at HTM
        generalize zs.getD k 0 = z at *
        go_wp2_with fail
        exact ⟨⟨k + 1, by omega, rfl, HB, HTM⟩, by simp only [intOf]; omega⟩
    · have : k = len := by omega
      subst this
      go_wp2_with fail
      go_ret
      refine ⟨_, rfl, ?_, Bn HB1.out HB.out⟩
      have := HTM.out
      unfold Tm at this ⊢
      rcases this.2 with h | ⟨g, cp, cur, h1, h2, h3⟩
      · exact ⟨this.1, .inl h⟩
      · exact ⟨this.1, .inr ⟨g, cp, cur, h1, Nat.le_trans hw1 h2, h3⟩⟩
end Go.Proofs.YtelnefngkdfcoaaGreat
/-
  Bits out of bytes: the contract of the reader's bit.
-/
namespace Go.Proofs.YtelnefngkdfcoaaGreat
open Go.RowKit

abbrev Bst := List Int × Nat × Nat
def bitR : Bst → Option (Nat × Bst)
  | ([], _, 0) => none
  | (z :: zs, _, 0) => some (z.toNat / 2 ^ 7 % 2, (zs, z.toNat, 7))
  | (zs, l, n + 1) => some (l / 2 ^ n % 2, (zs, l, n))
structure Fg (g : Nat) (w w' : World) : Prop where
  size : w'.heap.size = w.heap.size
  same : ∀ i, i ≠ g → w'.heap[i]? = w.heap[i]?
theorem Fg.refl (g : Nat) (w : World) : Fg g w w := ⟨rfl, fun _ _ => rfl⟩
theorem Fg.trans {g : Nat} {a b c : World} (h : Fg g a b) (k : Fg g b c) : Fg g a c := ⟨k.size.trans h.size, fun i hi => (k.same i hi).trans (h.same i hi)⟩
theorem Fg.put {g i : Nat} {w w' : World} (h : Fg g w w') (x : Value) : Fg g w (w'.setCell ⟨g, i, none⟩ x) := ⟨by simpa using h.size, fun j hj => (Below.heap_setCell w' ⟨g, i, none⟩ x j hj).trans (h.same j hj)⟩
theorem Fg.drew {g : Nat} {w w' : World} (h : Fg g w w') : Fg g w w'.drew := ⟨h.size, h.same⟩
def Rk (w0 w : World) (g : Nat) (s : Bst) : Prop := s.2.1 < 256 ∧ s.2.2 ≤ 8 ∧ ∃ a cap, Rr w0 w g 82 [.int .u8 (s.2.1 : Int), .int .i64 (s.2.2 : Int)] a cap s.1
theorem Rr.one {w0 w : World} {g : Nat} {t : TypeId} {x y : Value} {a : Option Addr} {cap : Nat} {zs : List Int} (h : Rr w0 w g t [x, y] a cap zs) (u : Value) : Rr w0 (w.setCell ⟨g, 1, none⟩ u) g t [u, y] a cap zs := by
  refine ⟨?_, h.row, h.bel.setCell (show w0.heap.size ≤ (Addr.mk g 1 none).block from h.ge) _, h.ge⟩
  rw [Joins.block_setCell h.blk]; simp
theorem Rr.two {w0 w : World} {g : Nat} {t : TypeId} {x y : Value} {a : Option Addr} {cap : Nat} {zs : List Int} (h : Rr w0 w g t [x, y] a cap zs) (u : Value) : Rr w0 (w.setCell ⟨g, 2, none⟩ u) g t [x, u] a cap zs := by
  refine ⟨?_, h.row, h.bel.setCell (show w0.heap.size ≤ (Addr.mk g 2 none).block from h.ge) _, h.ge⟩
  rw [Joins.block_setCell h.blk]; simp
theorem Rr.drew {w0 w : World} {g : Nat} {t : TypeId} {tl : List Value} {a : Option Addr} {cap : Nat} {zs : List Int} (h : Rr w0 w g t tl a cap zs) : Rr w0 w.drew g t tl a cap zs := ⟨h.blk, h.row, h.bel.drew, h.ge⟩

def BitPost (w0 w : World) (g : Nat) (s : Bst) (e : Ending) (w' : World) : Prop :=
  match bitR s with
  | none => e = .panicked faultC ∧ w' = w
  | some (b, s') => e = .returned (.int .i64 (b : Int)) ∧ Rk w0 w' g s' ∧ Fg g w w'

set_option maxHeartbeats 1600000 in
set_option maxRecDepth 100000 in
theorem bit_word (w0 w : World) (g : Nat) (s : Bst) (h : Rk w0 w g s) : Calls Tryz.prog 101 #[.pointer (some ⟨g, 0, none⟩)] w (BitPost w0 w g s) := by
  obtain ⟨zs, la, n⟩ := s
  obtain ⟨hla, hn8, a, cap, hR⟩ := h
  dsimp only at *
  have c1 := Joins.cell_of_block hR.blk 1
  have c2 := Joins.cell_of_block hR.blk 2
  have u1 := Joins.unfrozen_of_block hR.blk 1
  have u2 := Joins.unfrozen_of_block hR.blk 2
  simp only [List.getElem?_toArray, List.getElem?_cons_zero, List.getElem?_cons_succ] at c1 c2
  cases n with
  | zero =>
    simp only [Int.natCast_zero] at c2
    cases zs with
    | nil =>
      have HN := hid (next_none w0 w g 82 _ a cap hR)
      unfold BitPost
      simp only [bitR]
      go_enter Tryz.func101, Tryz.ntmps101
      go_wp2_with fail
      go_at_call 85
      refine HN.out.mono ?_
      rintro _ w1 ⟨rfl, hw⟩
      obtain rfl := hw.symm
      exact ⟨rfl, rfl, rfl⟩
    | cons z zs =>
      have HN := hid (next_some w0 w g 82 _ a cap z zs hR)
      have hz8 := wf_u8 (by have := hR.row.fits 0; simpa using this : (Lit.int .u8 z).wf = true)
      obtain ⟨zn, hzn⟩ := Int.eq_ofNat_of_zero_le hz8.1
      subst hzn
      have hzl : zn < 256 := by omega
      unfold BitPost
      simp only [bitR, Int.toNat_natCast]
      obtain ⟨y, hy⟩ : ∃ y, y = zn / 2 ^ 7 := ⟨_, rfl⟩
      have hyl : y < 256 := by rw [hy]; exact Nat.lt_of_le_of_lt (Nat.div_le_self _ _) hzl
      have hsh : (zn : Int) / 2 ^ 7 = (y : Int) := by rw [hy]; simp
      have hsh2 : (zn : Int) / 128 = (y : Int) := by rw [← hsh]; rfl
      have hand := and_bit y (by omega)
      rw [← hy]
      have HRR := hid hR
      clear hy hR u1 u2 hz8
      go_enter Tryz.func101, Tryz.ntmps101
      go_wp2_with fail
      go_at_call 85
      refine HN.out.mono ?_
      rintro _ w1 ⟨rfl, a', c', rfl, hr'⟩
      have hR1 := HRR.out.put hr'
      have f1 := Joins.cell_of_block hR1.blk 1
      have f2 := Joins.cell_of_block hR1.blk 2
      have v1 := Joins.unfrozen_of_block hR1.blk 1
      have v2 := Joins.unfrozen_of_block hR1.blk 2
      simp only [List.getElem?_toArray, List.getElem?_cons_zero, List.getElem?_cons_succ] at f1 f2
      have HF0 := hid ((Fg.refl g w).put (i := 0) (.slice a' zs.length c'))
      have HR1 := hid hR1
      clear hR1 hr' HN HRR c1 c2
      generalize w.setCell ⟨g, 0, none⟩ (.slice a' zs.length c') = W1 at *
      have HR2 : Hid (Rr w0 (((W1.setCell ⟨g, 1, none⟩ (.int .u8 (zn : Int))).setCell ⟨g, 2, none⟩ (.int .i64 8)).setCell ⟨g, 2, none⟩ (.int .i64 7)) g 82 [.int .u8 (zn : Int), .int .i64 7] a' c' zs) := (((HR1.out.one (.int .u8 (zn : Int))).two (.int .i64 8)).two (.int .i64 7))
      have HF := hid (((HF0.out.put (i := 1) (.int .u8 (zn : Int))).put (i := 2) (.int .i64 8)).put (i := 2) (.int .i64 7))
      clear HF0 HR1
      go_wp2_with fail
      clear f1 f2 v1 v2
      generalize ((W1.setCell ⟨g, 1, none⟩ (.int .u8 (zn : Int))).setCell ⟨g, 2, none⟩ (.int .i64 8)).setCell ⟨g, 2, none⟩ (.int .i64 7) = W2 at *
      have e1 := Joins.cell_of_block HR2.out.blk 1
      have e2 := Joins.cell_of_block HR2.out.blk 2
      simp only [List.getElem?_toArray, List.getElem?_cons_zero, List.getElem?_cons_succ] at e1 e2
      have HRD := hid HR2.out.drew
      have HFD := hid HF.out.drew
      clear HR2 HF
      go_region
      clear e1 e2
      generalize W2.drew = W3 at *
      go_wp2
      go_ret
      exact ⟨rfl, ⟨hzl, by show 7 ≤ 8; omega, _, _, HRD.out⟩, HFD.out⟩
  | succ n =>
    have HR2 := hid (hR.two (.int .i64 (n : Int)))
    have hni : ((n + 1 : Nat) : Int) = (n : Int) + 1 := by omega
    rw [hni] at c2
    have hnb : (((n : Int) + 1) == 0) = false := by rw [beq_eq_false_iff_ne]; omega
    have HF := hid ((Fg.refl g w).put (i := 2) (.int .i64 (n : Int)))
    have hn7 : n ≤ 7 := by omega
    unfold BitPost
    simp only [bitR]
    obtain ⟨y, hy⟩ : ∃ y, y = la / 2 ^ n := ⟨_, rfl⟩
    have hyl : y < 256 := by rw [hy]; exact Nat.lt_of_le_of_lt (Nat.div_le_self _ _) hla
    have hsh : (la : Int) / 2 ^ n = (y : Int) := by rw [hy]; simp
    have hand := and_bit y (by omega)
    rw [← hy]
    clear hy hR hni u1
    go_enter Tryz.func101, Tryz.ntmps101
    go_wp2_with fail
    clear c1 c2 u2
    generalize w.setCell ⟨g, 2, none⟩ (.int .i64 (n : Int)) = W2 at *
    have e1 := Joins.cell_of_block HR2.out.blk 1
    have e2 := Joins.cell_of_block HR2.out.blk 2
    simp only [List.getElem?_toArray, List.getElem?_cons_zero, List.getElem?_cons_succ] at e1 e2
    have HRD := hid HR2.out.drew
    have HFD := hid HF.out.drew
    clear HR2 HF
    go_region
    clear e1 e2
    generalize W2.drew = W3 at *
    go_wp2
    go_ret
    exact ⟨rfl, ⟨hla, by show n ≤ 8; omega, _, _, HRD.out⟩, HFD.out⟩
end Go.Proofs.YtelnefngkdfcoaaGreat
