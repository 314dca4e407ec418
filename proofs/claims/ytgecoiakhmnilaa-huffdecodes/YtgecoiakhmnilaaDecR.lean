/-
  The contract of the document's Decode.
-/
import Derived.Test.YtgecoiakhmnilaaOneR
namespace Go.Proofs.Ytgecoiakhmnilaa
open Go.RowKit Hf

namespace Hf
theorem oneG_cases (zs b : List Int) (at' : Nat) : ∀ f l, 0 < l → oneG zs b at' f l = (-1, 0) ∨ ∃ l' s : Nat, 0 < l' ∧ l' < 16 ∧ at' + l' ≤ 8 * b.length ∧ s < zs.length ∧ oneG zs b at' f l = ((s : Int), (l' : Int))
  | 0, _, _ => Or.inl rfl
  | f + 1, l, h => by
    rw [oneG]
    split
    · rename_i hc
      cases hw : who zs l (vb b at' l) with
      | none => exact oneG_cases zs b at' f (l + 1) (by omega)
      | some s =>
        have h2 := List.mem_of_find?_eq_some hw
        rw [List.mem_range] at h2
        exact Or.inr ⟨l, s, h, hc.1, hc.2, h2, rfl⟩
    · exact Or.inl rfl
theorem one_cases (zs b : List Int) (at' : Nat) : oneF zs b at' = (-1, 0) ∨ ∃ l' s : Nat, 0 < l' ∧ l' < 16 ∧ at' + l' ≤ 8 * b.length ∧ s < zs.length ∧ oneF zs b at' = ((s : Int), (l' : Int)) := oneG_cases zs b at' 16 1 (by omega)
end Hf

set_option maxHeartbeats 1600000 in
set_option maxRecDepth 100000 in
theorem decode_ref (a : Option Addr) (cap : Nat) (zs : List Int) (a2 : Option Addr) (cap2 : Nat) (b : List Int) (n : Int) (w : World) (hr : Ri w .i64 a cap zs) (hr2 : Ri w .u8 a2 cap2 b) (hn : b.length ≤ 1000) :
    Calls Try.prog 24 #[.slice a zs.length cap, .slice a2 b.length cap2, .int .i64 n] w (DecPost zs b n w) := by
  obtain ⟨i0, hi, hz0, hz1, hz2⟩ := info_parts Try.info3b
  have HT := hid (codes_r a cap zs w hr)
  have HR := hid hr
  have HR2 := hid hr2
  obtain ⟨len, hl⟩ : ∃ n, n = zs.length := ⟨_, rfl⟩
  obtain ⟨len2, hl2⟩ : ∃ n, n = b.length := ⟨_, rfl⟩
  have HL := hid hl
  have HL2 := hid hl2
  rw [← hl] at HT ⊢
  rw [← hl2] at hn ⊢
  clear hr hr2 hl hl2
  cases hc : checkB zs with
  | false =>
    have e2 : checkF zs = 51 := by unfold checkF; rw [hc]; rfl
    have HN := hid (fun w' => dec_no (w := w) (w' := w') (zs := zs) (b := b) (n := n) 0 51 (by unfold decO; rw [hc]; rfl))
    clear hc
    go_enter Try.func24, Try.ntmps24
    go_wp2_with fail
    refine HT.out.mono ?_
    rintro _ w1 ⟨ac, cc, rfl, hrc, hb1⟩
    rw [e2]
    have HX := hid (HN.out _ hb1)
    clear hb1 hrc HN HT e2
    generalize (codesO zs).length = lc at *
    go_wp2
    go_ret3
    exact HX.out
  | true =>
    have e2 : checkF zs = 0 := by unfold checkF; rw [hc]; rfl
    have e3 : codesO zs = codesL zs := by unfold codesO; rw [hc]; rfl
    have hok : lenOk zs = true := by unfold checkB at hc; rw [Bool.and_eq_true] at hc; exact hc.1
    have HLN := hid (lenOk_all hok).1
    have HC := hid hc
    have HF : Hid (∀ (w' : World) (ac : Option Addr) (cc at' : Nat), Ri w' .u16 ac cc (codesL zs) → Below w.heap.size w w' → at' ≤ 100000 → Calls Try.prog 42 #[.slice a len cap, .slice ac len cc, .slice a2 len2 cap2, .int .i64 (at' : Int)] w' fun e w'' => e = .returned (.tuple #[.int .i64 (oneF zs b at').1, .int .i64 (oneF zs b at').2]) ∧ w'' = w') := fun w' ac cc at' hrc hb hat => by
      rw [HL2.out, HL.out]; exact one_ref a cap zs ac cc a2 cap2 b at' w' (HR.out.later hb) hrc (HR2.out.later hb) HC.out (by rw [← HL2.out]; exact hn) hat
    by_cases hneg : n < 0
    · have HN := hid (fun w' => dec_no (w := w) (w' := w') (zs := zs) (b := b) (n := n) 0 1 (by unfold decO; rw [hc, if_neg (by decide), if_pos hneg]))
      clear hc hok HF
      go_enter Try.func24, Try.ntmps24
      go_wp2_with fail
      refine HT.out.mono ?_
      rintro _ w1 ⟨ac, cc, rfl, hrc, hb1⟩
      rw [e2]
      have HX := hid (HN.out _ hb1)
      clear hb1 hrc HN HT e2
      generalize (codesO zs).length = lc at *
      go_wp2
      go_ret3
      exact HX.out
    · obtain ⟨N, hN⟩ : ∃ N : Nat, n = (N : Int) := ⟨n.toNat, by omega⟩
      subst hN
      have HDE := hid (show decO zs b (N : Int) = decG zs b (8 * b.length + 1) N 0 from by unfold decO; rw [hc, if_neg (by decide), if_neg hneg, Int.toNat_natCast])
      clear hc hok
      go_enter Try.func24, Try.ntmps24
      go_wp2_with fail
      refine HT.out.mono ?_
      rintro _ w1 ⟨ac, cc, rfl, hrc, hb1⟩
      rw [e2, e3, codesL_length, ← HL.out]
      rw [e3] at hrc
      have HRC := hid hrc
      have HB1 := hid hb1
      clear hb1 hrc HT e2 e3
      go_wp2_with fail
      go_loopw [11, 12] (fun v i wr => ∃ ys at', i = .int .i64 ((at' : Nat) : Int) ∧ Hid (At zs b N ys at') ∧ wr.ownsRow w1.heap.size 3 1 v ys.length (ys.map (Value.int .i64)) ∧ Below w1.heap.size w1 wr) (fun _ i _ => 8 * len2 - (intOf i).toNat)
      case atStart => exact ⟨[], 0, rfl, At.start zs b N, World.ownsRow_nil _ _ _ _, Below.refl _ _⟩
      case round =>
        obtain ⟨ys, at', rfl, HA, hown, hbel⟩ := hrel
        obtain ⟨a4, cap4, hv, _⟩ := Ri.own hown (fun j => wf_mk_i64 (by have := (HA.out.low j).1; omega) (by have := (HA.out.low j).2; omega))
        subst hv
        have hm := HA.out.most
        have hrm := HA.out.room
        have hfw := HA.out.few
        rw [← HL2.out] at hrm
        have hbw := HB1.out.trans (hbel.mono HB1.out.size)
        obtain ⟨k, hk⟩ : ∃ k, k = ys.length := ⟨_, rfl⟩
        have HK := hid hk
        rw [← hk] at hm hfw hown ⊢
        clear hk
        by_cases hlt : k < N
        · have hkl : (k : Int) < (N : Int) := by omega
          have HFN := hid (HF.out wr ac cc at' (HRC.out.later hbel) hbw (by omega))
          have HBW := hid hbw
          have HBE := hid hbel
          have hs1 := hbel.size
          clear hbw hbel
          go_wp2_with fail
          refine HFN.out.mono ?_
          rintro _ w4 ⟨rfl, hw⟩
          obtain rfl := hw.symm
          clear hw HFN
          rcases one_cases zs b at' with h2 | ⟨l, s, hl1, hl2, hl3, hs, ho⟩
          · have HX := hid (dec_no (w := w) (w' := wr) (zs := zs) (b := b) (n := (N : Int)) (at' : Int) 52 (by rw [HDE.out]; exact HA.out.stop (by rw [← HK.out]; exact hlt) (by rw [h2]; decide)) HBW.out)
            rw [h2]
            clear h2 hown
            go_wp2
            go_ret3
            exact HX.out
          · rw [ho]
            have HA2 := hid (HA.out.step (by rw [← HK.out]; exact hlt) ho (by have := HLN.out; omega) hl1 hl3)
            rw [← HL2.out] at hl3
            have hs5 : ¬ (s : Int) < 0 := by omega
            clear ho hs
            go_wp2_with (at_builtin; refine wpList_append_own _ rfl _ _ 22 rfl w1.heap.size 3 i0 (.int .i64 0) 1 8 Try.underlying22 hi hz0 hz1 hz2 rfl (by decide) _ _ _ rfl (hown.alloc _) ⟨wr.heap.size, 0, none⟩ 1 1 [.int .i64 (s : Int)] rfl rfl (one_new wr _ _) (one_cellI _ _) (by unfold maxLen; omega) (by omega) (by simp; omega) ?_)
            intro v5 w5 h1 h2 _
            have hB5 : Below w1.heap.size w1 w5 := (HBE.out.alloc hs1 _).grown h2 (by simp; omega) (fun j hj => (hown.lt j hj).1)
            have HO5 : Hid (w5.ownsRow w1.heap.size 3 1 v5 (ys ++ [(s : Int)]).length ((ys ++ [(s : Int)]).map (Value.int .i64))) := by
              show World.ownsRow _ _ _ _ _ _ _
              rw [List.length_append, List.map_append, ← HK.out]; exact h1
            have HB5 := hid hB5
            clear h1 h2 hB5 hown
            go_wp2
            exact ⟨⟨ys ++ [(s : Int)], at' + l, by go_num, HA2, HO5.out, HB5.out⟩, by simp [intOf]; omega⟩
        · have hke : k = N := by omega
          have HX := hid (dec_yes (w := w) (w' := wr) (n := (N : Int)) (at' : Int) (by rw [HDE.out]; exact HA.out.done (by rw [← HK.out]; exact hke)) HA.out.low (by rw [← HK.out]; exact hown) hbw)
          have hkl : ¬ (k : Int) < (N : Int) := by omega
          clear hbw hown hbel hke
          go_wp2
          go_ret3
          exact HX.out
end Go.Proofs.Ytgecoiakhmnilaa
