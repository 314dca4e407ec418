/-
  The contract of huff's Decode.
-/
import Derived.Test.YtgecoiakhmnilaaDecG
namespace Go.Proofs.Ytgecoiakhmnilaa
open Go.RowKit Hf

set_option maxHeartbeats 1600000 in
set_option maxRecDepth 100000 in
theorem decode_word (a : Option Addr) (cap : Nat) (zs : List Int) (a2 : Option Addr) (cap2 : Nat) (b : List Int) (n : Int) (w : World) (hr : Ri w .i64 a cap zs) (hr2 : Ri w .u8 a2 cap2 b) (hn : b.length ≤ 1000) :
    Calls Try.prog 23 #[.slice a zs.length cap, .slice a2 b.length cap2, .int .i64 n] w (DecPost zs b n w) := by
  obtain ⟨i0, hi, hz0, hz1, hz2⟩ := info_parts Try.info3b
  have HT := hid (tallied_word a cap zs w hr)
  have HR := hid hr
  have HR2 := hid hr2
  obtain ⟨len, hl⟩ : ∃ n, n = zs.length := ⟨_, rfl⟩
  obtain ⟨len2, hl2⟩ : ∃ n, n = b.length := ⟨_, rfl⟩
  have HL := hid hl
  have HL2 := hid hl2
  rw [← hl] at HT ⊢
  rw [← hl2] at hn ⊢
  clear hr hr2 hl hl2
  cases hc : checkB zs with
  | false =>
    have e2 : checkF zs = 51 := by unfold checkF; rw [hc]; rfl
    have htl := talV_length zs
    have hsz : Hid ((arr .i64 (talV zs)).size = 16) := by show _ = _; rw [arr_size, htl]
    have HN := hid (fun w' => dec_no (w := w) (w' := w') (zs := zs) (b := b) (n := n) 0 51 (by unfold decO; rw [hc]; rfl))
    rw [e2] at HT
    generalize talV zs = tz at *
    clear e2 hc htl
    go_enter Try.func23, Try.ntmps23
    go_wp2_with fail
    refine HT.out.mono ?_
    rintro _ w1 ⟨rfl, hb1⟩
    have e1 := heap_new w1 (.cells (arr .i64 z16) 59)
    have hb2 := below_setRow (Bn hb1 (bel_alloc w1 (.cells (arr .i64 z16) 59))) hb1.size (arr .i64 tz)
    have HX := hid (HN.out _ hb2)
    clear hb2 hb1 HN HT
    go_wp2_with (first
      | (refine wpList_alloc_at rfl 59 rfl (some 9) rfl (arr .i64 z16) Try.zero59 w1.heap.size rfl ?_)
      | (refine wpList_store_rowTo rfl 59 _ _ rfl rfl w1.heap.size (arr .i64 tz) rfl rfl 59 _ e1 (by rw [hsz.out]; exact Try.size59) (by rw [hsz.out]; rfl) (arr_one _ _) ?_)
      | fail)
    go_ret3
    exact HX.out
  | true =>
    have e2 : checkF zs = 0 := by unfold checkF; rw [hc]; rfl
    have e3 : talV zs = tal zs := by unfold talV; rw [hc]; rfl
    rw [e2, e3] at HT
    have hok : lenOk zs = true := by unfold checkB at hc; rw [Bool.and_eq_true] at hc; exact hc.1
    have HLN := hid (lenOk_all hok).1
    have HC := hid hc
    have hsz : Hid ((arr .i64 (tal zs)).size = 16) := by show _ = _; rw [arr_size, tal_length]
    have HBL : Hid (∀ w', Below w.heap.size w w' → Calls Try.prog 40 #[.slice a len cap, .agg (arr .i64 (tal zs))] w' fun e w'' => ∃ a' cap' O, e = .returned (.slice a' len cap') ∧ O.length = len ∧ Ordd zs O ∧ Ri w'' .i64 a' cap' O ∧ Below w'.heap.size w' w'') := fun w' hb => by
      rw [HL.out]; exact byLength_word a cap zs w' (HR.out.later hb) HC.out
    have HF : Hid (∀ (w' : World) (at' : Nat), Below w.heap.size w w' → at' ≤ 100000 → Calls Try.prog 41 #[.agg (arr .i64 (tal zs)), .slice a2 len2 cap2, .int .i64 (at' : Int)] w' fun e w'' => e = .returned (.tuple #[.int .i64 (fnd zs b at').1, .int .i64 (fnd zs b at').2]) ∧ Below w'.heap.size w' w'') := fun w' at' hb hat => by
      rw [HL2.out]; exact find_word a2 cap2 zs b at' w' (HR2.out.later hb) HC.out (by rw [← HL2.out]; exact hn) hat
    by_cases hneg : n < 0
    · have HN := hid (fun w' => dec_no (w := w) (w' := w') (zs := zs) (b := b) (n := n) 0 1 (by unfold decO; rw [hc, if_neg (by decide), if_pos hneg]))
      clear e2 e3 hc hok
      generalize tal zs = tz at *
      go_enter Try.func23, Try.ntmps23
      go_wp2_with fail
      refine HT.out.mono ?_
      rintro _ w1 ⟨rfl, hb1⟩
      have e1 := heap_new w1 (.cells (arr .i64 z16) 59)
      have hb2 := below_setRow (Bn hb1 (bel_alloc w1 (.cells (arr .i64 z16) 59))) hb1.size (arr .i64 tz)
      have HX := hid (HN.out _ hb2)
      clear hb2 hb1 HN HT HBL HF
      go_wp2_with (first
        | (refine wpList_alloc_at rfl 59 rfl (some 9) rfl (arr .i64 z16) Try.zero59 w1.heap.size rfl ?_)
        | (refine wpList_store_rowTo rfl 59 _ _ rfl rfl w1.heap.size (arr .i64 tz) rfl rfl 59 _ e1 (by rw [hsz.out]; exact Try.size59) (by rw [hsz.out]; rfl) (arr_one _ _) ?_)
        | fail)
      go_ret3
      exact HX.out
    · obtain ⟨N, hN⟩ : ∃ N : Nat, n = (N : Int) := ⟨n.toNat, by omega⟩
      subst hN
      have HDE := hid (show decO zs b (N : Int) = decG zs b (8 * b.length + 1) N 0 from by unfold decO; rw [hc, if_neg (by decide), if_neg hneg, Int.toNat_natCast])
      clear e2 e3 hc hok
      generalize tal zs = tz at *
      go_enter Try.func23, Try.ntmps23
      go_wp2_with fail
      refine HT.out.mono ?_
      rintro _ w1 ⟨rfl, hb1⟩
      have e1 := heap_new w1 (.cells (arr .i64 z16) 59)
      have hb2 := below_setRow (Bn hb1 (bel_alloc w1 (.cells (arr .i64 z16) 59))) hb1.size (arr .i64 tz)
      have e2 := setRow_heap _ _ _ (arr .i64 tz) _ _ e1
      have HB2 := hid hb2
      have HSW : Hid (w1.heap.size < ((w1.alloc (.cells (arr .i64 z16) 59)).setRow w1.heap.size (arr .i64 tz)).heap.size) := by show _ < _; simp [World.setRow]
      clear hb1 hb2 HT
      go_wp2_with (first
        | (refine wpList_alloc_at rfl 59 rfl (some 9) rfl (arr .i64 z16) Try.zero59 w1.heap.size rfl ?_)
        | (refine wpList_store_rowTo rfl 59 _ _ rfl rfl w1.heap.size (arr .i64 tz) rfl rfl 59 _ e1 (by rw [hsz.out]; exact Try.size59) (by rw [hsz.out]; rfl) (arr_one _ _) ?_)
        | (refine wpList_load_row rfl 59 _ rfl w1.heap.size rfl 59 (arr .i64 tz) (0, 0) _ e2 Try.underlying59 rfl (by rw [hsz.out]; exact Try.size59) ?_)
        | fail)
      clear e1
      generalize (w1.alloc (.cells (arr .i64 z16) 59)).setRow w1.heap.size (arr .i64 tz) = w2 at *
      generalize w1.heap.size = g at *
      refine (HBL.out _ HB2.out).mono ?_
      rintro _ w3 ⟨a3, cap3, O, rfl, hol, hord, hr3, hb3⟩
      have e4 : w3.heap[g]? = some (.cells (arr .i64 tz) 59 (0, 0)) := by rw [hb3.block _ HSW.out]; exact e2
      have hs3 := hb3.size
      have HB3 := hid (Bn HB2.out hb3)
      have HO := hid hord
      have HR3 := hid hr3
      have HOL := hid hol
      have hg3 : g < w3.heap.size := Nat.lt_of_lt_of_le HSW.out hs3
      clear hb3 hr3 hord hol e2 HB2 HBL HSW hs3
      go_wp2_with fail
      go_loopw [12, 13] (fun v i wr => ∃ ys at', i = .int .i64 ((at' : Nat) : Int) ∧ Hid (At zs b N ys at') ∧ wr.ownsRow w3.heap.size 3 1 v ys.length (ys.map (Value.int .i64)) ∧ Below w3.heap.size w3 wr) (fun _ i _ => 8 * len2 - (intOf i).toNat)
      case atStart => exact ⟨[], 0, rfl, At.start zs b N, World.ownsRow_nil _ _ _ _, Below.refl _ _⟩
      case round =>
        obtain ⟨ys, at', rfl, HA, hown, hbel⟩ := hrel
        obtain ⟨a4, cap4, hv, _⟩ := Ri.own hown (fun j => wf_mk_i64 (by have := (HA.out.low j).1; omega) (by have := (HA.out.low j).2; omega))
        subst hv
        have hm := HA.out.most
        have hrm := HA.out.room
        have hfw := HA.out.few
        rw [← HL2.out] at hrm
        have e5 : wr.heap[g]? = some (.cells (arr .i64 tz) 59 (0, 0)) := by rw [hbel.block _ hg3]; exact e4
        have hbw := HB3.out.trans (hbel.mono HB3.out.size)
        obtain ⟨k, hk⟩ : ∃ k, k = ys.length := ⟨_, rfl⟩
        have HK := hid hk
        rw [← hk] at hm hfw hown ⊢
        clear hk
        by_cases hlt : k < N
        · have hkl : (k : Int) < (N : Int) := by omega
          have HFN := hid (HF.out wr at' hbw (by omega))
          have HBW := hid hbw
          have HOW := hid hown
          have HBE := hid hbel
          clear hbw hown hbel
          go_wp2_with (first
            | (refine wpList_load_row rfl 59 _ rfl g rfl 59 (arr .i64 tz) (0, 0) _ e5 Try.underlying59 rfl (by rw [hsz.out]; exact Try.size59) ?_)
            | fail)
          refine HFN.out.mono ?_
          rintro _ w4 ⟨rfl, hb4⟩
          rcases fnd_one zs b O at' HO.out with ⟨h1, h2⟩ | ⟨l, s, hl1, hl2, hl3, hs, hz, hcode, hf, ho, hO⟩
          · have HX := hid (dec_no (w := w) (w' := w4) (zs := zs) (b := b) (n := (N : Int)) (at' : Int) 52 (by rw [HDE.out]; exact HA.out.stop (by rw [← HK.out]; exact hlt) (by rw [h2]; decide)) (Bn HBW.out hb4))
            rw [h1]
            clear h1 h2 hb4 e5 HFN
            go_wp2
            go_ret3
            exact HX.out
          · rw [hf]
            have hroom := plc_room zs s l hs hz hl1
            rw [← HL.out] at hroom
            have HA2 := hid (HA.out.step (by rw [← HK.out]; exact hlt) ho (by have := HLN.out; omega) hl1 hl3)
            rw [← HL2.out] at hl3
            obtain ⟨b5, o5, hbo, hb5, hc5⟩ := (HR3.out).cells (by rw [HOL.out]; omega)
            subst hbo
            have hbe4 : Below w3.heap.size w3 w4 := HBE.out.trans (hb4.mono HBE.out.size)
            have ck : w4.cell? ⟨b5, o5 + (plc zs l + cnt (zs.take s) l), none⟩ = some (.int .i64 (s : Int)) := by
              rw [hbe4.cell (p := ⟨b5, o5 + (plc zs l + cnt (zs.take s) l), none⟩) hb5, hc5 _ (by rw [HOL.out]; exact hroom), hO]
            have hown4 : w4.ownsRow w3.heap.size 3 1 (.slice a4 k cap4) k (ys.map (Value.int .i64)) := by
              refine ⟨HOW.out.1, ?_⟩
              rcases HOW.out.2 with h1 | ⟨gg, cp, cur, hv, hgg, hh, hrest⟩
              · exact Or.inl h1
              · exact Or.inr ⟨gg, cp, cur, hv, hgg, (hb4.block gg (Array.getElem?_eq_some_iff.1 hh).1).trans hh, hrest⟩
            have HBE4 := hid hbe4
            have hs4 := hbe4.size
            clear hc5 hf ho hO hcode hz hs hbe4 HOW HFN hb4 e5
            generalize plc zs l + cnt (zs.take s) l = q at *
            go_wp2_with (at_builtin; refine wpList_append_own _ rfl _ _ 22 rfl w3.heap.size 3 i0 (.int .i64 0) 1 8 Try.underlying22 hi hz0 hz1 hz2 rfl (by decide) _ _ _ rfl (hown4.alloc _) ⟨w4.heap.size, 0, none⟩ 1 1 [.int .i64 (s : Int)] rfl rfl (one_new w4 _ _) (one_cellI _ _) (by unfold maxLen; omega) (by omega) (by simp; omega) ?_)
            intro v5 w5 h1 h2 _
            have hB5 : Below w3.heap.size w3 w5 := (HBE4.out.alloc hs4 _).grown h2 (by simp; omega) (fun j hj => (hown4.lt j hj).1)
            have HO5 : Hid (w5.ownsRow w3.heap.size 3 1 v5 (ys ++ [(s : Int)]).length ((ys ++ [(s : Int)]).map (Value.int .i64))) := by
              show World.ownsRow _ _ _ _ _ _ _
              rw [List.length_append, List.map_append, ← HK.out]; exact h1
            have HB5 := hid hB5
            clear h1 h2 hB5 hown4 ck
            go_wp2
            exact ⟨⟨ys ++ [(s : Int)], at' + l, by go_num, HA2, HO5.out, HB5.out⟩, by simp [intOf]; omega⟩
        · have hke : k = N := by omega
          have HX := hid (dec_yes (w := w) (w' := wr) (n := (N : Int)) (at' : Int) (by rw [HDE.out]; exact HA.out.done (by rw [← HK.out]; exact hke)) HA.out.low (by rw [← HK.out]; exact hown) hbw)
          have hkl : ¬ (k : Int) < (N : Int) := by omega
          clear hbw hown hbel e5 hke
          go_wp2
          go_ret3
          exact HX.out
end Go.Proofs.Ytgecoiakhmnilaa
