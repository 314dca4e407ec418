/-
  NamesMany is proved for every input: the 1025th path is refused, and those that are there are not; no condition.
-/
import Derived.Test.YtcbjlnabbfkkeaaNmMb
import Derived.Test.YtcbjlnabbfkkeaaRcQa
namespace Go.Proofs.Ytcbjlnabbfkkeaa.namesMany
open Go.ChangeShapes Go.WideShapes Go.ChangeAt Go.RowKit Go.Deep Go.Lib

theorem own : ownKnob Try.prog.godebug = none := by kernel_rfl
set_option maxHeartbeats 12800000 in
set_option maxRecDepth 100000 in
theorem walk (k : Int) (_ : (Lit.int .i64 k).wf = true) (w : World) : Calls Try.prog 5 #[.int .i64 k] w fun e w' => e = .returned (.bool true) ∧ Below w.heap.size w w' := by
  have HAL := hid (fun V => alive_word V)
  have HNO := hid (fun V (i : Nat) (hi : i < 1024) => number_word i hi V)
  have HNW := hid (new_word w.heap.size w)
  have HY := hid Try.zero51
  by_cases hk : k = 1
  · subst hk
    go_enter Try.func5, Try.ntmps5
    go_wp2_with fail
    refine HNW.out.mono ?_
    rintro _ W1 ⟨rfl, hn1, hb1⟩
    have HN1 := hid hn1
    have HB1 := hid hb1
    clear hn1 hb1 HNW
    go_wp2
    go_loopw [4] (fun x4 wr => ∃ (i : Nat) (M : List Fl), i ≤ 1024 ∧ x4 = .int .i64 (i : Int) ∧ Hid (Nm w.heap.size wr (w.heap.size + 1) w.heap.size M) ∧ Hid (Ins M i) ∧ Hid (Below w.heap.size w wr)) (fun x4 _ => 1024 - (intOf x4).toNat)
    case atStart => exact ⟨0, [], by omega, rfl, HN1.out, Ins.zero, HB1.out⟩
    case round =>
      obtain ⟨i, M, hi, rfl, HN, HI, HB⟩ := hrel
      clear HN1 HB1
      by_cases hlt : i < 1024
      · have hz : (i : Int) < 1024 := by omega
        have HLT := hid hlt
        go_wp2_with fail
        refine (HNO.out wr i HLT.out).mono ?_
        rintro _ W2 ⟨rfl, hb2⟩
        have HN2 := hid (HN.out.later hb2)
        have HB2 := hid (Bn HB.out hb2)
        have hlim : ¬ 9223372036854775807 < (ByteArray.mk #[112]).size + (numS i).size := by
          have h := (pth_at HLT.out).2.2.2
          unfold pth at h
          rw [ByteArray.size_append] at h
          omega
        have hwf : (Lit.int .i64 ((i : Int) + 1)).wf = true := wf_mk_i64 (by omega) (by omega)
        have HR := hid (recP_rv W2 (q := (i : Int) + 1) (pth_at HLT.out).2.2.2 hwf)
        have HPT : Hid (({ data := #[112] } : ByteArray) ++ numS i = pth i) := rfl
        clear hb2 hwf
        go_wp2_with (first | refine wpList_buildTo rfl 36 _ rfl (some 25) rfl (recP ((i : Int) + 1) (({ data := #[112] } : ByteArray) ++ numS i)).cs.toArray (Eq.trans (congrArg (Try.prog.built 36) (by simp only [List.map_toArray, List.map_cons, List.map_nil]; rfl)) (built36P ((i : Int) + 1) (({ data := #[112] } : ByteArray) ++ numS i))) ?_ | fail)
        rw [HPT.out]
        refine (apply_word W2 (w.heap.size + 1) w.heap.size M w.heap.size HN2.out (recP ((i : Int) + 1) (pth i)) HR.out HB2.out.size).mono ?_
        rintro _ W3 ⟨rfl, M', hn3, hap, hg3⟩
        obtain ⟨h0, hi3⟩ := HI.out.step HLT.out (by omega) (by omega) HN2.out.apart hap
        rw [h0]
        have HN3 := hid hn3
        have HI3 := hid hi3
        have HB3 : Hid (Below w.heap.size w W3) := HB2.out.trans (bel_grown hg3 (Nat.le_refl _) HB2.out.size)
        clear hn3 hap hg3 h0 hi3
        go_wp2
        go_round
        case rel => exact ⟨i + 1, M', by omega, by go_num, HN3.out, HI3.out, HB3.out⟩
        case measure => simp [intOf]; omega
      · have hie : i = 1024 := by omega
        subst hie
        have HR1 := hid (recP_rv wr (q := 1) (p := sMore) (by decide) (by decide))
        go_wp2_with (first | refine wpList_buildTo rfl 36 _ rfl (some 29) rfl (recP 1 sMore).cs.toArray (Eq.trans (congrArg (Try.prog.built 36) (by simp only [List.map_toArray, List.map_cons, List.map_nil]; rfl)) (built36P 1 sMore)) ?_ | fail)
        refine (apply_word wr (w.heap.size + 1) w.heap.size M w.heap.size HN.out (recP 1 sMore) HR1.out HB.out.size).mono ?_
        rintro _ W3 ⟨rfl, M1, hn3, hap, hg3⟩
        obtain ⟨h0, rfl⟩ := HI.out.more hap
        rw [h0]
        have HN3 := hid hn3
        have HB3 : Hid (Below w.heap.size w W3) := HB.out.trans (bel_grown hg3 (Nat.le_refl _) HB.out.size)
        have HR2 := hid (recP_rv W3 (q := 7) (p := sP5) (by decide) (by decide))
        clear hn3 hap hg3 h0 HN HB HR1
        go_wp2_with (first | refine wpList_buildTo rfl 36 _ rfl (some 32) rfl (recP 7 sP5).cs.toArray (Eq.trans (congrArg (Try.prog.built 36) (by simp only [List.map_toArray, List.map_cons, List.map_nil]; rfl)) (built36P 7 sP5)) ?_ | fail)
        refine (apply_word W3 (w.heap.size + 1) w.heap.size M1 w.heap.size HN3.out (recP 7 sP5) HR2.out HB3.out.size).mono ?_
        rintro _ W4 ⟨rfl, M2, hn4, hap, hg4⟩
        obtain ⟨h0, hlen, f5, hf5, hq5⟩ := HI.out.five HN3.out.apart hap
        rw [h0]
        have HN4 := hid hn4
        have HLN := hid hlen
        have HF5 := hid hf5
        have HQ5 := hid hq5
        have HB4 : Hid (Below w.heap.size w W4) := HB3.out.trans (bel_grown hg4 (Nat.le_refl _) HB3.out.size)
        clear hn4 hap hg4 h0 HN3 HB3 HR2 hlen hf5 hq5
        go_wp2_with fail
        refine (stat_st W4 (w.heap.size + 1) w.heap.size M2 w.heap.size HN4.out sP5 (by decide)).mono ?_
        rintro _ W5 ⟨now, c, rfl, hst, _, _, hb5⟩
        obtain ⟨rfl, _, hsq, _⟩ := st_some hst HF5.out
        have HSQ : Hid (now.seq = 7) := hsq.trans HQ5.out
        have HN5 := hid (HN4.out.later hb5)
        have HB5 := hid (Bn HB4.out hb5)
        clear hst hb5 hsq HN4 HB4
        go_wp2_with (first | refine wpList_alloc_W rfl 51 rfl (some 7) rfl _ HY.out W5.heap.size rfl ?_ | fail)
        intro W6 HG6 HB6 HS6
        go_wp2_with (first | refine wpList_store_W rfl 51 _ _ rfl rfl W5.heap.size now.cs.toArray rfl rfl 51 _ HG6.out Try.size51 rfl (Fi.one _) ?_ | fail)
        intro W7 HG7 HB7 HS7
        have HX57 : Hid (Below W5.heap.size W5 W7) := HB6.out.trans (bel_grown HB7.out (Nat.le_refl _) HB6.out.size)
        have HN7 := hid (HN5.out.later HX57.out)
        have HB7' := hid (Bn HB5.out HX57.out)
        have c2 : W7.cell? ⟨W5.heap.size, 2, none⟩ = some (.int .i64 7) := (Joins.cell_of_block HG7.out 2).trans (by show some (Value.int .i64 now.seq) = _; rw [HSQ.out])
        clear HG6 HB6 HS6 HB7 HS7 HX57 HN5 HB5 HG7
        go_wp2_with fail
        refine (list_word W7 (w.heap.size + 1) w.heap.size M2 w.heap.size HN7.out ByteArray.empty).mono ?_
        rintro _ W8 ⟨a8, c8, L8, rfl, _, hls, hb8⟩
        have hl8 := (hls.len HN7.out.apart).trans HLN.out
        rw [hl8]
        have HB8 := hid (Bn HB7'.out hb8)
        clear hls hb8 hl8 c2
        go_wp2_with fail
        refine (HAL.out _).mono ?_
        rintro _ W9 ⟨rfl, hb9⟩
        have HB9 := hid (Bn HB8.out hb9)
        clear hb9
        go_wp2
        go_ret
        exact ⟨rfl, HB9.out⟩
  · go_enter Try.func5, Try.ntmps5
    go_wp2_with fail
    refine (HAL.out _).mono ?_
    rintro _ W9 ⟨rfl, hb9⟩
    have HB9 := hid hb9
    clear hb9
    go_wp2
    go_ret
    exact ⟨rfl, HB9.out⟩
set_option maxRecDepth 100000 in
theorem lifted (os : Os) (started : os.Started) (H : Type) (enc : TypeId × Value → H) :
    ReturnsInHanded {} Try.checked os 5 .any (Rows.namesManySpec.pre6 enc Try.prog Try.f5 Rows.namesManyRow.domain false) (Rows.namesManySpec.post enc Try.prog Try.f5 false true false false) := by
  refine returnsInHanded_of_change (C := Try.checked) own started (by kernel_rfl) Try.func5
    (ChangeSpec.witness6 (enc := enc) (C := Try.checked) false ⟨#[], #[.int .i64 0], []⟩ 8 (by kernel_rfl) (by kernel_rfl) (by kernel_rfl) (by kernel_rfl)) ?_
  intro W base args ds gs before hval0 hW _ _
  have hval : ∀ (j : Nat) t v, Try.f5.params[j]? = some t → args[j]? = some v → Value.okWide Try.prog W .any base t v := hval0
  have hW' := hW
  obtain ⟨p, q, hA0, hV, rfl, _, _⟩ := hW
  have hA : DataW.TrodAll enc Try.prog W 0 (fun _ => true) true Try.f5.params.toList args.toList ds p := hA0
  rw [Try.params5] at hA hval
  obtain ⟨v0, vs0, d0, ds0, p0, q0, hargs, rfl, rfl, h0, r0⟩ := trodAll_cons hA
  obtain ⟨rfl, rfl, rfl⟩ := trodAll_nil r0
  obtain rfl : args = #[v0] := by cases args; simp_all
  obtain ⟨rfl, rfl⟩ := trodVars_none hV
  obtain ⟨a0, rfl, rfl, rfl, w0⟩ := open_int Try.underlying3 (hval 0 3 v0 rfl rfl) h0
  clear hA0
  simp only [List.append_nil] at hW'
  clear hval0
  refine (walk a0 w0 W).mono fun e W' ⟨he, hb⟩ => ?_
  subst he
  exact ⟨_, rfl, _, _, _, [] ++ [], _, [], hW', trodAll_cons_mk (shut_bool Try.underlying4 _) trodAll_mk0, (trodAll_cons_mk (shut_int Try.underlying3 w0) trodAll_mk0), rfl, hb.frame _, fun h => by cases h⟩

theorem over : Rows.namesManyRow.holds Try.pinned (OpenSpec.ofChange Rows.namesManySpec) :=
  OpenClaim.holds_of_wide 5 Try.f5 rfl rfl rfl rfl rfl rfl rfl ⟨rfl, rfl, rfl, rfl, rfl⟩ rfl rfl rfl rfl rfl (by kernel_rfl) Try.func5 (by kernel_rfl)
    (of_decide_eq_true (by kernel_rfl)) (by unfold Func.isWrapper; first | (rw [if_pos (by decide +kernel)]; kernel_rfl) | (rw [if_neg (by decide +kernel)]; exact ⟨rfl, rfl⟩))
    (fun os started H enc _ => lifted os started H enc)

end Go.Proofs.Ytcbjlnabbfkkeaa.namesMany
namespace Go.Proofs.Ytcbjlnabbfkkeaa
theorem namesMany_holds : Rows.NamesManySaid := namesMany.over
#print axioms namesMany_holds
end Go.Proofs.Ytcbjlnabbfkkeaa
