/-
  DiskReads is proved for every input: a block is read as it was written last; no condition.
-/
import Derived.Test.YtldgiimkkgmgaaaPart05
namespace Go.Proofs.Ytldgiimkkgmgaaa.diskReads
open Go.ChangeShapes Go.WideShapes Go.ChangeAt Go.RowKit

theorem own : ownKnob Try.prog.godebug = none := by kernel_rfl

/-- A row of bytes of one's own. -/
theorem own_rx {base B : Nat} {W : World} {v : Value} {b : List Int} (h : W.ownsRow B 5 1 v b.length (bytesV b)) (hf : ∀ z ∈ b, 0 ≤ z ∧ z ≤ 255) : ∃ a cap, v = .slice a b.length cap ∧ Rx base W a cap b := by
  obtain ⟨a, cap, rfl, hr⟩ := Ri.own h (wf_of hf)
  refine ⟨a, cap, rfl, Rx.blk hr (fun b' off W' e _ hF => ?_)⟩
  rcases h.2 with ⟨e2, _⟩ | ⟨g, cp, cur, e2, _, h5, _⟩
  · injection e2 with e2; rw [e2] at e; cases e
  · injection e2 with e2
    rw [e2] at e
    cases e
    rw [h5]
    exact hF.typ _ _ 5 (0, 0) (by decide) (by decide) h5
structure RdI (w wr : World) (gd gv gl gn q : Nat) (i : Int) (O : List (Int × List Int)) (aw : Option Addr) (cw : Nat) : Prop where
  dv : ∃ v, Dv wr w.heap.size gd gv gl gn v q 8 (fun _ => z512) O (-1)
  len : O.length ≤ q
  want : Rx w.heap.size wr aw cw (holdF (fun _ => z512) O i)
  bel : Below w.heap.size w wr
theorem rd_f (i : Int) (len : Nat) : wrF 8 (-1) i len = -1 := by unfold wrF; split <;> rfl
theorem wrO_len (size fuse i : Int) (O : List (Int × List Int)) (zs : List Int) : (wrO size fuse i O zs).length ≤ O.length + 1 := by
  unfold wrO
  split
  · simp
  · omega
set_option maxHeartbeats 6400000 in
set_option maxRecDepth 100000 in
theorem walk (a : Option Addr) (cap : Nat) (ls : List OpZ) (i : Int) (_ : (Lit.int .i64 i).wf = true) (w : World) (hr : Ro w a cap ls) :
    Calls Try.prog 6 #[.slice a ls.length cap, .int .i64 i] w fun e w' => e = .returned (.bool true) ∧ Below w.heap.size w w' := by
  have hm : ls.length ≤ 9223372036854775807 := by have h1 := hr.room; have h2 := hr.most; unfold maxLen at h2; omega
  have HR := hid hr
  have HNW := hid (new_ok 8 w ⟨by omega, by omega⟩)
  unfold NewPost at HNW
  obtain ⟨n, hn⟩ : ∃ n, n = ls.length := ⟨_, rfl⟩
  have HN := hid hn
  rw [← hn] at hm ⊢
  clear hr hn
  by_cases hi : 0 ≤ i ∧ i < 8
  case neg =>
    by_cases h1 : i < 0
    · skip
      go_enter Try.func6, Try.ntmps6
      go_wp2_with fail
      refine HNW.out.mono ?_
      rintro _ w1 ⟨gd, gv, gl, gn, rfl, hd, hb⟩
      have HB := hid hb
      clear hd hb HNW
      go_wp2_with fail
      refine (alive_any w1).mono ?_
      rintro _ w2 ⟨rfl, hb2⟩
      have HB2 := hid (Bn HB.out hb2)
      clear hb2
      go_wp2_with fail
      go_ret
      exact ⟨rfl, HB2.out⟩
    · have h2 : 8 ≤ i := by omega
      go_enter Try.func6, Try.ntmps6
      go_wp2_with fail
      refine HNW.out.mono ?_
      rintro _ w1 ⟨gd, gv, gl, gn, rfl, hd, hb⟩
      have HB := hid hb
      clear hd hb HNW
      go_wp2_with fail
      refine (alive_any w1).mono ?_
      rintro _ w2 ⟨rfl, hb2⟩
      have HB2 := hid (Bn HB.out hb2)
      clear hb2
      go_wp2_with fail
      go_ret
      exact ⟨rfl, HB2.out⟩
  obtain ⟨j1, j2⟩ := hi
  have HJ : Hid (0 ≤ i ∧ i < 8) := ⟨j1, j2⟩
  have j3 : ¬ i < 0 := by omega
  have j4 : ¬ 8 ≤ i := by omega
  obtain ⟨i0, hi0, hz0, hz1, hz2⟩ := info_parts Try.info5c
  go_enter Try.func6, Try.ntmps6
  go_wp2_with fail
  refine HNW.out.mono ?_
  rintro _ w1 ⟨gd, gv, gl, gn, rfl, hd, hb⟩
  have HD := hid hd
  have HB := hid hb
  have hsz1 := hb.size
  clear hd hb HNW
  go_wp2_with (at_make; refine wpList_make_full _ rfl _ _ 33 rfl w.heap.size 5 i0 (.int .u8 0) 1 Try.underlying33 hi0 hz0 hz1 .i64 .i64 _ _ 512 rfl rfl (by rfl) (by rfl) ?b2 ?b3 ?b4 ?_)
  case b2 => rw [hz2]; omega
  case b3 => unfold maxLen; omega
  case b4 => exact hsz1
  intro w2 hown hgr
  rw [toList_madeCells_one] at hown
  have HB2 : Hid (Below w1.heap.size w1 w2) := (Below.refl _ _).grown hgr (Nat.le_refl _) (fun k hk => by cases hk)
  have HR0 : Hid (∃ aw cw, (Value.slice (some ⟨w1.heap.size, 0, none⟩) 512 512) = .slice aw 512 cw ∧ RdI w w2 gd gv gl gn 0 i [] aw cw) := by
    have h1 : w2.ownsRow w.heap.size 5 1 (.slice (some ⟨w1.heap.size, 0, none⟩) 512 512) z512.length (bytesV z512) := by
      rw [blk_z.len]
      unfold bytesV z512
      simpa using hown
    obtain ⟨aw, cw, e, hx⟩ := own_rx (base := w.heap.size) h1 blk_z.fits
    rw [blk_z.len] at e
    exact ⟨aw, cw, e, ⟨_, HD.out.below HB2.out⟩, Nat.le_refl _, hx, Bn HB.out HB2.out⟩
  obtain ⟨aw, cw, ew, hri⟩ := HR0.out
  have HRI := hid hri
  rw [ew]
  clear hri HR0 hown hgr HD HB HB2 hsz1 ew hz0 hz1 hz2 hi0
  go_wp2_with fail
  go_loopw [7, 8] (fun v k wr => ∃ (q : Nat) (O : List (Int × List Int)) (aw : Option Addr) (cw : Nat), k = .int .i64 (q : Int) ∧ q ≤ 60 ∧ v = .slice aw 512 cw ∧ Hid (RdI w wr gd gv gl gn q i O aw cw)) (fun _ k _ => 60 - (intOf k).toNat)
  case atStart => exact ⟨0, [], aw, cw, rfl, by omega, rfl, HRI.out⟩
  case round =>
    clear HRI
    obtain ⟨q, O, aw, cw, rfl, hq, rfl, HI⟩ := hrel
    by_cases hlt : q < n ∧ q < 60
    · obtain ⟨hl1, hl2⟩ := hlt
      have hy1 : (q : Int) < (n : Int) := by omega
      have hy2 : (q : Int) < 60 := by omega
      have hy3 : (0 : Int) ≤ (q : Int) := by omega
      obtain ⟨bL, oL, rfl, hbL, hcL⟩ := HR.out.cells (by rw [← HN.out]; omega)
      obtain ⟨ab, cb, ak, ck, hrg, hop⟩ := hcL q (by rw [← HN.out]; exact hl1)
      have x1 := (HI.out.bel.cell (p := ⟨bL, oL + q * 7 + 1, none⟩) hbL).trans (hrg 1 _ rfl)
      have x5 := (HI.out.bel.cell (p := ⟨bL, oL + q * 7 + 5, none⟩) hbL).trans (hrg 5 _ rfl)
      have HX1 : Hid (∀ W, Below w.heap.size w W → W.cell? ⟨bL, oL + q * 7 + 1, none⟩ = some (.int .i64 (ls.getD q default).i)) := fun W hW => (hW.cell (p := ⟨bL, oL + q * 7 + 1, none⟩) hbL).trans (hrg 1 _ rfl)
      have HCA := hid (cut_any ab cb (ls.getD q default).b wr (hop.b.later HI.out.bel))
      have HRB := hid (hop.b.take 600)
      have hly : ((ls.getD q default).b.take 600).length ≤ 600 := List.length_take_le _ _
      clear hcL hrg hop
      generalize (ls.getD q default).i = xi at *
      generalize (ls.getD q default).b.take 600 = Y at *
      generalize (ls.getD q default).b.length = nb at *
      obtain ⟨ln, hln⟩ : ∃ m, m = Y.length := ⟨_, rfl⟩
      have HLN := hid hln
      rw [← hln] at hly HCA
      clear hln
      go_wp2_with fail
      refine HCA.out.mono ?_
      rintro _ w0 ⟨rfl, hw0⟩
      obtain rfl := hw0.symm
      clear hw0 HCA x5
      obtain ⟨v9, hv9⟩ := HI.out.dv
      have hlen := HI.out.len
      have HWR := hid (write_ok w.heap.size gd gv gl gn q v9 8 _ O (-1) xi ab cb Y wr hv9 (Rx.low HRB.out rfl HI.out.bel) (by omega) (by omega))
      unfold WriPost at HWR
      rw [rd_f, ← HLN.out] at HWR
      have HOB := hid (fun x hx => (hv9.okO x hx).1)
      clear hv9 hlen
      go_wp2_with fail
      refine HWR.out.mono ?_
      rintro _ w3 ⟨rfl, ⟨v3, hd3⟩, hf3⟩
      have x2 := HX1.out w3 (HI.out.bel.trans hf3.bel)
      have HD3 := hid hd3
      have HB3 := hid (HI.out.bel.trans hf3.bel)
      have HW3 := hid (HI.out.want.later hf3)
      have HL3 : Hid ((wrO 8 (-1) xi O Y).length ≤ q + 1) := Nat.le_trans (wrO_len ..) (Nat.add_le_add_right HI.out.len 1)
      clear hd3 hf3 HWR x1
      by_cases hc : wrC 8 (-1) xi ln = 0
      · have hO : wrO 8 (-1) xi O Y = O ++ [(xi, wholeL Y)] := if_pos (by rw [← HLN.out]; exact hc)
        rw [hc]
        by_cases hx : xi = i
        · subst hx
          have hle : ln ≤ 512 := by
            unfold wrC at hc
            rw [if_pos ⟨by omega, by omega⟩] at hc
            by_cases h9 : 512 < ln
            · rw [if_pos h9] at hc; cases hc
            · omega
          have HWH := hid (whole_ref ab cb Y w3 (HRB.out.later HB3.out) (by rw [← HLN.out]; omega))
          unfold WhoPost at HWH
          rw [← HLN.out] at HWH
          go_wp2_with fail
          refine HWH.out.mono ?_
          rintro _ w4 ⟨v4, rfl, hown, hb4⟩
          have HWB := hid (whole_blk (b := Y) (by rw [← HLN.out]; exact hle) (fits_of HRB.out))
          obtain ⟨a4, c4, rfl, hx4⟩ := own_rx (base := w.heap.size) hown HWB.out.fits
          rw [HWB.out.len]
          have HN4 : Hid (RdI w w4 gd gv gl gn (q + 1) xi (wrO 8 (-1) xi O Y) a4 c4) := by
            refine ⟨⟨_, HD3.out.below hb4⟩, HL3.out, ?_, Bn HB3.out hb4⟩
            rw [hO, holdF_app, if_pos rfl]
            exact hx4
          clear hown hb4 hx4 HWH HD3 HB3 HW3 HL3 hc hO HI x2
          go_wp2_with fail
          exact ⟨⟨q + 1, _, a4, c4, by go_num, hl2, rfl, HN4⟩, by simp only [intOf]; omega⟩
        · have hxe : (xi == i) = false := by simpa using hx
          have HN4 : Hid (RdI w w3 gd gv gl gn (q + 1) i (wrO 8 (-1) xi O Y) aw cw) := by
            refine ⟨⟨_, HD3.out⟩, HL3.out, ?_, HB3.out⟩
            rw [hO, holdF_app, if_neg hx]
            exact HW3.out
          clear HD3 HB3 HW3 HL3 hc hO HI
          go_wp2_with fail
          exact ⟨⟨q + 1, _, aw, cw, by go_num, hl2, rfl, HN4⟩, by simp only [intOf]; omega⟩
      · have hO : wrO 8 (-1) xi O Y = O := if_neg (by rw [← HLN.out]; exact hc)
        have HN4 : Hid (RdI w w3 gd gv gl gn (q + 1) i (wrO 8 (-1) xi O Y) aw cw) := by
          refine ⟨⟨_, HD3.out⟩, HL3.out, ?_, HB3.out⟩
          rw [hO]
          exact HW3.out
        generalize wrC 8 (-1) xi ln = e9 at *
        have he9 : (e9 == 0) = false := by simpa using hc
        clear HD3 HB3 HW3 HL3 hc hO HI
        go_wp2_with fail
        exact ⟨⟨q + 1, _, aw, cw, by go_num, hl2, rfl, HN4⟩, by simp only [intOf]; omega⟩
    · have HEND : Hid (∃ v9, Dv wr w.heap.size gd gv gl gn v9 q 8 (fun _ => z512) O (-1)) := HI.out.dv
      by_cases hqn : q < n
      · have hy1 : (q : Int) < (n : Int) := by omega
        have hy2 : ¬ (q : Int) < 60 := by omega
        obtain ⟨v9, hv9⟩ := HEND.out
        have HRE := hid (read_ok w.heap.size gd gv gl gn q v9 8 _ O (-1) i wr hv9 HJ.out)
        unfold ReaPost at HRE
        have HBK := hid (holdF_blk hv9.okL (fun x hx => (hv9.okO x hx).1) i)
        clear hv9 HEND
        go_wp2_with fail
        refine HRE.out.mono ?_
        rintro _ w5 ⟨g, rfl, hg, hgs, hb5⟩
        have hs1 := (ri_arr hg HBK.out).str
        have hs2 := (HI.out.want w5 (Fr.of_below hb5 HI.out.bel.size)).str
        rw [HBK.out.len] at hs1 hs2
        generalize strOfNums (holdF (fun _ => z512) O i) = st at *
        have HB5 := hid (Bn HI.out.bel hb5)
        clear hg hgs hb5 HRE HI HBK
        go_wp2_with fail
        refine (alive_any w5).mono ?_
        rintro _ w6 ⟨rfl, hb6⟩
        have HB6 := hid (Bn HB5.out hb6)
        clear hb6 hs1 hs2
        go_wp2_with fail
        go_ret
        exact ⟨rfl, HB6.out⟩
      · have hy1 : ¬ (q : Int) < (n : Int) := by omega
        obtain ⟨v9, hv9⟩ := HEND.out
        have HRE := hid (read_ok w.heap.size gd gv gl gn q v9 8 _ O (-1) i wr hv9 HJ.out)
        unfold ReaPost at HRE
        have HBK := hid (holdF_blk hv9.okL (fun x hx => (hv9.okO x hx).1) i)
        clear hv9 HEND
        go_wp2_with fail
        refine HRE.out.mono ?_
        rintro _ w5 ⟨g, rfl, hg, hgs, hb5⟩
        have hs1 := (ri_arr hg HBK.out).str
        have hs2 := (HI.out.want w5 (Fr.of_below hb5 HI.out.bel.size)).str
        rw [HBK.out.len] at hs1 hs2
        generalize strOfNums (holdF (fun _ => z512) O i) = st at *
        have HB5 := hid (Bn HI.out.bel hb5)
        clear hg hgs hb5 HRE HI HBK
        go_wp2_with fail
        refine (alive_any w5).mono ?_
        rintro _ w6 ⟨rfl, hb6⟩
        have HB6 := hid (Bn HB5.out hb6)
        clear hb6 hs1 hs2
        go_wp2_with fail
        go_ret
        exact ⟨rfl, HB6.out⟩

set_option maxRecDepth 100000 in
theorem lifted (os : Os) (started : os.Started) (H : Type) (enc : TypeId × Value → H) :
    ReturnsInHanded {} Try.checked os 6 .any (Rows.diskReadsSpec.pre6 enc Try.prog Try.f6 Rows.diskReadsRow.domain false) (Rows.diskReadsSpec.post enc Try.prog Try.f6 false true false false) := by
  refine returnsInHanded_of_change (C := Try.checked) own started (by kernel_rfl) Try.func6
    (ChangeSpec.witness6 (enc := enc) (C := Try.checked) false ⟨#[], #[.slice none 0 0, .int .i64 0], []⟩ 8 (by kernel_rfl) (by kernel_rfl) (by kernel_rfl) (by kernel_rfl)) ?_
  intro W base args ds gs before hval0 hW _ _
  have hval : ∀ (j : Nat) t v, Try.f6.params[j]? = some t → args[j]? = some v → Value.okWide Try.prog W .any base t v := hval0
  have hW' := hW
  obtain ⟨p, q, hA0, hV, rfl, _, _⟩ := hW
  have hA : DataW.TrodAll enc Try.prog W 0 (fun _ => true) true Try.f6.params.toList args.toList ds p := hA0
  rw [Try.params6] at hA hval
  obtain ⟨v0, vs0, d0, ds0, p0, q0, hargs, rfl, rfl, h0, r0⟩ := trodAll_cons hA
  obtain ⟨v1, vs1, d1, ds1, p1, q1, rfl, rfl, rfl, h1, r1⟩ := trodAll_cons r0
  obtain ⟨rfl, rfl, rfl⟩ := trodAll_nil r1
  obtain rfl : args = #[v0, v1] := by cases args; simp_all
  obtain ⟨rfl, rfl⟩ := trodVars_none hV
  obtain ⟨a1, rfl, rfl, rfl, w1⟩ := open_int Try.underlying3 (hval 1 3 v1 rfl rfl) h1
  clear hA0
  simp only [List.append_nil] at hW'
  have hlt0 : ∀ x ∈ p0, x.block < W.heap.size := fun x hx => hW'.lt x (by simp [hx])
  have hk0 := h0
  obtain ⟨a0, cap0, zs0, rfl, hr0⟩ := open_ro (hval 0 22 v0 rfl rfl) h0 hlt0
  clear hval0
  refine (walk a0 cap0 zs0 a1 w1 W hr0).mono fun e W' ⟨he, hb⟩ => ?_
  subst he
  exact ⟨_, rfl, _, _, _, [] ++ [], _, [], hW', trodAll_cons_mk (shut_bool Try.underlying4 _) trodAll_mk0, (trodAll_cons_mk (Below.trod Try.laidOut (by kernel_rfl) (of_decide_eq_true (by kernel_rfl)) hk0 hb hlt0) (trodAll_cons_mk (shut_int Try.underlying3 w1) trodAll_mk0)), rfl, hb.frame _, fun h => by cases h⟩

theorem over : Rows.diskReadsRow.holds Try.pinned (OpenSpec.ofChange Rows.diskReadsSpec) :=
  OpenClaim.holds_of_wide 6 Try.f6 rfl rfl rfl rfl rfl rfl rfl ⟨rfl, rfl, rfl, rfl, rfl⟩ rfl rfl rfl rfl rfl (by kernel_rfl) Try.func6 (by kernel_rfl)
    (of_decide_eq_true (by kernel_rfl)) (by unfold Func.isWrapper; first | (rw [if_pos (by decide +kernel)]; kernel_rfl) | (rw [if_neg (by decide +kernel)]; exact ⟨rfl, rfl⟩))
    (fun os started H enc _ => lifted os started H enc)

end Go.Proofs.Ytldgiimkkgmgaaa.diskReads
namespace Go.Proofs.Ytldgiimkkgmgaaa
theorem diskReads_holds : Rows.DiskReadsSaid := diskReads.over
#print axioms diskReads_holds
end Go.Proofs.Ytldgiimkkgmgaaa
