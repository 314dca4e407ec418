/-
  RollWrites is proved for every input: the chunks that each Write tells, what Close tells and what is left are as the document says, whatever comes and whichever closes are between; no condition.
-/
import Derived.Test.YtcapkkldjgmhfaaPart03
import Derived.Test.YtcapkkldjgmhfaaPart09
namespace Go.Proofs.Ytcapkkldjgmhfaa.rollWrites
open Go.ChangeShapes Go.WideShapes Go.ChangeAt Go.RowKit

theorem own : ownKnob Try.prog.godebug = none := by kernel_rfl

structure WsS (l m b : Int) (g gr : Nat) (w : World) (s h : Int) (R : List Int) (aP : Option Addr) (cP : Nat) (P : List Int) (wr : World) : Prop where
  cu : Cu wr g l m b s h R
  wg : Wg m (R, s, h, [])
  has : Has l m b (R, s, h, []) P []
  rb : Rb wr gr l m b (.slice aP P.length cP)
  ri : Ri wr .u8 aP cP P
  typ : ∀ b' off, 0 < P.length → aP = some ⟨b', off, none⟩ → ∃ cs, wr.heap[b']? = some (.cells cs 5 (0, 0))
  bel : Below w.heap.size w wr
  gl : w.heap.size ≤ g
  grl : w.heap.size ≤ gr
def WsI (l m b : Int) (g gr : Nat) (w : World) (i : Value) (wr : World) : Prop :=
  ∃ (k : Nat) (s h : Int) (R : List Int) (aP : Option Addr) (cP : Nat) (P : List Int), i = .int .i64 (k : Int) ∧ k ≤ 40 ∧ WsS l m b g gr w s h R aP cP P wr
theorem WsS.ne {l m b : Int} {g gr : Nat} {w : World} {s h : Int} {R : List Int} {aP : Option Addr} {cP : Nat} {P : List Int} {wr : World} (k : WsS l m b g gr w s h R aP cP P wr) : g ≠ gr := by
  rintro rfl
  have h1 := k.cu.blk
  have h2 := k.rb
  unfold Rb at h2
  rw [h1] at h2
  simp at h2
theorem rb_typ {gr : Nat} {l m b : Int} {v : Value} {W W' : World} (hc : Rb W gr l m b v) (hb : But1 gr W W') (i : Nat) (cs : Array Value) (t : TypeId) (ht : t ≠ 46) (hi : W.heap[i]? = some (.cells cs t (0, 0))) : W'.heap[i]? = some (.cells cs t (0, 0)) :=
  (hb.same i (Array.getElem?_eq_some_iff.1 hi).1 (by rintro rfl; unfold Rb at hc; rw [hi] at hc; cases hc; exact ht rfl)).trans hi
theorem ri_typ {w W : World} {a : Option Addr} {cap : Nat} {zs : List Int} (hr : Ri w .u8 a cap zs) (ht : ∀ b' off, 0 < zs.length → a = some ⟨b', off, none⟩ → ∃ cs, w.heap[b']? = some (.cells cs 5 (0, 0))) (hk : ∀ (i : Nat) (cs : Array Value), w.heap[i]? = some (.cells cs 5 (0, 0)) → W.heap[i]? = some (.cells cs 5 (0, 0))) : Ri W .u8 a cap zs :=
  hr.blk (fun b off h0 ha => by
    obtain ⟨cs, h1⟩ := ht b off h0 ha
    have h2 := hk b cs h1
    exact ⟨h2.trans h1.symm, (Array.getElem?_eq_some_iff.1 h2).1⟩)
/-- What is begun has the length that the cutter tells. -/
theorem has_len {l m b s h : Int} {R P : List Int} (hc : chkC l m b = 0) (k : Wg m (R, s, h, [])) (hp : Has l m b (R, s, h, []) P []) : (P.length : Int) = s := by
  obtain ⟨k1, k2, k3, k4, k5⟩ := chkC_ok hc
  have h1 := hp.left
  have h2 := k.len
  have h3 := k.s0
  have h4 := k.s1
  dsimp only at h1 h2 h3 h4
  rw [← h1, List.length_take, h2]
  omega
/-- Behind a turn of the code's cutter alone. -/
theorem WsS.code {l m b : Int} {g gr : Nat} {w : World} {s h : Int} {R : List Int} {aP : Option Addr} {cP : Nat} {P : List Int} {wr W : World} (k : WsS l m b g gr w s h R aP cP P wr) (hb : But1 g wr W) :
    Rb W gr l m b (.slice aP P.length cP) ∧ Ri W .u8 aP cP P ∧ (∀ b' off, 0 < P.length → aP = some ⟨b', off, none⟩ → ∃ cs, W.heap[b']? = some (.cells cs 5 (0, 0))) ∧ Below w.heap.size w W := by
  have hk := fun i cs => But1.typ k.cu hb i cs 5 (by decide)
  refine ⟨(hb.same gr k.rb.lt (Ne.symm k.ne)).trans k.rb, ri_typ k.ri k.typ hk, fun b' off h0 ha => ?_, k.bel.trans (hb.below k.bel.size k.gl)⟩
  obtain ⟨cs, h1⟩ := k.typ b' off h0 ha
  exact ⟨cs, hk _ _ h1⟩
set_option maxHeartbeats 6400000 in
set_option maxRecDepth 100000 in
theorem walk (l m b : Int) (a1 : Option Addr) (cap1 : Nat) (Ls : List (List Int)) (a2 : Option Addr) (cap2 : Nat) (Bs : List Bool) (w : World) (hp1 : Ps w a1 cap1 Ls) (hp2 : Bls w a2 cap2 Bs) :
    Calls Try.prog 5 #[.agg #[.int .i64 l, .int .i64 m, .int .i64 b], .slice a1 Ls.length cap1, .slice a2 Bs.length cap2] w fun e w' => e = .returned (.bool true) ∧ Below w.heap.size w w' := by
  have HP1 := hid hp1
  have HP2 := hid hp2
  have hm1 : Ls.length ≤ 9223372036854775807 := by have h1 := hp1.room; have h2 := hp1.most; unfold maxLen at h2; omega
  have hm2 : Bs.length ≤ 9223372036854775807 := by have h1 := hp2.room; have h2 := hp2.most; unfold maxLen at h2; omega
  clear hp1 hp2
  obtain ⟨n1, hn1⟩ : ∃ n, n = Ls.length := ⟨_, rfl⟩
  have HN1 := hid hn1
  rw [← hn1] at hm1 ⊢
  clear hn1
  obtain ⟨n2, hn2⟩ : ∃ n, n = Bs.length := ⟨_, rfl⟩
  have HN2 := hid hn2
  rw [← hn2] at hm2 ⊢
  clear hn2
  have HE0 := hid (heap_new w (.cells #[.int .i64 l, .int .i64 m, .int .i64 b] 23))
  have HB0 := hid (bel_alloc w (.cells #[.int .i64 l, .int .i64 m, .int .i64 b] 23))
  go_enter Try.func5, Try.ntmps5
  go_wp2_with fail
  refine (awake_any _).mono ?_
  rintro _ w1 ⟨rfl, hb1⟩
  have HB1 := hid (Bn HB0.out hb1)
  have HE1 := hid ((hb1.block w.heap.size (Array.getElem?_eq_some_iff.1 HE0.out).1).trans HE0.out)
  clear hb1 HE0 HB0
  have cb0 := Joins.cell_of_block HE1.out 0
  have cb1 := Joins.cell_of_block HE1.out 1
  have cb2 := Joins.cell_of_block HE1.out 2
  simp only [List.getElem?_toArray, List.getElem?_cons_zero, List.getElem?_cons_succ] at cb0 cb1 cb2
  by_cases hc : chkC l m b = 0
  case neg =>
    have HNN := hid (new_no l m b w1 hc)
    have HCC := hid (fun W => check_ref l m b W)
    generalize chkC l m b = c at *
    go_wp2_with fail
    refine HNN.out.mono ?_
    rintro _ w2 ⟨rfl, hb2⟩
    have HB2 := hid (Bn HB1.out hb2)
    have HE2 := hid ((hb2.block w.heap.size (Array.getElem?_eq_some_iff.1 HE1.out).1).trans HE1.out)
    clear hb2 cb0 cb1 cb2
    have cb0 := Joins.cell_of_block HE2.out 0
    have cb1 := Joins.cell_of_block HE2.out 1
    have cb2 := Joins.cell_of_block HE2.out 2
    simp only [List.getElem?_toArray, List.getElem?_cons_zero, List.getElem?_cons_succ] at cb0 cb1 cb2
    have hcb : (c != 0) = true := by simpa using hc
    have hcc : (c != c) = false := by simp
    go_wp2_with fail
    refine (HCC.out w2).mono ?_
    rintro _ w3 ⟨rfl, hb3⟩
    have HB3 := hid (Bn HB2.out hb3)
    clear hb3 cb0 cb1 cb2
    go_wp2_with fail
    go_ret
    exact ⟨rfl, HB3.out⟩
  have HC := hid hc
  have HNW := hid (new_ok l m b w1 hc)
  have HCK := hid (fun W => check_ref l m b W)
  rw [hc] at HCK
  unfold NewPost at HNW
  clear hc
  go_wp2_with fail
  refine HNW.out.mono ?_
  rintro _ w2 ⟨g, hg, rfl, hk, hb2⟩
  have HB2 := hid (Bn HB1.out hb2)
  have HE2 := hid ((hb2.block w.heap.size (Array.getElem?_eq_some_iff.1 HE1.out).1).trans HE1.out)
  have HG : Hid (w.heap.size ≤ g) := Nat.le_trans HB1.out.size hg
  have HK := hid hk
  clear hk hb2 hg cb0 cb1 cb2 HE1 HB1 HNW
  have cb0 := Joins.cell_of_block HE2.out 0
  have cb1 := Joins.cell_of_block HE2.out 1
  have cb2 := Joins.cell_of_block HE2.out 2
  simp only [List.getElem?_toArray, List.getElem?_cons_zero, List.getElem?_cons_succ] at cb0 cb1 cb2
  go_wp2_with fail
  refine (HCK.out w2).mono ?_
  rintro _ w3 ⟨rfl, hb3⟩
  have HB3 := hid (Bn HB2.out hb3)
  have HE3 := hid ((hb3.block w.heap.size (Array.getElem?_eq_some_iff.1 HE2.out).1).trans HE2.out)
  replace HK := hid (HK.out.later (hb3.block g HK.out.lt))
  clear hb3 cb0 cb1 cb2 HE2 HB2 HCK
  have cb0 := Joins.cell_of_block HE3.out 0
  have cb1 := Joins.cell_of_block HE3.out 1
  have cb2 := Joins.cell_of_block HE3.out 2
  simp only [List.getElem?_toArray, List.getElem?_cons_zero, List.getElem?_cons_succ] at cb0 cb1 cb2
  go_wp2_with (refine wpList_build_one rfl 46 (.tmp 36) rfl (.agg #[.int .i64 l, .int .i64 m, .int .i64 b]) (.agg #[.int .i64 l, .int .i64 m, .int .i64 b, .slice none 0 0]) rfl (build_rc l m b _) ?_)
  have HBA := hid (bel_alloc w3 (.cells #[.int .i64 l, .int .i64 m, .int .i64 b, .slice none 0 0] 46))
  have HRB := hid (rnew_rb l m b w3)
  have HW0 : Hid (WsS l m b g w3.heap.size w 0 0 z4 none 0 [] (w3.alloc (.cells #[.int .i64 l, .int .i64 m, .int .i64 b, .slice none 0 0] 46))) := by
    obtain ⟨k1, k2, k3, k4, k5⟩ := chkC_ok HC.out
    exact ⟨HK.out.later (HBA.out.block g HK.out.lt), Wg.zero (by omega) z4_len z4_fits, ⟨rfl, trivial, rfl, rfl⟩, HRB.out, Ri.none _ _ _ (by unfold maxLen; omega), fun _ _ h => absurd h (Nat.lt_irrefl _), Bn HB3.out HBA.out, HG.out, HB3.out.size⟩
  clear HK HB3 HE3 HBA HRB cb0 cb1 cb2
  generalize w3.alloc (.cells #[.int .i64 l, .int .i64 m, .int .i64 b, .slice none 0 0] 46) = w4 at *
  generalize w3.heap.size = gr at *
  go_loopw [10] (fun i wr => WsI l m b g gr w i wr) (fun i _ => 40 - (intOf i).toNat)
  case atStart => exact ⟨0, 0, 0, z4, none, 0, [], rfl, by omega, HW0.out⟩
  case round =>
    clear HW0
    obtain ⟨k, s, h, R, aP, cP, P, rfl, hk, hws⟩ := hrel
    have HWS := hid hws
    clear hws
    by_cases hlt : k < n1 ∧ k < 40
    case neg =>
      by_cases hkn : k < n1
      · have hz1 : (k : Int) < (n1 : Int) := by omega
        have hz2 : ¬ (k : Int) < 40 := by omega
        go_wp2_with fail
        go_ret
        exact ⟨rfl, HWS.out.bel⟩
      · have hz1 : ¬ (k : Int) < (n1 : Int) := by omega
        go_wp2_with fail
        go_ret
        exact ⟨rfl, HWS.out.bel⟩
    obtain ⟨hlt1, hlt2⟩ := hlt
    have hz1 : (k : Int) < (n1 : Int) := by omega
    have hz2 : (k : Int) < 40 := by omega
    have hz3 : (0 : Int) ≤ (k : Int) := by omega
    obtain ⟨bL, oL, rfl, hbL, hcL⟩ := HP1.out.cells (by rw [← HN1.out]; omega)
    obtain ⟨aj, cj, hce, hri⟩ := hcL k (by rw [← HN1.out]; exact hlt1)
    have x1 := (HWS.out.bel.cell (p := ⟨bL, oL + k, none⟩) hbL).trans hce
    have HCA := hid (cut_any aj cj (Ls.getD k []) wr (hri.later HWS.out.bel))
    have HRY := hid (hri.take 8192)
    have hly : ((Ls.getD k []).take 8192).length ≤ 8192 := List.length_take_le _ _
    clear hri hce hcL
    generalize (Ls.getD k []).take 8192 = Y at *
    generalize (Ls.getD k []).length = n9 at *
    go_wp2_with fail
    refine HCA.out.mono ?_
    rintro _ w0 ⟨rfl, hw⟩
    obtain rfl := hw.symm
    clear hw HCA x1
    by_cases hkc : k < n2
    · have hz4 : (k : Int) < (n2 : Int) := by omega
      obtain ⟨bC, oC, rfl, hbC, hcC⟩ := HP2.out.cells (by rw [← HN2.out]; omega)
      have x2 := (HWS.out.bel.cell (p := ⟨bC, oC + k, none⟩) hbC).trans (hcC k (by rw [← HN2.out]; exact hkc))
      clear hcC
      cases hcb : Bs.getD k false
      · rw [hcb] at x2
        have HFY : Hid (∀ z ∈ Y, 0 ≤ z ∧ z ≤ 255) := fits_mem.1 (fun j => wf_u8 (HRY.out.fits j))
        have HWR := hid (write_ok g l m b s h R aj cj Y wr HC.out HWS.out.cu (HRY.out.later HWS.out.bel) (fun b' off h0 e => by obtain ⟨b9, o9, e9, hb9, _⟩ := HRY.out.cells h0; rw [e9] at e; cases e; have := HWS.out.gl; omega) HWS.out.wg.s0 HWS.out.wg.s1 HWS.out.wg.h0 HWS.out.wg.h1 (by omega))
        have HWN := hid (Nat.le_trans (wr_len l m b s h R Y) (show Y.length ≤ 1048576 by omega))
        have HWG := hid (wr_good (bs := Y) HC.out HFY.out HWS.out.wg)
        have HHW := hid (has_wr HC.out R Y P s h HFY.out HWS.out.wg HWS.out.has (P ++ Y).length (by rw [List.length_append]; exact Nat.le_refl _))
        have HPL : Hid ((P).length + Y.length ≤ 1048576) := by
          have h1 := has_len HC.out HWS.out.wg HWS.out.has
          have h2 := HWS.out.wg.s1
          obtain ⟨k1, k2, k3, k4, k5⟩ := chkC_ok HC.out
          dsimp only at h2
          show _ ≤ _
          omega
        have HLN : Hid ((P).length = (P).length) := rfl
        unfold WriPost at HWR
        generalize wrO l m b s h R Y = S4 at *
        obtain ⟨R4, s4, h4, L4⟩ := S4
        dsimp only at HWR HWN HWG HHW
        obtain ⟨q1, q2, q3, q4⟩ := HHW.out
        dsimp only at q1 q2 q3 q4
        have HH4 : Hid (Has l m b (R4, s4, h4, []) (docW l m b (P ++ Y).length (P ++ Y)).2 []) := ⟨q1, q2, q3, rfl⟩
        have HL4 := hid q4
        have HW4 : Hid (Wg m (R4, s4, h4, [])) := ⟨HWG.out.s0, HWG.out.s1, HWG.out.h0, HWG.out.h1, HWG.out.hz, HWG.out.len, HWG.out.fR, fun _ h => by cases h⟩
        have HSL := hid (has_len HC.out HW4.out HH4.out)
        clear q1 q2 q3 q4 HHW HLN
        go_wp2_with fail
        refine HWR.out.mono ?_
        rintro _ w7 ⟨x, rfl, hch, hcu, hbt⟩
        obtain ⟨j1, j2, j3, j4⟩ := HWS.out.code hbt
        have HCH := hid hch
        have HCU := hid hcu
        have HJ1 := hid j1
        have HJ2 := hid j2
        have HJ3 := hid j3
        have HJ4 := hid j4
        have HGL := hid HWS.out.gl
        have HGR := hid HWS.out.grl
        have HNE := hid HWS.out.ne
        clear hch hcu hbt j1 j2 j3 j4 HWR HWS
        go_wp2_with fail
        refine wp_region_held_drew (S := fun W => But1 gr w7 W) (by kernel_rfl) (But1.of_below (Below.refl _ _).drew) (fun hS0 => ?_)
        have hvb : Below w7.heap.size w7 w7.drew := (Below.refl _ _).drew
        have HRW := hid (rwrite_ref gr l m b aP cP (P) aj cj Y w7.drew HC.out ((hvb.block gr HJ1.out.lt).trans HJ1.out) (HJ2.out.later hvb) (HRY.out.later (Bn HJ4.out hvb)) HPL.out)
        replace HJ4 := hid (Bn HJ4.out hvb)
        replace HCU := hid (HCU.out.later (hvb.block g HCU.out.lt))
        replace HCH := hid (HCH.out.typ (fun i cs t _ hi => (hvb.block i (Array.getElem?_eq_some_iff.1 hi).1).trans hi))
        replace HJ1 := hid ((hvb.block gr HJ1.out.lt).trans HJ1.out)
        unfold RwPost at HRW
        generalize docW l m b (P ++ Y).length (P ++ Y) = D at *
        obtain ⟨D1, D2⟩ := D
        dsimp only at HRW HH4 HL4 HSL
        have hs4 := HL4.out
        subst hs4
        clear hvb HJ2 HJ3
        generalize w7.drew = v0 at *
        refine Ord.take (i := 0) (d := 90) (v := ?vb0) rfl rfl (by as_aux_lemma => kernel_rfl) (by as_aux_lemma => kernel_rfl) (by as_aux_lemma => kernel_rfl) (fun _ _ _ h => h) (by rfl) ?hb0 (by assumption) ?_
        case hb0 => intro w hSw; go_simp; try with_reducible rfl
        simp only [List.setIfInBounds_toArray, List.set_cons_zero, List.set_cons_succ]
        refine Ord.take (i := 1) (d := 91) (v := ?vb1) rfl rfl (by as_aux_lemma => kernel_rfl) (by as_aux_lemma => kernel_rfl) (by as_aux_lemma => kernel_rfl) (fun _ _ _ h => h) (by rfl) ?hb1 (by assumption) ?_
        case hb1 => intro w hSw; go_simp; try with_reducible rfl
        simp only [List.setIfInBounds_toArray, List.set_cons_zero, List.set_cons_succ]
        refine Ord.take (i := 2) (d := 92) (v := ?vb2) rfl rfl (by as_aux_lemma => kernel_rfl) (by as_aux_lemma => kernel_rfl) (by as_aux_lemma => kernel_rfl) (fun _ _ _ h => h) (by rfl) ?hb2 (by assumption) ?_
        case hb2 => intro w hSw; go_simp; try with_reducible rfl
        simp only [List.setIfInBounds_toArray, List.set_cons_zero, List.set_cons_succ]
        refine Ord.take (i := 3) (d := 93) (v := ?vb3) rfl rfl (by as_aux_lemma => kernel_rfl) (by as_aux_lemma => kernel_rfl) (by as_aux_lemma => kernel_rfl) (fun _ _ _ h => h) (by rfl) ?hb3 (by assumption) ?_
        case hb3 => intro w hSw; go_simp; try with_reducible rfl
        simp only [List.setIfInBounds_toArray, List.set_cons_zero, List.set_cons_succ]
        refine Ord.take (i := 4) (d := 94) (v := ?vb4) rfl rfl (by as_aux_lemma => kernel_rfl) (by as_aux_lemma => kernel_rfl) (by as_aux_lemma => kernel_rfl) (fun _ _ _ h => h) (by rfl) ?hb4 (by assumption) ?_
        case hb4 => intro w hSw; go_simp; try with_reducible rfl
        simp only [List.setIfInBounds_toArray, List.set_cons_zero, List.set_cons_succ]
        refine Ord.take (i := 5) (d := 95) (v := ?vb5) rfl rfl (by as_aux_lemma => kernel_rfl) (by as_aux_lemma => kernel_rfl) (by as_aux_lemma => kernel_rfl) (fun _ _ _ h => h) (by rfl) ?hb5 (by assumption) ?_
        case hb5 => intro w hSw; go_simp; try with_reducible rfl
        simp only [List.setIfInBounds_toArray, List.set_cons_zero, List.set_cons_succ]
        refine wpAnyH_ready (rs := [6]) (by as_aux_lemma => kernel_rfl) (by simp) (AllReadyH.cons rfl (fun K hK => ?_) AllReadyH.nil)
        go_simp
        refine HRW.out.mono ?_
        rintro _ v1 ⟨y, a8, c8, rfl, hcy, hrb8, hri8, htp8, hbt8⟩
        refine hK.out _ _ (hS0.trans hbt8) (fun _ => ?_)
        clear hK K
        have HB8 := hid (HJ4.out.trans (hbt8.below HJ4.out.size HGR.out))
        have HCU8 := hid (HCU.out.but hbt8 HNE.out)
        have hlx : L4.length ≤ 1048576 := HWN.out
        obtain ⟨ax, cx, rfl, hcx⟩ := (HCH.out.typ (fun i cs t e hi => rb_typ HJ1.out hbt8 i cs t (by rcases e with rfl | rfl <;> decide) hi)).cs hlx HWG.out.fL
        obtain ⟨ay, cy, rfl, hcy2⟩ := hcy.cs hlx HWG.out.fL
        have HSM := hid (same_eq ax ay cx cy L4 v1 hcx hcy2)
        have HRB8 := hid hrb8
        have HRI8 := hid hri8
        have HTP8 := hid htp8
        have hS1 := hS0.trans hbt8
        clear hcx hcy2 hcy hrb8 hri8 htp8 hbt8 hS0 HRW HCH HJ1 HCU hlx
        refine Ord.more (S' := fun W => Below v1.heap.size v1 W) (fun W hW => hS1.trans (But1.of_below hW)) _ _ _ _ ?_
        have hS2 : Below v1.heap.size v1 v1 := Below.refl _ _
        obtain ⟨nl, hnl⟩ : ∃ n, n = L4.length := ⟨_, rfl⟩
        rw [← hnl] at HSM ⊢
        clear hnl
        try simp only [List.setIfInBounds_toArray, List.set_cons_zero, List.set_cons_succ]
        refine wpAnyH_ready (rs := [7]) (by as_aux_lemma => kernel_rfl) (by simp) (AllReadyH.cons rfl (fun K hK => ?_) AllReadyH.nil)
        go_simp
        refine HSM.out.mono ?_
        rintro _ v2 ⟨rfl, hb9⟩
        have hS3 := hS2.trans (hb9.mono hS2.size)
        refine hK.out _ _ hS3 (fun _ => ?_)
        clear hK K hb9 hS2 hS1
        try simp only [List.setIfInBounds_toArray, List.set_cons_zero, List.set_cons_succ]
        have HRC : Hid (∀ W, Below v1.heap.size v1 W → W.cell? ⟨gr, 3, none⟩ = some (.slice a8 D2.length c8)) := fun W hW => (Rb.cells ((hW.block gr HRB8.out.lt).trans HRB8.out)).2.2.2
        obtain ⟨nd, hnd⟩ : ∃ n, n = D2.length := ⟨_, rfl⟩
        have HND := hid hnd
        rw [← hnd] at HRC
        have hsl := HSL.out
        rw [← hnd] at hsl
        subst hsl
        clear hnd
        have e9 : ((nd : Int) != (nd : Int)) = false := by simp
        refine Ord.take (i := 8) (d := 98) (v := ?vb8) rfl rfl (by as_aux_lemma => kernel_rfl) (by as_aux_lemma => kernel_rfl) (by as_aux_lemma => kernel_rfl) (fun _ _ _ h => h) (by rfl) ?hb8 (by assumption) ?_
        case hb8 => intro w hSw; go_simp; try with_reducible rfl
        simp only [List.setIfInBounds_toArray, List.set_cons_zero, List.set_cons_succ]
        refine Ord.take (i := 9) (d := 99) (v := ?vb9) rfl rfl (by as_aux_lemma => kernel_rfl) (by as_aux_lemma => kernel_rfl) (by as_aux_lemma => kernel_rfl) (fun _ _ _ h => h) (by rfl) ?hb9 (by assumption) ?_
        case hb9 => intro w hSw; go_simp; try with_reducible rfl
        simp only [List.setIfInBounds_toArray, List.set_cons_zero, List.set_cons_succ]
        refine Ord.take (i := 10) (d := 100) (v := ?vb10) rfl rfl (by as_aux_lemma => kernel_rfl) (by as_aux_lemma => kernel_rfl) (by as_aux_lemma => kernel_rfl) (fun _ _ _ h => h) (by rfl) ?hb10 (by assumption) ?_
        case hb10 => intro w hSw; go_simp; try with_reducible rfl
        simp only [List.setIfInBounds_toArray, List.set_cons_zero, List.set_cons_succ]
        refine Ord.take (i := 11) (d := 101) (v := ?vb11) rfl rfl (by as_aux_lemma => kernel_rfl) (by as_aux_lemma => kernel_rfl) (by as_aux_lemma => kernel_rfl) (fun _ _ _ h => h) (by rfl) ?hb11 (by assumption) ?_
        case hb11 => intro w hSw; go_simp; try with_reducible rfl
        simp only [List.setIfInBounds_toArray, List.set_cons_zero, List.set_cons_succ]
        refine Ord.take (i := 13) (d := 103) (v := ?vb13) rfl rfl (by as_aux_lemma => kernel_rfl) (by as_aux_lemma => kernel_rfl) (by as_aux_lemma => kernel_rfl) (fun _ _ _ h => h) (by rfl) ?hb13 (by assumption) ?_
        case hb13 => intro w hSw; go_simp; try with_reducible rfl
        simp only [List.setIfInBounds_toArray, List.set_cons_zero, List.set_cons_succ]
        refine Ord.take (i := 14) (d := 104) (v := ?vb14) rfl rfl (by as_aux_lemma => kernel_rfl) (by as_aux_lemma => kernel_rfl) (by as_aux_lemma => kernel_rfl) (fun _ _ _ h => h) (by rfl) ?hb14 (by assumption) ?_
        case hb14 => intro w hSw; go_simp; try with_reducible rfl
        simp only [List.setIfInBounds_toArray, List.set_cons_zero, List.set_cons_succ]
        refine Ord.take (i := 15) (d := 105) (v := ?vb15) rfl rfl (by as_aux_lemma => kernel_rfl) (by as_aux_lemma => kernel_rfl) (by as_aux_lemma => kernel_rfl) (fun _ _ _ h => h) (by rfl) ?hb15 (by assumption) ?_
        case hb15 => intro w hSw; go_simp; try with_reducible rfl
        simp only [List.setIfInBounds_toArray, List.set_cons_zero, List.set_cons_succ]
        refine Ord.take (i := 16) (d := 106) (v := .slice a8 nd c8) rfl rfl (by as_aux_lemma => kernel_rfl) (by as_aux_lemma => kernel_rfl) (by as_aux_lemma => kernel_rfl) (fun _ _ _ h => h) (by rfl) ?hb16 (by assumption) ?_
        case hb16 => intro w hSw; have q3 := HRC.out w hSw; go_simp; try with_reducible rfl
        simp only [List.setIfInBounds_toArray, List.set_cons_zero, List.set_cons_succ]
        refine Ord.take (i := 17) (d := 107) (v := .int .i64 (nd : Int)) rfl rfl (by as_aux_lemma => kernel_rfl) (by as_aux_lemma => kernel_rfl) (by as_aux_lemma => kernel_rfl) (fun _ _ _ h => h) (by rfl) ?hb17 (by assumption) ?_
        case hb17 => intro w hSw; go_simp; try with_reducible rfl
        simp only [List.setIfInBounds_toArray, List.set_cons_zero, List.set_cons_succ]
        refine wpAnyH_ready (rs := [12]) (by as_aux_lemma => kernel_rfl) (by simp) (AllReadyH.cons rfl (fun K hK => ?_) AllReadyH.nil)
        go_simp
        refine (left_ok g l m b (nd : Int) h4 R4 v2 (HCU8.out.later (hS3.block g HCU8.out.lt)) HC.out).mono ?_
        rintro _ v3 ⟨rfl, hb10⟩
        have hS4 := hS3.trans (hb10.mono hS3.size)
        refine hK.out _ _ hS4 (fun _ => ?_)
        clear hK K hb10 hS3
        try simp only [List.setIfInBounds_toArray, List.set_cons_zero, List.set_cons_succ]
        refine Ord.take (i := 18) (d := 108) (v := .bool false) rfl rfl (by as_aux_lemma => kernel_rfl) (by as_aux_lemma => kernel_rfl) (by as_aux_lemma => kernel_rfl) (fun _ _ _ h => h) (by rfl) ?hb18 (by assumption) ?_
        case hb18 => intro w hSw; go_simp; try with_reducible rfl
        simp only [List.setIfInBounds_toArray, List.set_cons_zero, List.set_cons_succ]
        refine Ord.take (i := 19) (d := 109) (v := .bool false) rfl rfl (by as_aux_lemma => kernel_rfl) (by as_aux_lemma => kernel_rfl) (by as_aux_lemma => kernel_rfl) (fun _ _ _ h => h) (by rfl) ?hb19 (by assumption) ?_
        case hb19 => intro w hSw; go_simp; try with_reducible rfl
        simp only [List.setIfInBounds_toArray, List.set_cons_zero, List.set_cons_succ]
        refine wpAnyH_done (by as_aux_lemma => kernel_rfl) ?_ _
        have HWF : Hid (WsS l m b g gr w (nd : Int) h4 R4 a8 c8 D2 v3) :=
          ⟨HCU8.out.later (hS4.block g HCU8.out.lt), HW4.out, HH4.out, (hS4.block gr HRB8.out.lt).trans HRB8.out, HRI8.out.later hS4, fun b' off h0 ha => by
            obtain ⟨_, cs, h1⟩ := HTP8.out b' off h0 ha
            exact ⟨cs, (hS4.block b' (Array.getElem?_eq_some_iff.1 h1).1).trans h1⟩, Bn HB8.out hS4, HGL.out, HGR.out⟩
        clear hS4 HCU8 HRB8 HRI8 HTP8 HB8 HRC HW4 HH4 HWG HWN HFY HRY HPL HJ4 HSM HL4 HSL HND
        go_wp2_with fail
        exact ⟨⟨k + 1, (nd : Int), h4, R4, a8, c8, D2, rfl, by omega, HWF.out⟩, by simp only [intOf]; omega⟩
      · rw [hcb] at x2
        have HSL0 := hid (has_len HC.out HWS.out.wg HWS.out.has)
        have hs0 := HSL0.out
        obtain ⟨nP, hnP⟩ : ∃ n, n = P.length := ⟨_, rfl⟩
        have HNP := hid hnP
        rw [← hnP] at hs0
        subst hs0
        have HN4 : Hid (nP ≤ 4096) := by
          have h2 := HWS.out.wg.s1
          obtain ⟨k1, k2, k3, k4, k5⟩ := chkC_ok HC.out
          dsimp only at h2
          show _ ≤ _
          omega
        clear hnP HSL0
        have HCL := hid (close_ok g l m b h nP R wr HWS.out.cu HN4.out HC.out)
        unfold CloPost at HCL
        go_wp2_with fail
        refine HCL.out.mono ?_
        rintro _ w5 ⟨x5, rfl, hown, hcu5, hbt5⟩
        obtain ⟨j1, j2, j3, j4⟩ := HWS.out.code hbt5
        have htk : R.take nP = P := by have h1 := HWS.out.has.left; dsimp only at h1; rw [Int.toNat_natCast] at h1; exact h1
        rw [htk] at hown
        have hfp : ∀ j, (Lit.int .u8 (P.getD j 0)).wf = true := HWS.out.ri.fits
        have hown2 : w5.ownsRow wr.heap.size 5 1 x5 P.length (P.map (Value.int .u8)) := by rw [← HNP.out]; exact hown
        obtain ⟨a5, c5, rfl, hri5⟩ := Ri.own hown2 hfp
        have HX5 : Hid (∀ W, But1 gr w5 W → (convert 25 9 (.slice a5 nP c5)).run Try.prog W = .ok (.string (strOfNums P)) W) := fun W hW => by
          have h1 : Ri W .u8 a5 c5 P := by
            refine ri_typ hri5 (fun b' off h0 ha => ?_) (fun i cs hi => rb_typ j1 hW i cs 5 (by decide) hi)
            rcases hown2.2 with ⟨e, h9⟩ | ⟨gg, cp, cur, e, h9, h10, _⟩
            · injection e with e1; rw [e1] at ha; cases ha
            · injection e with e1; rw [e1] at ha; cases ha; exact ⟨_, h10⟩
          have h2 := h1.str W (Below.refl _ _)
          rw [← HNP.out] at h2
          exact h2
        have HP5 : Hid (∀ W, But1 gr w5 W → (convert 25 9 (.slice aP nP cP)).run Try.prog W = .ok (.string (strOfNums P)) W) := fun W hW => by
          have h2 := (ri_typ j2 j3 (fun i cs hi => rb_typ j1 hW i cs 5 (by decide) hi)).str W (Below.refl _ _)
          rw [← HNP.out] at h2
          exact h2
        rw [← HNP.out] at j1
        have HJ1 := hid j1
        have HJ4 := hid j4
        have HCU5 := hid hcu5
        have HGL := hid HWS.out.gl
        have HGR := hid HWS.out.grl
        have HNE := hid HWS.out.ne
        have HR4 := hid HWS.out.wg.len
        have HRF := hid HWS.out.wg.fR
        rw [← HNP.out]
        generalize strOfNums P = sp at *
        clear hown hown2 hcu5 hbt5 j1 j2 j3 j4 htk hfp hri5 HCL HWS x2
        go_wp2_with fail
        refine wp_region_held_drew (S := fun W => But1 gr w5 W) (by kernel_rfl) (But1.of_below (Below.refl _ _).drew) (fun hS0 => ?_)
        have hvb : Below w5.heap.size w5 w5.drew := (Below.refl _ _).drew
        have HRC := hid (rclose_ref gr l m b (.slice aP nP cP) w5.drew ((hvb.block gr HJ1.out.lt).trans HJ1.out))
        replace HCU5 := hid (HCU5.out.later (hvb.block g HCU5.out.lt))
        replace HJ4 := hid (Bn HJ4.out hvb)
        replace HJ1 : Hid (Rb w5.drew gr l m b (.slice aP nP cP)) := (hvb.block gr HJ1.out.lt).trans HJ1.out
        clear hvb
        generalize w5.drew = v0 at *
        refine Ord.take (i := 0) (d := 69) (v := ?vp0) rfl rfl (by as_aux_lemma => kernel_rfl) (by as_aux_lemma => kernel_rfl) (by as_aux_lemma => kernel_rfl) (fun _ _ _ h => h) (by rfl) ?hp0 (by assumption) ?_
        case hp0 => intro w hSw; go_simp; try with_reducible rfl
        simp only [List.setIfInBounds_toArray, List.set_cons_zero, List.set_cons_succ]
        refine Ord.take (i := 1) (d := 70) (v := ?vp1) rfl rfl (by as_aux_lemma => kernel_rfl) (by as_aux_lemma => kernel_rfl) (by as_aux_lemma => kernel_rfl) (fun _ _ _ h => h) (by rfl) ?hp1 (by assumption) ?_
        case hp1 => intro w hSw; go_simp; try with_reducible rfl
        simp only [List.setIfInBounds_toArray, List.set_cons_zero, List.set_cons_succ]
        refine Ord.take (i := 2) (d := 71) (v := ?vp2) rfl rfl (by as_aux_lemma => kernel_rfl) (by as_aux_lemma => kernel_rfl) (by as_aux_lemma => kernel_rfl) (fun _ _ _ h => h) (by rfl) ?hp2 (by assumption) ?_
        case hp2 => intro w hSw; go_simp; try with_reducible rfl
        simp only [List.setIfInBounds_toArray, List.set_cons_zero, List.set_cons_succ]
        refine Ord.take (i := 3) (d := 72) (v := ?vp3) rfl rfl (by as_aux_lemma => kernel_rfl) (by as_aux_lemma => kernel_rfl) (by as_aux_lemma => kernel_rfl) (fun _ _ _ h => h) (by rfl) ?hp3 (by assumption) ?_
        case hp3 => intro w hSw; go_simp; try with_reducible rfl
        simp only [List.setIfInBounds_toArray, List.set_cons_zero, List.set_cons_succ]
        refine Ord.take (i := 4) (d := 73) (v := .string sp) rfl rfl (by as_aux_lemma => kernel_rfl) (by as_aux_lemma => kernel_rfl) (by as_aux_lemma => kernel_rfl) (fun _ _ _ h => h) (by rfl) ?hp4 (by assumption) ?_
        case hp4 => intro w hSw; have q3 := HX5.out w hSw; go_simp; try with_reducible rfl
        simp only [List.setIfInBounds_toArray, List.set_cons_zero, List.set_cons_succ]
        refine Ord.take (i := 5) (d := 74) (v := ?vp5) rfl rfl (by as_aux_lemma => kernel_rfl) (by as_aux_lemma => kernel_rfl) (by as_aux_lemma => kernel_rfl) (fun _ _ _ h => h) (by rfl) ?hp5 (by assumption) ?_
        case hp5 => intro w hSw; go_simp; try with_reducible rfl
        simp only [List.setIfInBounds_toArray, List.set_cons_zero, List.set_cons_succ]
        refine wpAnyH_ready (rs := [6]) (by as_aux_lemma => kernel_rfl) (by simp) (AllReadyH.cons rfl (fun K hK => ?_) AllReadyH.nil)
        go_simp
        refine HRC.out.mono ?_
        rintro _ v1 ⟨rfl, rfl⟩
        have hS1 : But1 gr w5 (v0.setCell ⟨gr, 3, none⟩ (.slice none 0 0)) := hS0.set _
        refine hK.out _ _ hS1 (fun _ => ?_)
        clear hK K
        have hbt : But1 gr v0 (v0.setCell ⟨gr, 3, none⟩ (.slice none 0 0)) := (But1.of_below (Below.refl _ _)).set _
        have HRB := hid (HJ1.out.put (.slice none 0 0))
        replace HJ4 := hid (HJ4.out.trans (hbt.below HJ4.out.size HGR.out))
        replace HCU5 := hid (HCU5.out.but hbt HNE.out)
        clear hbt hS0 HRC HJ1
        generalize v0.setCell ⟨gr, 3, none⟩ (.slice none 0 0) = v1 at *
        try simp only [List.setIfInBounds_toArray, List.set_cons_zero, List.set_cons_succ]
        refine Ord.take (i := 7) (d := 76) (v := .string sp) rfl rfl (by as_aux_lemma => kernel_rfl) (by as_aux_lemma => kernel_rfl) (by as_aux_lemma => kernel_rfl) (fun _ _ _ h => h) (by rfl) ?hp7 (by assumption) ?_
        case hp7 => intro w hSw; have q3 := HP5.out w hSw; go_simp; try with_reducible rfl
        simp only [List.setIfInBounds_toArray, List.set_cons_zero, List.set_cons_succ]
        refine Ord.take (i := 8) (d := 77) (v := .bool false) rfl rfl (by as_aux_lemma => kernel_rfl) (by as_aux_lemma => kernel_rfl) (by as_aux_lemma => kernel_rfl) (fun _ _ _ h => h) (by rfl) ?hp8 (by assumption) ?_
        case hp8 => intro w hSw; go_simp; try with_reducible rfl
        simp only [List.setIfInBounds_toArray, List.set_cons_zero, List.set_cons_succ]
        refine Ord.take (i := 9) (d := 78) (v := .bool false) rfl rfl (by as_aux_lemma => kernel_rfl) (by as_aux_lemma => kernel_rfl) (by as_aux_lemma => kernel_rfl) (fun _ _ _ h => h) (by rfl) ?hp9 (by assumption) ?_
        case hp9 => intro w hSw; go_simp; try with_reducible rfl
        simp only [List.setIfInBounds_toArray, List.set_cons_zero, List.set_cons_succ]
        refine Ord.take (i := 10) (d := 79) (v := .bool false) rfl rfl (by as_aux_lemma => kernel_rfl) (by as_aux_lemma => kernel_rfl) (by as_aux_lemma => kernel_rfl) (fun _ _ _ h => h) (by rfl) ?hp10 (by assumption) ?_
        case hp10 => intro w hSw; go_simp; try with_reducible rfl
        simp only [List.setIfInBounds_toArray, List.set_cons_zero, List.set_cons_succ]
        refine Ord.take (i := 11) (d := 80) (v := ?vp11) rfl rfl (by as_aux_lemma => kernel_rfl) (by as_aux_lemma => kernel_rfl) (by as_aux_lemma => kernel_rfl) (fun _ _ _ h => h) (by rfl) ?hp11 (by assumption) ?_
        case hp11 => intro w hSw; go_simp; try with_reducible rfl
        simp only [List.setIfInBounds_toArray, List.set_cons_zero, List.set_cons_succ]
        refine wpAnyH_ready (rs := [12]) (by as_aux_lemma => kernel_rfl) (by simp) (AllReadyH.cons rfl (fun K hK => ?_) AllReadyH.nil)
        go_simp
        refine (left_ok g l m b 0 0 R v1 HCU5.out HC.out).mono ?_
        rintro _ v2 ⟨rfl, hb10⟩
        have hS2 := hS1.trans (But1.of_below hb10)
        refine hK.out _ _ hS2 (fun _ => ?_)
        have HB10 := hid hb10
        clear hK K hb10 hS1
        try simp only [List.setIfInBounds_toArray, List.set_cons_zero, List.set_cons_succ]
        refine Ord.take (i := 13) (d := 82) (v := .bool false) rfl rfl (by as_aux_lemma => kernel_rfl) (by as_aux_lemma => kernel_rfl) (by as_aux_lemma => kernel_rfl) (fun _ _ _ h => h) (by rfl) ?hp13 (by assumption) ?_
        case hp13 => intro w hSw; go_simp; try with_reducible rfl
        simp only [List.setIfInBounds_toArray, List.set_cons_zero, List.set_cons_succ]
        refine Ord.take (i := 14) (d := 83) (v := .bool false) rfl rfl (by as_aux_lemma => kernel_rfl) (by as_aux_lemma => kernel_rfl) (by as_aux_lemma => kernel_rfl) (fun _ _ _ h => h) (by rfl) ?hp14 (by assumption) ?_
        case hp14 => intro w hSw; go_simp; try with_reducible rfl
        simp only [List.setIfInBounds_toArray, List.set_cons_zero, List.set_cons_succ]
        refine wpAnyH_done (by as_aux_lemma => kernel_rfl) ?_ _
        have HWS : Hid (WsS l m b g gr w 0 0 R none 0 [] v2) := by
          obtain ⟨k1, k2, k3, k4, k5⟩ := chkC_ok HC.out
          exact ⟨HCU5.out.later (HB10.out.block g HCU5.out.lt), Wg.zero (by omega) HR4.out (fits_mem.2 HRF.out), ⟨rfl, trivial, rfl, rfl⟩, (HB10.out.block gr HRB.out.lt).trans HRB.out, Ri.none _ _ _ (by unfold maxLen; omega), fun _ _ h => absurd h (Nat.lt_irrefl _), Bn HJ4.out HB10.out, HGL.out, HGR.out⟩
        clear hS2 HB10 HCU5 HRB HJ4 HX5 HP5 HGL HGR HNE HR4 HRF
        have HFY : Hid (∀ z ∈ Y, 0 ≤ z ∧ z ≤ 255) := fits_mem.1 (fun j => wf_u8 (HRY.out.fits j))
        have HWR := hid (write_ok g l m b 0 0 R aj cj Y v2 HC.out HWS.out.cu (HRY.out.later HWS.out.bel) (fun b' off h0 e => by obtain ⟨b9, o9, e9, hb9, _⟩ := HRY.out.cells h0; rw [e9] at e; cases e; have := HWS.out.gl; omega) HWS.out.wg.s0 HWS.out.wg.s1 HWS.out.wg.h0 HWS.out.wg.h1 (by omega))
        have HWN := hid (Nat.le_trans (wr_len l m b 0 0 R Y) (show Y.length ≤ 1048576 by omega))
        have HWG := hid (wr_good (bs := Y) HC.out HFY.out HWS.out.wg)
        have HHW := hid (has_wr HC.out R Y ([] : List Int) 0 0 HFY.out HWS.out.wg HWS.out.has (([] : List Int) ++ Y).length (by rw [List.length_append]; exact Nat.le_refl _))
        have HPL : Hid ((([] : List Int)).length + Y.length ≤ 1048576) := by
          have h1 := has_len HC.out HWS.out.wg HWS.out.has
          have h2 := HWS.out.wg.s1
          obtain ⟨k1, k2, k3, k4, k5⟩ := chkC_ok HC.out
          dsimp only at h2
          show _ ≤ _
          omega
        have HLN : Hid ((([] : List Int)).length = (([] : List Int)).length) := rfl
        unfold WriPost at HWR
        generalize wrO l m b 0 0 R Y = S4 at *
        obtain ⟨R4, s4, h4, L4⟩ := S4
        dsimp only at HWR HWN HWG HHW
        obtain ⟨q1, q2, q3, q4⟩ := HHW.out
        dsimp only at q1 q2 q3 q4
        have HH4 : Hid (Has l m b (R4, s4, h4, []) (docW l m b (([] : List Int) ++ Y).length (([] : List Int) ++ Y)).2 []) := ⟨q1, q2, q3, rfl⟩
        have HL4 := hid q4
        have HW4 : Hid (Wg m (R4, s4, h4, [])) := ⟨HWG.out.s0, HWG.out.s1, HWG.out.h0, HWG.out.h1, HWG.out.hz, HWG.out.len, HWG.out.fR, fun _ h => by cases h⟩
        have HSL := hid (has_len HC.out HW4.out HH4.out)
        clear q1 q2 q3 q4 HHW HLN
        go_wp2_with fail
        refine HWR.out.mono ?_
        rintro _ w7 ⟨x, rfl, hch, hcu, hbt⟩
        obtain ⟨j1, j2, j3, j4⟩ := HWS.out.code hbt
        have HCH := hid hch
        have HCU := hid hcu
        have HJ1 := hid j1
        have HJ2 := hid j2
        have HJ3 := hid j3
        have HJ4 := hid j4
        have HGL := hid HWS.out.gl
        have HGR := hid HWS.out.grl
        have HNE := hid HWS.out.ne
        clear hch hcu hbt j1 j2 j3 j4 HWR HWS
        go_wp2_with fail
        refine wp_region_held_drew (S := fun W => But1 gr w7 W) (by kernel_rfl) (But1.of_below (Below.refl _ _).drew) (fun hS0 => ?_)
        have hvb : Below w7.heap.size w7 w7.drew := (Below.refl _ _).drew
        have HRW := hid (rwrite_ref gr l m b none 0 (([] : List Int)) aj cj Y w7.drew HC.out ((hvb.block gr HJ1.out.lt).trans HJ1.out) (HJ2.out.later hvb) (HRY.out.later (Bn HJ4.out hvb)) HPL.out)
        replace HJ4 := hid (Bn HJ4.out hvb)
        replace HCU := hid (HCU.out.later (hvb.block g HCU.out.lt))
        replace HCH := hid (HCH.out.typ (fun i cs t _ hi => (hvb.block i (Array.getElem?_eq_some_iff.1 hi).1).trans hi))
        replace HJ1 := hid ((hvb.block gr HJ1.out.lt).trans HJ1.out)
        unfold RwPost at HRW
        generalize docW l m b (([] : List Int) ++ Y).length (([] : List Int) ++ Y) = D at *
        obtain ⟨D1, D2⟩ := D
        dsimp only at HRW HH4 HL4 HSL
        have hs4 := HL4.out
        subst hs4
        clear hvb HJ2 HJ3
        generalize w7.drew = v0 at *
        refine Ord.take (i := 0) (d := 90) (v := ?vq0) rfl rfl (by as_aux_lemma => kernel_rfl) (by as_aux_lemma => kernel_rfl) (by as_aux_lemma => kernel_rfl) (fun _ _ _ h => h) (by rfl) ?hq0 (by assumption) ?_
        case hq0 => intro w hSw; go_simp; try with_reducible rfl
        simp only [List.setIfInBounds_toArray, List.set_cons_zero, List.set_cons_succ]
        refine Ord.take (i := 1) (d := 91) (v := ?vq1) rfl rfl (by as_aux_lemma => kernel_rfl) (by as_aux_lemma => kernel_rfl) (by as_aux_lemma => kernel_rfl) (fun _ _ _ h => h) (by rfl) ?hq1 (by assumption) ?_
        case hq1 => intro w hSw; go_simp; try with_reducible rfl
        simp only [List.setIfInBounds_toArray, List.set_cons_zero, List.set_cons_succ]
        refine Ord.take (i := 2) (d := 92) (v := ?vq2) rfl rfl (by as_aux_lemma => kernel_rfl) (by as_aux_lemma => kernel_rfl) (by as_aux_lemma => kernel_rfl) (fun _ _ _ h => h) (by rfl) ?hq2 (by assumption) ?_
        case hq2 => intro w hSw; go_simp; try with_reducible rfl
        simp only [List.setIfInBounds_toArray, List.set_cons_zero, List.set_cons_succ]
        refine Ord.take (i := 3) (d := 93) (v := ?vq3) rfl rfl (by as_aux_lemma => kernel_rfl) (by as_aux_lemma => kernel_rfl) (by as_aux_lemma => kernel_rfl) (fun _ _ _ h => h) (by rfl) ?hq3 (by assumption) ?_
        case hq3 => intro w hSw; go_simp; try with_reducible rfl
        simp only [List.setIfInBounds_toArray, List.set_cons_zero, List.set_cons_succ]
        refine Ord.take (i := 4) (d := 94) (v := ?vq4) rfl rfl (by as_aux_lemma => kernel_rfl) (by as_aux_lemma => kernel_rfl) (by as_aux_lemma => kernel_rfl) (fun _ _ _ h => h) (by rfl) ?hq4 (by assumption) ?_
        case hq4 => intro w hSw; go_simp; try with_reducible rfl
        simp only [List.setIfInBounds_toArray, List.set_cons_zero, List.set_cons_succ]
        refine Ord.take (i := 5) (d := 95) (v := ?vq5) rfl rfl (by as_aux_lemma => kernel_rfl) (by as_aux_lemma => kernel_rfl) (by as_aux_lemma => kernel_rfl) (fun _ _ _ h => h) (by rfl) ?hq5 (by assumption) ?_
        case hq5 => intro w hSw; go_simp; try with_reducible rfl
        simp only [List.setIfInBounds_toArray, List.set_cons_zero, List.set_cons_succ]
        refine wpAnyH_ready (rs := [6]) (by as_aux_lemma => kernel_rfl) (by simp) (AllReadyH.cons rfl (fun K hK => ?_) AllReadyH.nil)
        go_simp
        refine HRW.out.mono ?_
        rintro _ v1 ⟨y, a8, c8, rfl, hcy, hrb8, hri8, htp8, hbt8⟩
        refine hK.out _ _ (hS0.trans hbt8) (fun _ => ?_)
        clear hK K
        have HB8 := hid (HJ4.out.trans (hbt8.below HJ4.out.size HGR.out))
        have HCU8 := hid (HCU.out.but hbt8 HNE.out)
        have hlx : L4.length ≤ 1048576 := HWN.out
        obtain ⟨ax, cx, rfl, hcx⟩ := (HCH.out.typ (fun i cs t e hi => rb_typ HJ1.out hbt8 i cs t (by rcases e with rfl | rfl <;> decide) hi)).cs hlx HWG.out.fL
        obtain ⟨ay, cy, rfl, hcy2⟩ := hcy.cs hlx HWG.out.fL
        have HSM := hid (same_eq ax ay cx cy L4 v1 hcx hcy2)
        have HRB8 := hid hrb8
        have HRI8 := hid hri8
        have HTP8 := hid htp8
        have hS1 := hS0.trans hbt8
        clear hcx hcy2 hcy hrb8 hri8 htp8 hbt8 hS0 HRW HCH HJ1 HCU hlx
        refine Ord.more (S' := fun W => Below v1.heap.size v1 W) (fun W hW => hS1.trans (But1.of_below hW)) _ _ _ _ ?_
        have hS2 : Below v1.heap.size v1 v1 := Below.refl _ _
        obtain ⟨nl, hnl⟩ : ∃ n, n = L4.length := ⟨_, rfl⟩
        rw [← hnl] at HSM ⊢
        clear hnl
        try simp only [List.setIfInBounds_toArray, List.set_cons_zero, List.set_cons_succ]
        refine wpAnyH_ready (rs := [7]) (by as_aux_lemma => kernel_rfl) (by simp) (AllReadyH.cons rfl (fun K hK => ?_) AllReadyH.nil)
        go_simp
        refine HSM.out.mono ?_
        rintro _ v2 ⟨rfl, hb9⟩
        have hS3 := hS2.trans (hb9.mono hS2.size)
        refine hK.out _ _ hS3 (fun _ => ?_)
        clear hK K hb9 hS2 hS1
        try simp only [List.setIfInBounds_toArray, List.set_cons_zero, List.set_cons_succ]
        have HRC : Hid (∀ W, Below v1.heap.size v1 W → W.cell? ⟨gr, 3, none⟩ = some (.slice a8 D2.length c8)) := fun W hW => (Rb.cells ((hW.block gr HRB8.out.lt).trans HRB8.out)).2.2.2
        obtain ⟨nd, hnd⟩ : ∃ n, n = D2.length := ⟨_, rfl⟩
        have HND := hid hnd
        rw [← hnd] at HRC
        have hsl := HSL.out
        rw [← hnd] at hsl
        subst hsl
        clear hnd
        have e9 : ((nd : Int) != (nd : Int)) = false := by simp
        refine Ord.take (i := 8) (d := 98) (v := ?vq8) rfl rfl (by as_aux_lemma => kernel_rfl) (by as_aux_lemma => kernel_rfl) (by as_aux_lemma => kernel_rfl) (fun _ _ _ h => h) (by rfl) ?hq8 (by assumption) ?_
        case hq8 => intro w hSw; go_simp; try with_reducible rfl
        simp only [List.setIfInBounds_toArray, List.set_cons_zero, List.set_cons_succ]
        refine Ord.take (i := 9) (d := 99) (v := ?vq9) rfl rfl (by as_aux_lemma => kernel_rfl) (by as_aux_lemma => kernel_rfl) (by as_aux_lemma => kernel_rfl) (fun _ _ _ h => h) (by rfl) ?hq9 (by assumption) ?_
        case hq9 => intro w hSw; go_simp; try with_reducible rfl
        simp only [List.setIfInBounds_toArray, List.set_cons_zero, List.set_cons_succ]
        refine Ord.take (i := 10) (d := 100) (v := ?vq10) rfl rfl (by as_aux_lemma => kernel_rfl) (by as_aux_lemma => kernel_rfl) (by as_aux_lemma => kernel_rfl) (fun _ _ _ h => h) (by rfl) ?hq10 (by assumption) ?_
        case hq10 => intro w hSw; go_simp; try with_reducible rfl
        simp only [List.setIfInBounds_toArray, List.set_cons_zero, List.set_cons_succ]
        refine Ord.take (i := 11) (d := 101) (v := ?vq11) rfl rfl (by as_aux_lemma => kernel_rfl) (by as_aux_lemma => kernel_rfl) (by as_aux_lemma => kernel_rfl) (fun _ _ _ h => h) (by rfl) ?hq11 (by assumption) ?_
        case hq11 => intro w hSw; go_simp; try with_reducible rfl
        simp only [List.setIfInBounds_toArray, List.set_cons_zero, List.set_cons_succ]
        refine Ord.take (i := 13) (d := 103) (v := ?vq13) rfl rfl (by as_aux_lemma => kernel_rfl) (by as_aux_lemma => kernel_rfl) (by as_aux_lemma => kernel_rfl) (fun _ _ _ h => h) (by rfl) ?hq13 (by assumption) ?_
        case hq13 => intro w hSw; go_simp; try with_reducible rfl
        simp only [List.setIfInBounds_toArray, List.set_cons_zero, List.set_cons_succ]
        refine Ord.take (i := 14) (d := 104) (v := ?vq14) rfl rfl (by as_aux_lemma => kernel_rfl) (by as_aux_lemma => kernel_rfl) (by as_aux_lemma => kernel_rfl) (fun _ _ _ h => h) (by rfl) ?hq14 (by assumption) ?_
        case hq14 => intro w hSw; go_simp; try with_reducible rfl
        simp only [List.setIfInBounds_toArray, List.set_cons_zero, List.set_cons_succ]
        refine Ord.take (i := 15) (d := 105) (v := ?vq15) rfl rfl (by as_aux_lemma => kernel_rfl) (by as_aux_lemma => kernel_rfl) (by as_aux_lemma => kernel_rfl) (fun _ _ _ h => h) (by rfl) ?hq15 (by assumption) ?_
        case hq15 => intro w hSw; go_simp; try with_reducible rfl
        simp only [List.setIfInBounds_toArray, List.set_cons_zero, List.set_cons_succ]
        refine Ord.take (i := 16) (d := 106) (v := .slice a8 nd c8) rfl rfl (by as_aux_lemma => kernel_rfl) (by as_aux_lemma => kernel_rfl) (by as_aux_lemma => kernel_rfl) (fun _ _ _ h => h) (by rfl) ?hq16 (by assumption) ?_
        case hq16 => intro w hSw; have q3 := HRC.out w hSw; go_simp; try with_reducible rfl
        simp only [List.setIfInBounds_toArray, List.set_cons_zero, List.set_cons_succ]
        refine Ord.take (i := 17) (d := 107) (v := .int .i64 (nd : Int)) rfl rfl (by as_aux_lemma => kernel_rfl) (by as_aux_lemma => kernel_rfl) (by as_aux_lemma => kernel_rfl) (fun _ _ _ h => h) (by rfl) ?hq17 (by assumption) ?_
        case hq17 => intro w hSw; go_simp; try with_reducible rfl
        simp only [List.setIfInBounds_toArray, List.set_cons_zero, List.set_cons_succ]
        refine wpAnyH_ready (rs := [12]) (by as_aux_lemma => kernel_rfl) (by simp) (AllReadyH.cons rfl (fun K hK => ?_) AllReadyH.nil)
        go_simp
        refine (left_ok g l m b (nd : Int) h4 R4 v2 (HCU8.out.later (hS3.block g HCU8.out.lt)) HC.out).mono ?_
        rintro _ v3 ⟨rfl, hb10⟩
        have hS4 := hS3.trans (hb10.mono hS3.size)
        refine hK.out _ _ hS4 (fun _ => ?_)
        clear hK K hb10 hS3
        try simp only [List.setIfInBounds_toArray, List.set_cons_zero, List.set_cons_succ]
        refine Ord.take (i := 18) (d := 108) (v := .bool false) rfl rfl (by as_aux_lemma => kernel_rfl) (by as_aux_lemma => kernel_rfl) (by as_aux_lemma => kernel_rfl) (fun _ _ _ h => h) (by rfl) ?hq18 (by assumption) ?_
        case hq18 => intro w hSw; go_simp; try with_reducible rfl
        simp only [List.setIfInBounds_toArray, List.set_cons_zero, List.set_cons_succ]
        refine Ord.take (i := 19) (d := 109) (v := .bool false) rfl rfl (by as_aux_lemma => kernel_rfl) (by as_aux_lemma => kernel_rfl) (by as_aux_lemma => kernel_rfl) (fun _ _ _ h => h) (by rfl) ?hq19 (by assumption) ?_
        case hq19 => intro w hSw; go_simp; try with_reducible rfl
        simp only [List.setIfInBounds_toArray, List.set_cons_zero, List.set_cons_succ]
        refine wpAnyH_done (by as_aux_lemma => kernel_rfl) ?_ _
        have HWF : Hid (WsS l m b g gr w (nd : Int) h4 R4 a8 c8 D2 v3) :=
          ⟨HCU8.out.later (hS4.block g HCU8.out.lt), HW4.out, HH4.out, (hS4.block gr HRB8.out.lt).trans HRB8.out, HRI8.out.later hS4, fun b' off h0 ha => by
            obtain ⟨_, cs, h1⟩ := HTP8.out b' off h0 ha
            exact ⟨cs, (hS4.block b' (Array.getElem?_eq_some_iff.1 h1).1).trans h1⟩, Bn HB8.out hS4, HGL.out, HGR.out⟩
        clear hS4 HCU8 HRB8 HRI8 HTP8 HB8 HRC HW4 HH4 HWG HWN HFY HRY HPL HJ4 HSM HL4 HSL HND
        go_wp2_with fail
        exact ⟨⟨k + 1, (nd : Int), h4, R4, a8, c8, D2, rfl, by omega, HWF.out⟩, by simp only [intOf]; omega⟩
    · have hz4 : ¬ (k : Int) < (n2 : Int) := by omega
      have HFY : Hid (∀ z ∈ Y, 0 ≤ z ∧ z ≤ 255) := fits_mem.1 (fun j => wf_u8 (HRY.out.fits j))
      have HWR := hid (write_ok g l m b s h R aj cj Y wr HC.out HWS.out.cu (HRY.out.later HWS.out.bel) (fun b' off h0 e => by obtain ⟨b9, o9, e9, hb9, _⟩ := HRY.out.cells h0; rw [e9] at e; cases e; have := HWS.out.gl; omega) HWS.out.wg.s0 HWS.out.wg.s1 HWS.out.wg.h0 HWS.out.wg.h1 (by omega))
      have HWN := hid (Nat.le_trans (wr_len l m b s h R Y) (show Y.length ≤ 1048576 by omega))
      have HWG := hid (wr_good (bs := Y) HC.out HFY.out HWS.out.wg)
      have HHW := hid (has_wr HC.out R Y P s h HFY.out HWS.out.wg HWS.out.has (P ++ Y).length (by rw [List.length_append]; exact Nat.le_refl _))
      have HPL : Hid ((P).length + Y.length ≤ 1048576) := by
        have h1 := has_len HC.out HWS.out.wg HWS.out.has
        have h2 := HWS.out.wg.s1
        obtain ⟨k1, k2, k3, k4, k5⟩ := chkC_ok HC.out
        dsimp only at h2
        show _ ≤ _
        omega
      have HLN : Hid ((P).length = (P).length) := rfl
      unfold WriPost at HWR
      generalize wrO l m b s h R Y = S4 at *
      obtain ⟨R4, s4, h4, L4⟩ := S4
      dsimp only at HWR HWN HWG HHW
      obtain ⟨q1, q2, q3, q4⟩ := HHW.out
      dsimp only at q1 q2 q3 q4
      have HH4 : Hid (Has l m b (R4, s4, h4, []) (docW l m b (P ++ Y).length (P ++ Y)).2 []) := ⟨q1, q2, q3, rfl⟩
      have HL4 := hid q4
      have HW4 : Hid (Wg m (R4, s4, h4, [])) := ⟨HWG.out.s0, HWG.out.s1, HWG.out.h0, HWG.out.h1, HWG.out.hz, HWG.out.len, HWG.out.fR, fun _ h => by cases h⟩
      have HSL := hid (has_len HC.out HW4.out HH4.out)
      clear q1 q2 q3 q4 HHW HLN
      go_wp2_with fail
      refine HWR.out.mono ?_
      rintro _ w7 ⟨x, rfl, hch, hcu, hbt⟩
      obtain ⟨j1, j2, j3, j4⟩ := HWS.out.code hbt
      have HCH := hid hch
      have HCU := hid hcu
      have HJ1 := hid j1
      have HJ2 := hid j2
      have HJ3 := hid j3
      have HJ4 := hid j4
      have HGL := hid HWS.out.gl
      have HGR := hid HWS.out.grl
      have HNE := hid HWS.out.ne
      clear hch hcu hbt j1 j2 j3 j4 HWR HWS
      go_wp2_with fail
      refine wp_region_held_drew (S := fun W => But1 gr w7 W) (by kernel_rfl) (But1.of_below (Below.refl _ _).drew) (fun hS0 => ?_)
      have hvb : Below w7.heap.size w7 w7.drew := (Below.refl _ _).drew
      have HRW := hid (rwrite_ref gr l m b aP cP (P) aj cj Y w7.drew HC.out ((hvb.block gr HJ1.out.lt).trans HJ1.out) (HJ2.out.later hvb) (HRY.out.later (Bn HJ4.out hvb)) HPL.out)
      replace HJ4 := hid (Bn HJ4.out hvb)
      replace HCU := hid (HCU.out.later (hvb.block g HCU.out.lt))
      replace HCH := hid (HCH.out.typ (fun i cs t _ hi => (hvb.block i (Array.getElem?_eq_some_iff.1 hi).1).trans hi))
      replace HJ1 := hid ((hvb.block gr HJ1.out.lt).trans HJ1.out)
      unfold RwPost at HRW
      generalize docW l m b (P ++ Y).length (P ++ Y) = D at *
      obtain ⟨D1, D2⟩ := D
      dsimp only at HRW HH4 HL4 HSL
      have hs4 := HL4.out
      subst hs4
      clear hvb HJ2 HJ3
      generalize w7.drew = v0 at *
      refine Ord.take (i := 0) (d := 90) (v := ?vc0) rfl rfl (by as_aux_lemma => kernel_rfl) (by as_aux_lemma => kernel_rfl) (by as_aux_lemma => kernel_rfl) (fun _ _ _ h => h) (by rfl) ?hc0 (by assumption) ?_
      case hc0 => intro w hSw; go_simp; try with_reducible rfl
      simp only [List.setIfInBounds_toArray, List.set_cons_zero, List.set_cons_succ]
      refine Ord.take (i := 1) (d := 91) (v := ?vc1) rfl rfl (by as_aux_lemma => kernel_rfl) (by as_aux_lemma => kernel_rfl) (by as_aux_lemma => kernel_rfl) (fun _ _ _ h => h) (by rfl) ?hc1 (by assumption) ?_
      case hc1 => intro w hSw; go_simp; try with_reducible rfl
      simp only [List.setIfInBounds_toArray, List.set_cons_zero, List.set_cons_succ]
      refine Ord.take (i := 2) (d := 92) (v := ?vc2) rfl rfl (by as_aux_lemma => kernel_rfl) (by as_aux_lemma => kernel_rfl) (by as_aux_lemma => kernel_rfl) (fun _ _ _ h => h) (by rfl) ?hc2 (by assumption) ?_
      case hc2 => intro w hSw; go_simp; try with_reducible rfl
      simp only [List.setIfInBounds_toArray, List.set_cons_zero, List.set_cons_succ]
      refine Ord.take (i := 3) (d := 93) (v := ?vc3) rfl rfl (by as_aux_lemma => kernel_rfl) (by as_aux_lemma => kernel_rfl) (by as_aux_lemma => kernel_rfl) (fun _ _ _ h => h) (by rfl) ?hc3 (by assumption) ?_
      case hc3 => intro w hSw; go_simp; try with_reducible rfl
      simp only [List.setIfInBounds_toArray, List.set_cons_zero, List.set_cons_succ]
      refine Ord.take (i := 4) (d := 94) (v := ?vc4) rfl rfl (by as_aux_lemma => kernel_rfl) (by as_aux_lemma => kernel_rfl) (by as_aux_lemma => kernel_rfl) (fun _ _ _ h => h) (by rfl) ?hc4 (by assumption) ?_
      case hc4 => intro w hSw; go_simp; try with_reducible rfl
      simp only [List.setIfInBounds_toArray, List.set_cons_zero, List.set_cons_succ]
      refine Ord.take (i := 5) (d := 95) (v := ?vc5) rfl rfl (by as_aux_lemma => kernel_rfl) (by as_aux_lemma => kernel_rfl) (by as_aux_lemma => kernel_rfl) (fun _ _ _ h => h) (by rfl) ?hc5 (by assumption) ?_
      case hc5 => intro w hSw; go_simp; try with_reducible rfl
      simp only [List.setIfInBounds_toArray, List.set_cons_zero, List.set_cons_succ]
      refine wpAnyH_ready (rs := [6]) (by as_aux_lemma => kernel_rfl) (by simp) (AllReadyH.cons rfl (fun K hK => ?_) AllReadyH.nil)
      go_simp
      refine HRW.out.mono ?_
      rintro _ v1 ⟨y, a8, c8, rfl, hcy, hrb8, hri8, htp8, hbt8⟩
      refine hK.out _ _ (hS0.trans hbt8) (fun _ => ?_)
      clear hK K
      have HB8 := hid (HJ4.out.trans (hbt8.below HJ4.out.size HGR.out))
      have HCU8 := hid (HCU.out.but hbt8 HNE.out)
      have hlx : L4.length ≤ 1048576 := HWN.out
      obtain ⟨ax, cx, rfl, hcx⟩ := (HCH.out.typ (fun i cs t e hi => rb_typ HJ1.out hbt8 i cs t (by rcases e with rfl | rfl <;> decide) hi)).cs hlx HWG.out.fL
      obtain ⟨ay, cy, rfl, hcy2⟩ := hcy.cs hlx HWG.out.fL
      have HSM := hid (same_eq ax ay cx cy L4 v1 hcx hcy2)
      have HRB8 := hid hrb8
      have HRI8 := hid hri8
      have HTP8 := hid htp8
      have hS1 := hS0.trans hbt8
      clear hcx hcy2 hcy hrb8 hri8 htp8 hbt8 hS0 HRW HCH HJ1 HCU hlx
      refine Ord.more (S' := fun W => Below v1.heap.size v1 W) (fun W hW => hS1.trans (But1.of_below hW)) _ _ _ _ ?_
      have hS2 : Below v1.heap.size v1 v1 := Below.refl _ _
      obtain ⟨nl, hnl⟩ : ∃ n, n = L4.length := ⟨_, rfl⟩
      rw [← hnl] at HSM ⊢
      clear hnl
      try simp only [List.setIfInBounds_toArray, List.set_cons_zero, List.set_cons_succ]
      refine wpAnyH_ready (rs := [7]) (by as_aux_lemma => kernel_rfl) (by simp) (AllReadyH.cons rfl (fun K hK => ?_) AllReadyH.nil)
      go_simp
      refine HSM.out.mono ?_
      rintro _ v2 ⟨rfl, hb9⟩
      have hS3 := hS2.trans (hb9.mono hS2.size)
      refine hK.out _ _ hS3 (fun _ => ?_)
      clear hK K hb9 hS2 hS1
      try simp only [List.setIfInBounds_toArray, List.set_cons_zero, List.set_cons_succ]
      have HRC : Hid (∀ W, Below v1.heap.size v1 W → W.cell? ⟨gr, 3, none⟩ = some (.slice a8 D2.length c8)) := fun W hW => (Rb.cells ((hW.block gr HRB8.out.lt).trans HRB8.out)).2.2.2
      obtain ⟨nd, hnd⟩ : ∃ n, n = D2.length := ⟨_, rfl⟩
      have HND := hid hnd
      rw [← hnd] at HRC
      have hsl := HSL.out
      rw [← hnd] at hsl
      subst hsl
      clear hnd
      have e9 : ((nd : Int) != (nd : Int)) = false := by simp
      refine Ord.take (i := 8) (d := 98) (v := ?vc8) rfl rfl (by as_aux_lemma => kernel_rfl) (by as_aux_lemma => kernel_rfl) (by as_aux_lemma => kernel_rfl) (fun _ _ _ h => h) (by rfl) ?hc8 (by assumption) ?_
      case hc8 => intro w hSw; go_simp; try with_reducible rfl
      simp only [List.setIfInBounds_toArray, List.set_cons_zero, List.set_cons_succ]
      refine Ord.take (i := 9) (d := 99) (v := ?vc9) rfl rfl (by as_aux_lemma => kernel_rfl) (by as_aux_lemma => kernel_rfl) (by as_aux_lemma => kernel_rfl) (fun _ _ _ h => h) (by rfl) ?hc9 (by assumption) ?_
      case hc9 => intro w hSw; go_simp; try with_reducible rfl
      simp only [List.setIfInBounds_toArray, List.set_cons_zero, List.set_cons_succ]
      refine Ord.take (i := 10) (d := 100) (v := ?vc10) rfl rfl (by as_aux_lemma => kernel_rfl) (by as_aux_lemma => kernel_rfl) (by as_aux_lemma => kernel_rfl) (fun _ _ _ h => h) (by rfl) ?hc10 (by assumption) ?_
      case hc10 => intro w hSw; go_simp; try with_reducible rfl
      simp only [List.setIfInBounds_toArray, List.set_cons_zero, List.set_cons_succ]
      refine Ord.take (i := 11) (d := 101) (v := ?vc11) rfl rfl (by as_aux_lemma => kernel_rfl) (by as_aux_lemma => kernel_rfl) (by as_aux_lemma => kernel_rfl) (fun _ _ _ h => h) (by rfl) ?hc11 (by assumption) ?_
      case hc11 => intro w hSw; go_simp; try with_reducible rfl
      simp only [List.setIfInBounds_toArray, List.set_cons_zero, List.set_cons_succ]
      refine Ord.take (i := 13) (d := 103) (v := ?vc13) rfl rfl (by as_aux_lemma => kernel_rfl) (by as_aux_lemma => kernel_rfl) (by as_aux_lemma => kernel_rfl) (fun _ _ _ h => h) (by rfl) ?hc13 (by assumption) ?_
      case hc13 => intro w hSw; go_simp; try with_reducible rfl
      simp only [List.setIfInBounds_toArray, List.set_cons_zero, List.set_cons_succ]
      refine Ord.take (i := 14) (d := 104) (v := ?vc14) rfl rfl (by as_aux_lemma => kernel_rfl) (by as_aux_lemma => kernel_rfl) (by as_aux_lemma => kernel_rfl) (fun _ _ _ h => h) (by rfl) ?hc14 (by assumption) ?_
      case hc14 => intro w hSw; go_simp; try with_reducible rfl
      simp only [List.setIfInBounds_toArray, List.set_cons_zero, List.set_cons_succ]
      refine Ord.take (i := 15) (d := 105) (v := ?vc15) rfl rfl (by as_aux_lemma => kernel_rfl) (by as_aux_lemma => kernel_rfl) (by as_aux_lemma => kernel_rfl) (fun _ _ _ h => h) (by rfl) ?hc15 (by assumption) ?_
      case hc15 => intro w hSw; go_simp; try with_reducible rfl
      simp only [List.setIfInBounds_toArray, List.set_cons_zero, List.set_cons_succ]
      refine Ord.take (i := 16) (d := 106) (v := .slice a8 nd c8) rfl rfl (by as_aux_lemma => kernel_rfl) (by as_aux_lemma => kernel_rfl) (by as_aux_lemma => kernel_rfl) (fun _ _ _ h => h) (by rfl) ?hc16 (by assumption) ?_
      case hc16 => intro w hSw; have q3 := HRC.out w hSw; go_simp; try with_reducible rfl
      simp only [List.setIfInBounds_toArray, List.set_cons_zero, List.set_cons_succ]
      refine Ord.take (i := 17) (d := 107) (v := .int .i64 (nd : Int)) rfl rfl (by as_aux_lemma => kernel_rfl) (by as_aux_lemma => kernel_rfl) (by as_aux_lemma => kernel_rfl) (fun _ _ _ h => h) (by rfl) ?hc17 (by assumption) ?_
      case hc17 => intro w hSw; go_simp; try with_reducible rfl
      simp only [List.setIfInBounds_toArray, List.set_cons_zero, List.set_cons_succ]
      refine wpAnyH_ready (rs := [12]) (by as_aux_lemma => kernel_rfl) (by simp) (AllReadyH.cons rfl (fun K hK => ?_) AllReadyH.nil)
      go_simp
      refine (left_ok g l m b (nd : Int) h4 R4 v2 (HCU8.out.later (hS3.block g HCU8.out.lt)) HC.out).mono ?_
      rintro _ v3 ⟨rfl, hb10⟩
      have hS4 := hS3.trans (hb10.mono hS3.size)
      refine hK.out _ _ hS4 (fun _ => ?_)
      clear hK K hb10 hS3
      try simp only [List.setIfInBounds_toArray, List.set_cons_zero, List.set_cons_succ]
      refine Ord.take (i := 18) (d := 108) (v := .bool false) rfl rfl (by as_aux_lemma => kernel_rfl) (by as_aux_lemma => kernel_rfl) (by as_aux_lemma => kernel_rfl) (fun _ _ _ h => h) (by rfl) ?hc18 (by assumption) ?_
      case hc18 => intro w hSw; go_simp; try with_reducible rfl
      simp only [List.setIfInBounds_toArray, List.set_cons_zero, List.set_cons_succ]
      refine Ord.take (i := 19) (d := 109) (v := .bool false) rfl rfl (by as_aux_lemma => kernel_rfl) (by as_aux_lemma => kernel_rfl) (by as_aux_lemma => kernel_rfl) (fun _ _ _ h => h) (by rfl) ?hc19 (by assumption) ?_
      case hc19 => intro w hSw; go_simp; try with_reducible rfl
      simp only [List.setIfInBounds_toArray, List.set_cons_zero, List.set_cons_succ]
      refine wpAnyH_done (by as_aux_lemma => kernel_rfl) ?_ _
      have HWF : Hid (WsS l m b g gr w (nd : Int) h4 R4 a8 c8 D2 v3) :=
        ⟨HCU8.out.later (hS4.block g HCU8.out.lt), HW4.out, HH4.out, (hS4.block gr HRB8.out.lt).trans HRB8.out, HRI8.out.later hS4, fun b' off h0 ha => by
          obtain ⟨_, cs, h1⟩ := HTP8.out b' off h0 ha
          exact ⟨cs, (hS4.block b' (Array.getElem?_eq_some_iff.1 h1).1).trans h1⟩, Bn HB8.out hS4, HGL.out, HGR.out⟩
      clear hS4 HCU8 HRB8 HRI8 HTP8 HB8 HRC HW4 HH4 HWG HWN HFY HRY HPL HJ4 HSM HL4 HSL HND
      go_wp2_with fail
      exact ⟨⟨k + 1, (nd : Int), h4, R4, a8, c8, D2, rfl, by omega, HWF.out⟩, by simp only [intOf]; omega⟩

set_option maxRecDepth 100000 in
theorem lifted (os : Os) (started : os.Started) (H : Type) (enc : TypeId × Value → H) :
    ReturnsInHanded {} Try.checked os 5 .any (Rows.rollWritesSpec.pre6 enc Try.prog Try.f5 Rows.rollWritesRow.domain false) (Rows.rollWritesSpec.post enc Try.prog Try.f5 false true false false) := by
  refine returnsInHanded_of_change (C := Try.checked) own started (by kernel_rfl) Try.func5
    (ChangeSpec.witness6 (enc := enc) (C := Try.checked) false ⟨#[], #[.agg #[.int .i64 0, .int .i64 0, .int .i64 0], .slice none 0 0, .slice none 0 0], []⟩ 8 (by kernel_rfl) (by kernel_rfl) (by kernel_rfl) (by kernel_rfl)) ?_
  intro W base args ds gs before hval0 hW _ _
  have hval : ∀ (j : Nat) t v, Try.f5.params[j]? = some t → args[j]? = some v → Value.okWide Try.prog W .any base t v := hval0
  have hW' := hW
  obtain ⟨p, q, hA0, hV, rfl, _, _⟩ := hW
  have hA : DataW.TrodAll enc Try.prog W 0 (fun _ => true) true Try.f5.params.toList args.toList ds p := hA0
  rw [Try.params5] at hA hval
  obtain ⟨v0, vs0, d0, ds0, p0, q0, hargs, rfl, rfl, h0, r0⟩ := trodAll_cons hA
  obtain ⟨v1, vs1, d1, ds1, p1, q1, rfl, rfl, rfl, h1, r1⟩ := trodAll_cons r0
  obtain ⟨v2, vs2, d2, ds2, p2, q2, rfl, rfl, rfl, h2, r2⟩ := trodAll_cons r1
  obtain ⟨rfl, rfl, rfl⟩ := trodAll_nil r2
  obtain rfl : args = #[v0, v1, v2] := by cases args; simp_all
  obtain ⟨rfl, rfl⟩ := trodVars_none hV
  clear hA0
  simp only [List.append_nil] at hW'
  have hlt0 : ∀ x ∈ p0, x.block < W.heap.size := fun x hx => hW'.lt x (by simp [hx])
  have hk0 := h0
  obtain ⟨l0, m0, b0, rfl⟩ := open_conf (hval 0 23 v0 rfl rfl) h0
  have hlt1 : ∀ x ∈ p1, x.block < W.heap.size := fun x hx => hW'.lt x (by simp [hx])
  have hk1 := h1
  obtain ⟨a1, cap1, zs1, rfl, hr1⟩ := open_ps (hval 1 39 v1 rfl rfl) h1 hlt1
  have hlt2 : ∀ x ∈ p2, x.block < W.heap.size := fun x hx => hW'.lt x (by simp [hx])
  have hk2 := h2
  obtain ⟨a2, cap2, zs2, rfl, hr2⟩ := open_bls (hval 2 40 v2 rfl rfl) h2 hlt2
  clear hval0
  refine (walk l0 m0 b0 a1 cap1 zs1 a2 cap2 zs2 W hr1 hr2).mono fun e W' ⟨he, hb⟩ => ?_
  subst he
  exact ⟨_, rfl, _, _, _, [] ++ [], _, [], hW', trodAll_cons_mk (shut_bool Try.underlying4 _) trodAll_mk0, (trodAll_cons_mk (Below.trod Try.laidOut (by kernel_rfl) (of_decide_eq_true (by kernel_rfl)) hk0 hb hlt0) (trodAll_cons_mk (Below.trod Try.laidOut (by kernel_rfl) (of_decide_eq_true (by kernel_rfl)) hk1 hb hlt1) (trodAll_cons_mk (Below.trod Try.laidOut (by kernel_rfl) (of_decide_eq_true (by kernel_rfl)) hk2 hb hlt2) trodAll_mk0))), rfl, hb.frame _, fun h => by cases h⟩

theorem over : Rows.rollWritesRow.holds Try.pinned (OpenSpec.ofChange Rows.rollWritesSpec) :=
  OpenClaim.holds_of_wide 5 Try.f5 rfl rfl rfl rfl rfl rfl rfl ⟨rfl, rfl, rfl, rfl, rfl⟩ rfl rfl rfl rfl rfl (by kernel_rfl) Try.func5 (by kernel_rfl)
    (of_decide_eq_true (by kernel_rfl)) (by unfold Func.isWrapper; first | (rw [if_pos (by decide +kernel)]; kernel_rfl) | (rw [if_neg (by decide +kernel)]; exact ⟨rfl, rfl⟩))
    (fun os started H enc _ => lifted os started H enc)

end Go.Proofs.Ytcapkkldjgmhfaa.rollWrites
namespace Go.Proofs.Ytcapkkldjgmhfaa
theorem rollWrites_holds : Rows.RollWritesSaid := rollWrites.over
#print axioms rollWrites_holds
end Go.Proofs.Ytcapkkldjgmhfaa
