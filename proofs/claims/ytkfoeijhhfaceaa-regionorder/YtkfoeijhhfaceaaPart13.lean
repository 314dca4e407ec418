/-
  The row of some blocks: the document's row.
-/
import Derived.Test.YtkfoeijhhfaceaaPart12
namespace Go.Proofs.Ytkfoeijhhfaceaa
open Go.RowKit Go.Shelf
attribute [local go_sem] Oper.semAt_some

set_option maxHeartbeats 6400000 in
set_option maxRecDepth 100000 in
theorem row_ref (g n : Nat) (p : Nat → Bool) (w : World) (hb : Bb w g n p) (hn : n ≤ 4096) :
    Calls Try.prog 37 #[.slice (some ⟨g, 0, none⟩) n n] w (RowPost (docP p n) w) := by
  unfold RowPost
  have HBB := hid hb
  have hgw := hb.lt
  obtain ⟨i0, hi, hz0, hz1, hz2⟩ := info_parts Try.info24
  clear hb
  go_enter Try.func37, Try.ntmps37
  go_wp2
  go_loopw [3, 4] (fun x3 x4 wr => ∃ k : Nat, k ≤ n ∧ x4 = .int .i64 (k : Int) ∧ Hid (wr.ownsRow w.heap.size 24 2 x3 (docP p k).length ((docP p k).flatMap extC)) ∧ Hid (Below w.heap.size w wr)) (fun _ x4 _ => n - (intOf x4).toNat)
  case atStart => exact ⟨0, by omega, rfl, ⟨rfl, .inl ⟨rfl, rfl⟩⟩, Below.refl _ _⟩
  case round =>
    obtain ⟨k, hk, rfl, HOW, HBr⟩ := hrel
    by_cases hlt : k < n
    · have hkz : (k : Int) < (n : Int) := by omega
      have hk0 : (0 : Int) ≤ (k : Int) := by omega
      have HBk := hid (HBB.out.below HBr.out)
      have e0 := HBk.out.cell hlt
      by_cases hp : p k = true
      · rw [hp] at e0
        by_cases hprev : 0 < k ∧ p (k - 1) = true
        · obtain ⟨hk1, hpp⟩ := hprev
          obtain ⟨m, hm⟩ : ∃ m, k = m + 1 := ⟨k - 1, by omega⟩
          have hpm : p m = true := by rw [show m = k - 1 from by omega]; exact hpp
          obtain ⟨q, z, hdq, hze⟩ := docP_last p m hpm
          rw [← hm] at hdq
          have hnext := docP_put_last p m (by rw [← hm]; exact hp) (by rw [← hm]; exact hdq) hze
          rw [← hm] at hnext
          have e1 := HBk.out.cell (j := m) (by omega)
          rw [hpm] at e1
          have hown := HOW.out
          rw [hdq] at hown
          have hlen : (q ++ [z]).length = q.length + 1 := by simp
          rw [hlen] at hown
          obtain ⟨gr, cap, rfl⟩ := ownsRow_succ hown
          have hql : q.length + 1 ≤ 4096 := by have h1 := docP_len p k; rw [hdq, hlen] at h1; omega
          obtain ⟨hgb, hgrw⟩ := own_block hown gr rfl
          obtain ⟨cur, hgc, hroom⟩ : ∃ cur, wr.heap[gr]? = some (.cells cur 24 (0, 0)) ∧ q.length + 1 ≤ cap := by
            rcases hown.2 with ⟨h0, _⟩ | ⟨g', cap', cur, e', _, hg', hnc, _⟩
            · cases h0
            · injection e' with a1 _ a3
              injection a1 with a1
              injection a1 with a1
              subst a1 a3
              exact ⟨cur, hg', hnc⟩
          obtain ⟨k0, k1⟩ := flat_get (q ++ [z]) q.length (by simp)
          have ez : (q ++ [z]).getD q.length ex0 = z := by simp [List.getD]
          rw [ez] at k0 k1
          have d1 := (hown.cellAt (g := gr) _ (by omega)).trans k1
          have fz := Joins.unfrozen_of_block hgc (q.length * 2 + 1)
          have HSET : Hid ((wr.setCell ⟨gr, q.length * 2 + 1, none⟩ (.int .i64 (z.2 + 1))).ownsRow w.heap.size 24 2 (.slice (some ⟨gr, 0, none⟩) (q.length + 1) cap) (docP p (k + 1)).length ((docP p (k + 1)).flatMap extC)) := by
            show World.ownsRow _ _ _ _ _ _ _
            have h2 := own_cell (k := q.length * 2 + 1) hown (.int .i64 (z.2 + 1))
            have e2 : ((q ++ [z]).flatMap extC).set (q.length * 2 + 1) (.int .i64 (z.2 + 1)) = (q ++ [(z.1, z.2 + 1)]).flatMap extC := by
              rw [List.flatMap_append, List.flatMap_append, List.set_append_right _ _ (by rw [extC_len]; omega), extC_len]
              congr 1
              rw [show q.length * 2 + 1 - q.length * 2 = 1 from by omega]
              rfl
            rw [e2] at h2
            rw [hnext]
            rw [List.length_append]
            exact h2
          have HBS : Hid (Below w.heap.size w (wr.setCell ⟨gr, q.length * 2 + 1, none⟩ (.int .i64 (z.2 + 1)))) := HBr.out.setCell (p := ⟨gr, q.length * 2 + 1, none⟩) hgb _
          have hzb : 0 ≤ z.1 ∧ 1 ≤ z.2 ∧ z.2 ≤ 4096 := by
            obtain ⟨hn1, hu, _⟩ := docP_ok p k
            have h1 := hn1.pos z (by rw [hdq]; simp)
            have h2 := hu z (by rw [hdq]; simp)
            omega
          obtain ⟨z0, z1⟩ := z
          dsimp only at d1 HSET HBS hzb
          have HKM : Hid (IntKind.i64.wrap ((k : Int) - 1) = (m : Int)) := by show _ = _; rw [IntWalk.i64_in _ ⟨by omega, by omega⟩]; omega
          have hkm : (k : Int) - 1 = (m : Int) := by omega
          have hmn : (m : Int) < (n : Int) := by omega
          have hm0 : (0 : Int) ≤ (m : Int) := by omega
          have hkp : (0 : Int) < (k : Int) := by omega
          have hqm : ((q.length + 1 : Nat) : Int) - 1 = (q.length : Int) := by omega
          generalize q.length = ql at *
          have hq0 : (0 : Int) ≤ (ql : Int) := by omega
          have HM := hid hm
          clear hm hpm hpp hnext hown hlen k0 k1 ez hgc hdq hze HOW HBk hp
          go_wp2
          exact ⟨⟨k + 1, by omega, by go_num, HSET.out, HBS.out⟩, by simp [intOf]; omega⟩
        · have hnew : k = 0 ∨ p (k - 1) = false := by
            rcases Nat.eq_zero_or_pos k with h | h
            · exact .inl h
            · refine .inr ?_
              have : ¬ p (k - 1) = true := fun h2 => hprev ⟨h, h2⟩
              simpa using this
          have HNX := hid (docP_put_new p k hp hnew)
          have hdl := docP_len p k
          have hbs := HBr.out.size
          obtain ⟨dl, hdl2⟩ : ∃ dl, dl = (docP p k).length := ⟨_, rfl⟩
          have HDL := hid hdl2
          rw [← hdl2] at HOW hdl
          clear hdl2
          have HNW := hid (ext_new wr ((k : Int), 1))
          unfold extV at HNW
          dsimp only at HNW
          rcases Nat.eq_zero_or_pos k with hk1 | hk1
          · have hkp : ¬ (0 : Int) < (k : Int) := by omega
            have HK1 := hid hk1
            clear hk1 hnew hprev hp HBk
            go_wp2_with (at_builtin; refine wpList_append_own _ rfl _ _ 22 rfl w.heap.size 24 i0 (.agg #[.int .i64 0, .int .i64 0]) 2 16 Try.underlying22 hi hz0 hz1 hz2 rfl (by decide) _ dl _ rfl (HOW.out.alloc _) ⟨wr.heap.size, 0, none⟩ 1 1 (extC ((k : Int), 1)) rfl rfl HNW.out (extC_one _) (by unfold maxLen; omega) (by omega) (by simp; omega) ?_)
            intro v' w3 hown3 hgrow3 _
            have HB3 : Hid (Below w.heap.size w w3) := (Bn HBr.out (bel_alloc wr _)).grown hgrow3 (by simp; omega) (fun g hg => (own_block HOW.out g hg).1)
            have HO3 : Hid (w3.ownsRow w.heap.size 24 2 v' (docP p (k + 1)).length ((docP p (k + 1)).flatMap extC)) := by
              show World.ownsRow _ _ _ _ _ _ _
              rw [HNX.out, extC_snoc, List.length_append, ← HDL.out]
              exact hown3
            clear hown3 hgrow3 HNW
            go_wp2
            exact ⟨⟨k + 1, by omega, by go_num, HO3.out, HB3.out⟩, by simp [intOf]; omega⟩
          · have hpp : p (k - 1) = false := hnew.resolve_left (by omega)
            obtain ⟨m, hm⟩ : ∃ m, k = m + 1 := ⟨k - 1, by omega⟩
            have e1 := HBk.out.cell (j := m) (by omega)
            rw [show p m = false from by rw [show m = k - 1 from by omega]; exact hpp] at e1
            have hkm : (k : Int) - 1 = (m : Int) := by omega
            have hmn : (m : Int) < (n : Int) := by omega
            have hm0 : (0 : Int) ≤ (m : Int) := by omega
            have hkp : (0 : Int) < (k : Int) := by omega
            clear hm hpp hnew hprev hp HBk
            go_wp2_with (at_builtin; refine wpList_append_own _ rfl _ _ 22 rfl w.heap.size 24 i0 (.agg #[.int .i64 0, .int .i64 0]) 2 16 Try.underlying22 hi hz0 hz1 hz2 rfl (by decide) _ dl _ rfl (HOW.out.alloc _) ⟨wr.heap.size, 0, none⟩ 1 1 (extC ((k : Int), 1)) rfl rfl HNW.out (extC_one _) (by unfold maxLen; omega) (by omega) (by simp; omega) ?_)
            intro v' w3 hown3 hgrow3 _
            have HB3 : Hid (Below w.heap.size w w3) := (Bn HBr.out (bel_alloc wr _)).grown hgrow3 (by simp; omega) (fun g hg => (own_block HOW.out g hg).1)
            have HO3 : Hid (w3.ownsRow w.heap.size 24 2 v' (docP p (k + 1)).length ((docP p (k + 1)).flatMap extC)) := by
              show World.ownsRow _ _ _ _ _ _ _
              rw [HNX.out, extC_snoc, List.length_append, ← HDL.out]
              exact hown3
            clear hown3 hgrow3 HNW
            go_wp2
            exact ⟨⟨k + 1, by omega, by go_num, HO3.out, HB3.out⟩, by simp [intOf]; omega⟩
      · have hpf : p k = false := by simpa using hp
        have HNX := hid (docP_no p k hpf)
        rw [hpf] at e0
        go_wp2
        refine ⟨⟨k + 1, by omega, by go_num, ?_, HBr.out⟩, by simp [intOf]; omega⟩
        show World.ownsRow _ _ _ _ _ _ _
        rw [HNX.out]
        exact HOW.out
    · obtain rfl : k = n := by omega
      have hkz : ¬ (k : Int) < (k : Int) := by omega
      go_wp2
      go_ret
      exact ⟨_, rfl, HOW.out, HBr.out⟩
end Go.Proofs.Ytkfoeijhhfaceaa
/-
  The document's Claim, Give and Other.
-/
namespace Go.Proofs.Ytkfoeijhhfaceaa
open Go.RowKit Go.Shelf
attribute [local go_sem] Oper.semAt_some

theorem turnP_iff (p : Nat → Bool) (e0 e1 : Int) (k : Nat) : (turnP p e0 e1 false k = true ↔ p k = true ∧ ¬ inE (e0, e1) (k : Int)) ∧ (turnP p e0 e1 true k = true ↔ p k = true ∨ inE (e0, e1) (k : Int)) := by
  unfold turnP inE
  dsimp only
  by_cases h : e0 ≤ (k : Int) ∧ (k : Int) < e0 + e1
  · simp [h]
  · simp [h]
theorem claim_doc {n : Nat} {l : List Ext} {e0 e1 : Int} (hl : Row (n : Int) l) (he : 1 ≤ e1) : docP (turnP (inB l) e0 e1 false) n = wout l (e0, e1) := by
  obtain ⟨h1, h2⟩ := wout_ok (e := (e0, e1)) hl he
  exact doc_eq rfl h1 _ (fun k _ => by rw [(turnP_iff _ e0 e1 k).1, h2, inB_iff])
theorem met_iff {l : List Ext} {e : Ext} (_ : ∀ x, x ∈ l → 1 ≤ x.2) (_ : 1 ≤ e.2) : metB l e = true ↔ meetR l e := by
  unfold metB meetR
  rw [List.any_eq_true]
  constructor
  · rintro ⟨x, hx, h⟩
    exact ⟨x, hx, by simpa using h⟩
  · rintro ⟨x, hx, h⟩
    exact ⟨x, hx, by simpa using h⟩
theorem meet_in {l : List Ext} {e : Ext} (hl : ∀ x, x ∈ l → 1 ≤ x.2) (he : 1 ≤ e.2) : meetR l e ↔ ∃ k, inE e k ∧ inR l k := by
  unfold meetR inR inE
  constructor
  · rintro ⟨x, hx, h1, h2⟩
    have := hl x hx
    exact ⟨max x.1 e.1, by omega, x, hx, by omega⟩
  · rintro ⟨k, h1, x, hx, h2⟩
    exact ⟨x, hx, by omega⟩
theorem give_doc {n : Nat} {l : List Ext} {e0 e1 : Int} (hl : Row (n : Int) l) (h0 : 0 ≤ e0) (h1 : 1 ≤ e1) (h2 : e0 + e1 ≤ (n : Int)) (hm : metB l (e0, e1) = false) : docP (turnP (inB l) e0 e1 true) n = withL l (e0, e1) := by
  have hm' : ¬ meetR l (e0, e1) := fun h => by rw [(met_iff (fun x hx => (hl.nrm.pos x hx).2) h1).2 h] at hm; cases hm
  obtain ⟨k1, k2⟩ := with_ok (e := (e0, e1)) hl ⟨h0, h1, h2⟩ hm'
  exact doc_eq rfl k1 _ (fun k _ => by rw [(turnP_iff _ e0 e1 k).2, k2, inB_iff])
theorem other_doc {n : Nat} {l : List Ext} (hl : Row (n : Int) l) : docP (fun k => !inB l k) n = btw (n : Int) l := by
  obtain ⟨h1, h2⟩ := btw_ok hl
  refine doc_eq rfl h1 _ (fun k hk => ?_)
  rw [h2]
  have e : (!inB l k) = true ↔ ¬ inR l (k : Int) := by rw [← inB_iff]; simp
  rw [e]
  exact ⟨fun h => ⟨by omega, by omega, h⟩, fun h => h.2.2⟩

set_option maxHeartbeats 6400000 in
set_option maxRecDepth 100000 in
theorem rclaim_word (b : Int) (a : Option Addr) (cap : Nat) (l : List Ext) (e0 e1 : Int) (w : World) (hr : Rx w a cap l) (he : (Lit.int .i64 e0).wf = true) :
    Calls Try.prog 25 #[.int .i64 b, .slice a l.length cap, .agg #[.int .i64 e0, .int .i64 e1]] w (RwPost (claimO b l (e0, e1)) w) := by
  have hB := bel_alloc w (.cells #[.int .i64 e0, .int .i64 e1] 24)
  have HXE : Hid (Xb (w.alloc (.cells #[.int .i64 e0, .int .i64 e1] 24)) w.heap.size (e0, e1)) := heap_new w _
  have HC := hid (rcheck_any b a cap l (w.alloc (.cells #[.int .i64 e0, .int .i64 e1] 24)) (hr.later hB))
  have HB := hid hB
  have HR := hid hr
  unfold RwPost claimO bothO
  by_cases h0 : chkO b l = 0
  · have hrow := chk_row h0
    have HRW := hid hrow
    have hlo := hrow.lo
    have hhi := hrow.hi
    have HL : Hid (∀ W, Calls Try.prog 33 #[.int .i64 b, .agg #[.int .i64 e0, .int .i64 e1]] W fun e w' => e = .returned (.bool (lieB b (e0, e1))) ∧ Below W.heap.size W w') := fun W => lies_ref b (e0, e1) W hlo hhi he
    rw [h0] at HC ⊢
    rw [if_neg (show ¬ ((0 : Int) ≠ 0) from fun h => h rfl)]
    by_cases hl : lieB b (e0, e1) = true
    · rw [if_pos hl, if_neg (show ¬ ((0 : Int) ≠ 0) from fun h => h rfl)]
      rw [hl] at HL
      obtain ⟨k1, k2, k3⟩ := (lieB_iff b (e0, e1)).1 hl
      dsimp only at k1 k2 k3
      have hhas : hasO l (e0, e1) = hldB l (e0, e1) := by
        unfold hasO
        rw [row_chk (row_wide hrow), (lieB_iff 4096 (e0, e1)).2 ⟨k1, k2, by dsimp only; omega⟩]
        simp
      have HH : Hid (∀ W, Below w.heap.size w W → Calls Try.prog 18 #[.slice a l.length cap, .agg #[.int .i64 e0, .int .i64 e1]] W fun e w' => e = .returned (.bool (hldB l (e0, e1))) ∧ Below W.heap.size W w') := fun W hW => by
        have := rhas_word a cap l e0 e1 W (HR.out.later hW) he
        rwa [hhas] at this
      obtain ⟨n, hn⟩ : ∃ n : Nat, b = (n : Int) := ⟨b.toNat, by omega⟩
      subst hn
      have hn4 : n ≤ 4096 := by omega
      have HBT : Hid (∀ W, Below w.heap.size w W → Calls Try.prog 39 #[.int .i64 (n : Int), .slice a l.length cap] W (BitsPost n l W)) := fun W hW => bits_ref n a cap l W (HR.out.later hW) HRW.out
      unfold BitsPost at HBT
      have HCD := hid (claim_doc (e0 := e0) hrow k2)
      clear hB hr he h0 hrow hl hhas hlo hhi HR
      by_cases ht : hldB l (e0, e1) = true
      · rw [if_pos ht]
        rw [ht] at HH
        rw [← HCD.out]
        clear ht
        generalize l.length = len at *
        go_enter Try.func25, Try.ntmps25
        go_wp2_with fail
        refine HC.out.mono ?_
        rintro _ w1 ⟨rfl, hb1⟩
        have HX1 := hid (HXE.out.later hb1)
        obtain ⟨c0, c1⟩ := HX1.out.cells
        have HB1 := hid (Bn HB.out hb1)
        have HL1 := hid (HL.out w1)
        dsimp only at c0 c1
        clear hb1 HC HXE HB HL
        go_wp2_with fail
        refine HL1.out.mono ?_
        rintro _ w2 ⟨rfl, hb2⟩
        have HX2 := hid (HX1.out.later hb2)
        obtain ⟨d0, d1⟩ := HX2.out.cells
        have HB2 := hid (Bn HB1.out hb2)
        dsimp only at d0 d1
        clear hb2 HB1 HL1 HX1 c0 c1
        have HH2 := hid (HH.out w2 HB2.out)
        go_wp2_with fail
        refine HH2.out.mono ?_
        rintro _ w3 ⟨rfl, hb3⟩
        have HX3 := hid (HX2.out.later hb3)
        have HB3 := hid (Bn HB2.out hb3)
        clear hb3 HH HH2 HB2 HX2 d0 d1
        obtain ⟨s, hs⟩ : ∃ s, s = w.heap.size := ⟨_, rfl⟩
        have HSS := hid hs
        have HSW : Hid (s < w3.heap.size) := by show _ < _; have := (Array.getElem?_eq_some_iff.1 HX3.out).1; rw [hs]; exact this
        rw [← hs] at HX3 ⊢
        clear hs
        go_wp2_with fail
        refine wp_region_held_drew (S := fun V => Xb V s (e0, e1)) (by kernel_rfl) HX3.out (fun hS0 => ?_)
        have HZ0 : Hid (Below w.heap.size w w3.drew) := HB3.out.drew
        have HSW2 : Hid (s < w3.drew.heap.size) := HSW.out
        refine Ord.take (i := 0) (d := 23) (v := ?vA0) rfl rfl (by as_aux_lemma => kernel_rfl) (by as_aux_lemma => kernel_rfl) (by as_aux_lemma => kernel_rfl) (fun _ _ _ h => h) (by rfl) ?hA0 (by assumption) ?_
        case hA0 => intro w hSw; go_simp; try with_reducible rfl
        simp only [List.setIfInBounds_toArray, List.set_cons_zero, List.set_cons_succ]
        refine Ord.take (i := 1) (d := 24) (v := ?vA1) rfl rfl (by as_aux_lemma => kernel_rfl) (by as_aux_lemma => kernel_rfl) (by as_aux_lemma => kernel_rfl) (fun _ _ _ h => h) (by rfl) ?hA1 (by assumption) ?_
        case hA1 => intro w hSw; go_simp; try with_reducible rfl
        simp only [List.setIfInBounds_toArray, List.set_cons_zero, List.set_cons_succ]
        refine Ord.take (i := 3) (d := 26) (v := .agg #[.int .i64 e0, .int .i64 e1]) rfl rfl (by as_aux_lemma => kernel_rfl) (by as_aux_lemma => kernel_rfl) (by as_aux_lemma => kernel_rfl) (fun _ _ _ h => h) (by rfl) ?hA3 (by assumption) ?_
        case hA3 => intro w hSw; have e := hSw.cells.1; have e' := hSw.cells.2; go_simp; try with_reducible rfl
        simp only [List.setIfInBounds_toArray, List.set_cons_zero, List.set_cons_succ]
        refine wpAnyH_ready (rs := [2]) (by as_aux_lemma => kernel_rfl) (by simp) (AllReadyH.cons rfl (fun K hK => ?_) AllReadyH.nil)
        go_simp
        refine (HBT.out _ HZ0.out).mono ?_
        rintro _ v1 ⟨g, rfl, hg, hbb, hbv⟩
        have hS1 := hS0.later hbv
        have HZ1 := hid (Bn HZ0.out hbv)
        refine hK.out _ _ hS1 (fun _ => ?_)
        clear hK K
        try simp only [List.setIfInBounds_toArray, List.set_cons_zero, List.set_cons_succ]
        refine wpAnyH_ready (rs := [4]) (by as_aux_lemma => kernel_rfl) (by simp) (AllReadyH.cons rfl (fun K hK => ?_) AllReadyH.nil)
        go_simp
        refine (turn_ref g n (inB l) e0 e1 false v1 hbb k1 k2 k3 hn4).mono ?_
        rintro _ v2 ⟨rfl, hbb2, hbut⟩
        have hS2 : Xb v2 s (e0, e1) := (hbut.same s (Array.getElem?_eq_some_iff.1 hS1).1 (by have := HSW2.out; omega)).trans hS1
        have HZ2 := hid (HZ1.out.trans (hbut.below (by have := HZ0.out.size; omega) HZ1.out.size))
        refine hK.out _ _ hS2 (fun _ => ?_)
        clear hK K
        try simp only [List.setIfInBounds_toArray, List.set_cons_zero, List.set_cons_succ]
        refine wpAnyH_ready (rs := [5]) (by as_aux_lemma => kernel_rfl) (by simp) (AllReadyH.cons rfl (fun K hK => ?_) AllReadyH.nil)
        go_simp
        have HRO := row_ref g n (turnP (inB l) e0 e1 false) v2 hbb2 hn4
        unfold RowPost at HRO
        refine HRO.mono ?_
        rintro _ v3 ⟨rv, rfl, hown, hbv3⟩
        have hS3 := hS2.later hbv3
        have HZ3 := hid (Bn HZ2.out hbv3)
        have HOW := hid (own_base hown HZ2.out.size)
        refine hK.out _ _ hS3 (fun _ => ?_)
        clear hK K hown
        try simp only [List.setIfInBounds_toArray, List.set_cons_zero, List.set_cons_succ]
        refine Ord.take (i := 6) (d := 6) (v := ?vA6) rfl rfl (by as_aux_lemma => kernel_rfl) (by as_aux_lemma => kernel_rfl) (by as_aux_lemma => kernel_rfl) (fun _ _ _ h => h) (by rfl) ?hA6 (by assumption) ?_
        case hA6 => intro w hSw; go_simp; try with_reducible rfl
        simp only [List.setIfInBounds_toArray, List.set_cons_zero, List.set_cons_succ]
        refine Ord.take (i := 7) (d := 7) (v := ?vA7) rfl rfl (by as_aux_lemma => kernel_rfl) (by as_aux_lemma => kernel_rfl) (by as_aux_lemma => kernel_rfl) (fun _ _ _ h => h) (by rfl) ?hA7 (by assumption) ?_
        case hA7 => intro w hSw; go_simp; try with_reducible rfl
        simp only [List.setIfInBounds_toArray, List.set_cons_zero, List.set_cons_succ]
        refine wpAnyH_done (by as_aux_lemma => kernel_rfl) ?_ _
        go_wp2
        go_ret2
        exact ⟨rv, rfl, HOW.out, HZ3.out⟩
      · rw [if_neg ht]
        rw [show hldB l (e0, e1) = false from by simpa using ht] at HH
        clear ht HCD HBT
        generalize l.length = len at *
        go_enter Try.func25, Try.ntmps25
        go_wp2_with fail
        refine HC.out.mono ?_
        rintro _ w1 ⟨rfl, hb1⟩
        have HX1 := hid (HXE.out.later hb1)
        obtain ⟨c0, c1⟩ := HX1.out.cells
        have HB1 := hid (Bn HB.out hb1)
        have HL1 := hid (HL.out w1)
        dsimp only at c0 c1
        clear hb1 HC HXE HB HL
        go_wp2_with fail
        refine HL1.out.mono ?_
        rintro _ w2 ⟨rfl, hb2⟩
        have HX2 := hid (HX1.out.later hb2)
        obtain ⟨d0, d1⟩ := HX2.out.cells
        have HB2 := hid (Bn HB1.out hb2)
        dsimp only at d0 d1
        clear hb2 HB1 HL1 HX1 c0 c1
        have HH2 := hid (HH.out w2 HB2.out)
        go_wp2_with fail
        refine HH2.out.mono ?_
        rintro _ w3 ⟨rfl, hb3⟩
        have HB3 := hid (Bn HB2.out hb3)
        clear hb3 HH HH2 HB2 HX2 d0 d1
        go_wp2
        go_ret2
        exact ⟨_, rfl, ⟨rfl, .inl ⟨rfl, rfl⟩⟩, HB3.out⟩
    · rw [if_neg hl, if_pos (show ((100 : Int) ≠ 0) by omega)]
      rw [show lieB b (e0, e1) = false from by simpa using hl] at HL
      clear hB hr he h0 hrow hl hlo hhi HR HRW
      generalize l.length = len at *
      go_enter Try.func25, Try.ntmps25
      go_wp2_with fail
      refine HC.out.mono ?_
      rintro _ w1 ⟨rfl, hb1⟩
      have HX1 := hid (HXE.out.later hb1)
      obtain ⟨c0, c1⟩ := HX1.out.cells
      have HB1 := hid (Bn HB.out hb1)
      have HL1 := hid (HL.out w1)
      dsimp only at c0 c1
      clear hb1 HC HXE HB HL
      go_wp2_with fail
      refine HL1.out.mono ?_
      rintro _ w2 ⟨rfl, hb2⟩
      have HX2 := hid (HX1.out.later hb2)
      obtain ⟨d0, d1⟩ := HX2.out.cells
      have HB2 := hid (Bn HB1.out hb2)
      dsimp only at d0 d1
      clear hb2 HB1 HL1 HX1 c0 c1
      go_wp2
      go_ret2
      exact ⟨_, rfl, ⟨rfl, .inl ⟨rfl, rfl⟩⟩, HB2.out⟩
  · rw [if_pos h0, if_pos h0]
    generalize chkO b l = c at *
    have hd : decide (c = 0) = false := decide_eq_false h0
    clear HXE HR hB hr he
    generalize l.length = len at *
    go_enter Try.func25, Try.ntmps25
    go_wp2_with fail
    refine HC.out.mono ?_
    rintro _ w1 ⟨rfl, hb1⟩
    have HB1 := hid (Bn HB.out hb1)
    clear hb1 HC HB
    go_wp2
    go_ret2
    exact ⟨_, rfl, ⟨rfl, .inl ⟨rfl, rfl⟩⟩, HB1.out⟩
end Go.Proofs.Ytkfoeijhhfaceaa
