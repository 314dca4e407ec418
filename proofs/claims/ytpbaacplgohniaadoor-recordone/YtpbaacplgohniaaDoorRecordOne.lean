/-
  RecordOne is proved for every input, as a tied card: two rows of records with one head are alike, or hold two unlike records with one chain; no condition but that the tables of package sha start as the text lays them.
-/
import Derived.Test.YtpbaacplgohniaaDoorRcZ
namespace Go.Proofs.YtpbaacplgohniaaDoor.recordOne
open Go.ChangeShapes Go.WideShapes Go.ChangeAt Go.RowKit Go.Deep

theorem few_ps (l : List Rec) : ∀ r ∈ fewL l, r.ps.length ≤ 1000 := fun r hr => by
  obtain ⟨y, _, rfl⟩ := List.mem_map.1 hr
  show (y.ps.take 60).length ≤ 1000
  simp
  omega
def hd0 : Hd := (0, 0, z32)
theorem bad_next {l m : List Rec} {k : Nat} (h : ∃ i, k ≤ i ∧ badAt l m i) (hn : ¬ badAt l m k) : ∃ i, k + 1 ≤ i ∧ badAt l m i := by
  obtain ⟨i, h1, h2⟩ := h
  refine ⟨i, ?_, h2⟩
  rcases Nat.lt_or_ge k i with q | q
  · exact q
  · have : i = k := by omega
    subst this
    exact absurd h2 hn
set_option maxHeartbeats 16000000 in
set_option maxRecDepth 100000 in
theorem walk (a1 : Option Addr) (c1 : Nat) (l : List Rec) (a2 : Option Addr) (c2 : Nat) (m : List Rec) (w : World) (hL : Sh.Laid w) (hr : Rr w a1 c1 l) (hq : Rr w a2 c2 m) :
    Calls Tryd.prog 7 #[.slice a1 l.length c1, .slice a2 m.length c2] w fun e w' => e = .returned (.bool true) ∧ Below w.heap.size w w' := by
  have HF1 := hid (few_word a1 c1 l w hr)
  have HQ := hid hq
  have HLA := hid hL
  have HP1 := hid (few_ps l)
  have HP2 := hid (few_ps m)
  have HN1 := fewL_len l
  have HN2 := fewL_len m
  have HFW2 := hid (fun V hV => few_word a2 c2 m V (hq.later hV))
  clear hr hq hL
  generalize l.length = L1 at *
  generalize m.length = L2 at *
  generalize fewL l = ll at *
  generalize fewL m = mm at *
  go_enter Tryd.func7, Tryd.ntmps7
  go_wp2_with fail
  refine HF1.out.mono ?_
  rintro _ W1 ⟨b1, d1, rfl, hr1, hb1⟩
  have HB1 := hid hb1
  have HR1 := hid hr1
  have HF2 := hid (HFW2.out W1 hb1)
  clear hb1 hr1 HF1 HFW2 HQ
  go_wp2_with fail
  refine HF2.out.mono ?_
  rintro _ W2 ⟨b2, d2, rfl, hr2, hb2⟩
  have HB2 := hid (Bn HB1.out hb2)
  have HR2 := hid (HR1.out.later hb2)
  have HM2 := hid hr2
  have HWK := hid (walk_word hd0 b1 d1 ll W2 rfl HR2.out (HLA.out.later HB2.out) HP1.out)
  clear hb2 hr2 HF2 HR1 HB1
  go_wp2_with (first | refine wpList_buildTo rfl 55 _ rfl (some 21) rfl (hdV hd0).toArray Tryd.built55 ?_ | fail)
  refine HWK.out.mono ?_
  rintro _ W3 ⟨rfl, hb3⟩
  obtain ⟨RL, hRL⟩ : ∃ RL, RL = wlk hd0 ll 0 := ⟨_, rfl⟩
  rw [← hRL]
  have HRL := hid hRL
  have hl1 : RL.1.2.2.length = 32 := by rw [hRL]; exact wlk_len _ _ _ rfl
  have hg1 := (wlk_rng ll hd0 0).2
  rw [← hRL, Nat.zero_add] at hg1
  obtain ⟨A, n, e1⟩ := RL
  have hg1' : n ≤ ll.length := hg1
  have hl1' : A.2.2.length = 32 := hl1
  have hba := bel_alc W3 (.cells (hdV A).toArray 55)
  have HSA : Hid ((Tryd.prog.info? 55).map (·.size) = some (hdV A).toArray.size) := size_hd hl1'
  have HAV : Hid ((hdV A).length = 34) := hdL_len _ _ _ hl1'
  have HZA : Hid ((hdL 0 0 z32).toArray.size = (hdV A).toArray.size) := by show _ = _; rw [List.size_toArray, List.size_toArray, HAV.out]; rfl
  have HOA := hid (all_oneCell_toArray (show ∀ u ∈ hdV A, u.oneCell' = true from hdL_one _ _ _))
  have HB3 := hid (Bn (Bn HB2.out hb3) hba)
  have HR3 := hid (HR2.out.later (Bn hb3 hba))
  have HM3 := hid (HM2.out.later (Bn hb3 hba))
  have HE3 := hid (heap_alc W3 (.cells (hdV A).toArray 55))
  have HLA1 := hid hl1'
  have HWM := hid (walk_word hd0 b2 d2 mm _ rfl HM3.out (HLA.out.later HB3.out) HP2.out)
  clear hb3 hRL hl1 hl1' hg1 hba HWK HR2 HM2 HB2
  go_wp2_with (first | refine wpList_alloc_at rfl 55 rfl (some 5) rfl _ Tryd.zero55 W3.heap.size rfl ?_ | refine wpList_store_new rfl 55 _ _ rfl rfl W3 (hdL 0 0 z32).toArray (hdV A).toArray rfl rfl rfl HSA.out HZA.out HOA.out ?_ | refine wpList_buildTo rfl 55 _ rfl (some 28) rfl (hdV hd0).toArray Tryd.built55 ?_ | fail)
  refine HWM.out.mono ?_
  rintro _ W4 ⟨rfl, hb4⟩
  obtain ⟨RM, hRM⟩ : ∃ RM, RM = wlk hd0 mm 0 := ⟨_, rfl⟩
  rw [← hRM]
  have HRM := hid hRM
  have hl2 : RM.1.2.2.length = 32 := by rw [hRM]; exact wlk_len _ _ _ rfl
  have hg2 := (wlk_rng mm hd0 0).2
  rw [← hRM, Nat.zero_add] at hg2
  obtain ⟨B, k2, e2⟩ := RM
  have hg2' : k2 ≤ mm.length := hg2
  have hl2' : B.2.2.length = 32 := hl2
  have hbb := bel_alc W4 (.cells (hdV B).toArray 55)
  have HSB : Hid ((Tryd.prog.info? 55).map (·.size) = some (hdV B).toArray.size) := size_hd hl2'
  have HBV : Hid ((hdV B).length = 34) := hdL_len _ _ _ hl2'
  have HZB : Hid ((hdL 0 0 z32).toArray.size = (hdV B).toArray.size) := by show _ = _; rw [List.size_toArray, List.size_toArray, HBV.out]; rfl
  have HOB := hid (all_oneCell_toArray (show ∀ u ∈ hdV B, u.oneCell' = true from hdL_one _ _ _))
  have HB5 := hid (Bn (Bn HB3.out hb4) hbb)
  have HR5 := hid (HR3.out.later (Bn hb4 hbb))
  have HM5 := hid (HM3.out.later (Bn hb4 hbb))
  have HEA := hid (((Bn hb4 hbb).block _ (Array.getElem?_eq_some_iff.1 HE3.out).1).trans HE3.out)
  have HEB := hid (heap_alc W4 (.cells (hdV B).toArray 55))
  have HRA : Hid ((W4.alloc (.cells (hdV B).toArray 55)).rangeAt W3.heap.size 0 (hdV A)) := fun j v hv => by
    rw [Nat.zero_add, Joins.cell_of_block HEA.out j, List.getElem?_toArray]
    exact hv
  have HRB : Hid ((W4.alloc (.cells (hdV B).toArray 55)).rangeAt W4.heap.size 0 (hdV B)) := fun j v hv => by
    rw [Nat.zero_add, Joins.cell_of_block HEB.out j, List.getElem?_toArray]
    exact hv
  have heq : ∀ V, (Op.equalIn 10000 55 (.agg (hdV A).toArray) (.agg (hdV B).toArray)).run Tryd.prog V = .ok (decide (A = B)) V := fun V => eq55 A B HLA1.out hl2' V
  have hgd := guard55
  obtain ⟨W5, hW5⟩ : ∃ W5, W5 = W4.alloc (.cells (hdV B).toArray 55) := ⟨_, rfl⟩
  have HW5 := hid hW5
  rw [← hW5] at HB5 HR5 HM5 HRA HRB
  have hro1 := HR5.out.room
  have hmo1 := HR5.out.most
  have hro2 := HM5.out.room
  have hmo2 := HM5.out.most
  unfold maxLen at hmo1 hmo2
  clear hb4 hRM hl2 hl2' hg2 hbb HWM HR3 HM3 HB3 HE3 HEA HEB hW5
  by_cases f1 : e1 = 0
  · subst f1
    by_cases f2 : e2 = 0
    · subst f2
      by_cases f3 : A = B
      · have hd : decide (A = B) = true := decide_eq_true f3
        rw [hd] at heq
        have w1 := wlk_all ll hd0 0 (by rw [← HRL.out])
        have w2 := wlk_all mm hd0 0 (by rw [← HRM.out])
        rw [← HRL.out] at w1
        rw [← HRM.out] at w2
        have g1 : n = ll.length := by have := w1.1; simp at this; exact this
        have g2 : k2 = mm.length := by have := w2.1; simp at this; exact this
        have g3 : ll.length = mm.length := by
          have q1 : A.1 = 0 + (ll.length : Int) := w1.2
          have q2 : B.1 = 0 + (mm.length : Int) := w2.2
          rw [f3] at q1
          omega
        have HOC := hid (one_chain ll mm hd0 hd0 0 0 g3 (by rw [← HRL.out]) (by rw [← HRM.out]) (by rw [← HRL.out, ← HRM.out, f3]))
        have HSM := hid (sameall_word b1 b2 d1 d2 ll mm W5 HR5.out HM5.out)
        obtain ⟨len, hlen⟩ : ∃ q, q = ll.length := ⟨_, rfl⟩
        have g3' : mm.length = len := by omega
        have g1' : len = n := by omega
        have g2' : len = k2 := by omega
        have HLR := hid hlen
        have HLQ : Hid (len = mm.length) := g3'.symm
        rw [← hlen] at HN1 hg1' hro1 HSM ⊢
        rw [g3'] at HN2 hg2' hro2 HSM ⊢
        subst g1'
        subst g2'
        clear w1 w2 g1 g2 g3 g3' hlen hd f3 HRL HRM
        go_wp2_with (first | refine wpList_alloc_at rfl 55 rfl (some 8) rfl _ Tryd.zero55 W4.heap.size rfl ?_ | refine wpList_store_as rfl 55 _ _ rfl rfl W4 (hdL 0 0 z32).toArray (hdV B).toArray rfl rfl rfl HSB.out HZB.out HOB.out W5 HW5.out ?_ | refine wpList_load_g rfl 55 _ rfl W3.heap.size 0 rfl (hdV A) _ HRA.out Tryd.underlying55 rfl (by rw [HAV.out]; exact Tryd.size55) ?_ | refine wpList_load_g rfl 55 _ rfl W4.heap.size 0 rfl (hdV B) _ HRB.out Tryd.underlying55 rfl (by rw [HBV.out]; exact Tryd.size55) ?_ | fail)
        refine HSM.out.mono ?_
        rintro _ W6 ⟨rfl, hb6⟩
        have HB6 := hid (Bn HB5.out hb6)
        have HR6 := hid (HR5.out.later hb6)
        have HM6 := hid (HM5.out.later hb6)
        have HLA6 := hid (HLA.out.later HB6.out)
        clear hb6 HSM HR5 HM5 HB5 HRA HRB heq hgd HW5
        obtain ⟨SL, hSL⟩ : ∃ SL, SL = sameL ll mm := ⟨_, rfl⟩
        rw [← hSL]
        cases SL with
        | true =>
          clear hSL HOC
          have HAL := hid (alive_word W6)
          go_wp2_with fail
          refine HAL.out.mono ?_
          rintro _ W9 ⟨rfl, hb9⟩
          have HBF := hid (Bn HB6.out hb9)
          clear hb9 HAL
          go_wp2
          go_ret
          exact ⟨rfl, HBF.out⟩
        | false =>
          have HBD : Hid (∃ i, 0 ≤ i ∧ badAt ll mm i) := by
            rcases HOC.out with ⟨i, hi⟩ | ⟨q, _⟩
            · exact ⟨i, Nat.zero_le _, hi⟩
            · rw [← hSL] at q; cases q
          clear hSL HOC
          go_wp2
          go_loopw [11] (fun x11 wr => ∃ k : Nat, k ≤ len ∧ x11 = .int .i64 (k : Int) ∧ Hid (Below W6.heap.size W6 wr) ∧ Hid (∃ i, k ≤ i ∧ badAt ll mm i)) (fun x11 _ => len - (intOf x11).toNat)
          case atStart => exact ⟨0, by omega, rfl, Below.refl _ _, HBD⟩
          case round =>
            obtain ⟨k, hk, rfl, HBK0, HBD2⟩ := hrel
            clear HBD
            by_cases hlt : k < len
            · have hkz : (k : Int) < (len : Int) := by omega
              obtain ⟨b, off, rfl, hbw, hc⟩ := HR6.out.cells (by rw [← HLR.out]; omega)
              obtain ⟨b3, off3, rfl, hbw2, hc2⟩ := HM6.out.cells (by rw [← HLQ.out]; omega)
              have HX := hid (hc k (by rw [← HLR.out]; exact hlt))
              have HY := hid (hc2 k (by rw [← HLQ.out]; exact hlt))
              have HXR := hid (HR6.out.get (j := k) (by rw [← HLR.out]; exact hlt))
              have HYR := hid (HM6.out.get (j := k) (by rw [← HLQ.out]; exact hlt))
              have HXP := hid (HP1.out (ll.getD k recZ) (by simp [List.getD, List.getElem?_eq_getElem (show k < ll.length by rw [← HLR.out]; exact hlt)]))
              have HYP := hid (HP2.out (mm.getD k recZ) (by simp [List.getD, List.getElem?_eq_getElem (show k < mm.length by rw [← HLQ.out]; exact hlt)]))
              have HBA : Hid (badAt ll mm k ↔ (sameB (ll.getD k recZ) (mm.getD k recZ) = false ∧ chnD (ll.getD k recZ) = chnD (mm.getD k recZ))) := ⟨fun q => q.2, fun q => ⟨by rw [← HLR.out]; exact hlt, q⟩⟩
              have HBW := hid hbw
              have HBW2 := hid hbw2
              generalize ll.getD k recZ = x at *
              generalize mm.getD k recZ = y at *
              have HXG : Hid (wr.rangeAt b (off + k * 38) x.cs) := range_later HX.out HBK0.out HBW.out
              have HCX := hid (dchain_word x wr (HXR.out.later HBK0.out) HXP.out)
              have HCYW := hid (fun V hV => dchain_word y V hV HYP.out)
              have HCXL := hid (chnD_len x)
              have HCYL := hid (chnD_len y)
              clear hc hc2 hbw hbw2
              generalize chnD x = cx at *
              generalize chnD y = cy at *
              go_wp2_with (first | refine wpList_load_g rfl 27 _ rfl b (off + k * 38) rfl x.cs _ HXG.out Tryd.underlying27 rfl (by rw [Rec.cs_len HXR.out.len]; exact Tryd.size27) ?_ | fail)
              refine HCX.out.mono ?_
              rintro _ Wa ⟨rfl, hba⟩
              have hbb := bel_alc Wa (.cells (u8A cx) 23)
              have HBa := hid (Bn (Bn HBK0.out hba) hbb)
              have HYG : Hid ((Wa.alloc (.cells (u8A cx) 23)).rangeAt b3 (off3 + k * 38) y.cs) := range_later HY.out HBa.out HBW2.out
              have HCY := hid (HCYW.out _ (HYR.out.later HBa.out))
              have HEX := hid (heap_alc Wa (.cells (u8A cx) 23))
              have HZX : Hid ((u8A z32).size = (u8A cx).size) := by show _ = _; rw [u8A_size, u8A_size, HCXL.out]; rfl
              clear hba hbb HCX HXG
              go_wp2_with (first | refine wpList_alloc_at rfl 23 rfl (some 12) rfl _ Tryd.zero23 Wa.heap.size rfl ?_ | refine wpList_store_new rfl 23 _ _ rfl rfl Wa (u8A z32) (u8A cx) rfl rfl rfl (size_dig HCXL.out) HZX.out (u8A_one _) ?_ | refine wpList_load_g rfl 27 _ rfl b3 (off3 + k * 38) rfl y.cs _ HYG.out Tryd.underlying27 rfl (by rw [Rec.cs_len HYR.out.len]; exact Tryd.size27) ?_ | fail)
              refine HCY.out.mono ?_
              rintro _ Wb ⟨rfl, hba⟩
              have hbb := bel_alc Wb (.cells (u8A cy) 23)
              have HBK := hid (Bn (Bn HBa.out hba) hbb)
              have HEX2 := hid (((Bn hba hbb).block _ (Array.getElem?_eq_some_iff.1 HEX.out).1).trans HEX.out)
              have HEY2 := hid (heap_alc Wb (.cells (u8A cy) 23))
              have HZY : Hid ((u8A z32).size = (u8A cy).size) := by show _ = _; rw [u8A_size, u8A_size, HCYL.out]; rfl
              clear hba hbb HCY HYG HBa HEX
              obtain ⟨Wc, hWc⟩ : ∃ Wc, Wc = Wb.alloc (.cells (u8A cy) 23) := ⟨_, rfl⟩
              have HWc := hid hWc
              rw [← hWc] at HBK HEX2 HEY2
              clear hWc
              go_wp2_with (first | refine wpList_alloc_at rfl 23 rfl (some 14) rfl _ Tryd.zero23 Wb.heap.size rfl ?_ | refine wpList_store_as rfl 23 _ _ rfl rfl Wb (u8A z32) (u8A cy) rfl rfl rfl (size_dig HCYL.out) HZY.out (u8A_one _) Wc HWc.out ?_ | fail)
              refine wp_region_held_drew (S := fun V => Below Wc.heap.size Wc V) (by kernel_rfl) (Below.refl _ _).drew (fun hS0 => ?_)
              generalize Wc.drew = v0 at *
              simp only [List.size_toArray, List.length_cons, List.length_nil, Nat.reduceAdd]
              refine Ord.take (i := 0) (d := 89) (v := ?v0) rfl rfl (by as_aux_lemma => kernel_rfl) (by as_aux_lemma => kernel_rfl) (by as_aux_lemma => kernel_rfl) (fun _ _ _ h => h) (by rfl) ?hA0 (by assumption) ?_
              case hA0 => intro V hSw; go_simp; try with_reducible rfl
              try simp only [List.setIfInBounds_toArray, List.set_cons_zero, List.set_cons_succ]
              refine Ord.take (i := 1) (d := 90) (v := ?v1) rfl rfl (by as_aux_lemma => kernel_rfl) (by as_aux_lemma => kernel_rfl) (by as_aux_lemma => kernel_rfl) (fun _ _ _ h => h) (by rfl) ?hA1 (by assumption) ?_
              case hA1 => intro V hSw; go_simp; try with_reducible rfl
              try simp only [List.setIfInBounds_toArray, List.set_cons_zero, List.set_cons_succ]
              refine Ord.take (i := 2) (d := 91) (v := .pointer (some ⟨b, off + k * 38, none⟩)) rfl rfl (by as_aux_lemma => kernel_rfl) (by as_aux_lemma => kernel_rfl) (by as_aux_lemma => kernel_rfl) (fun _ _ _ h => h) (by rfl) ?hA2 (by assumption) ?_
              case hA2 => intro V hSw; go_simp; try with_reducible rfl
              try simp only [List.setIfInBounds_toArray, List.set_cons_zero, List.set_cons_succ]
              refine Ord.take (i := 3) (d := 92) (v := .agg x.cs.toArray) rfl rfl (by as_aux_lemma => kernel_rfl) (by as_aux_lemma => kernel_rfl) (by as_aux_lemma => kernel_rfl) (fun _ _ _ h => h) (by rfl) ?hA3 (by assumption) ?_
              case hA3 => intro V hSw; exact exec_load 27 (.tmp 91) rfl b (off + k * 38) rfl (load_rm (range_later HX.out (Bn HBK.out hSw) HBW.out) HXR.out.len)
              try simp only [List.setIfInBounds_toArray, List.set_cons_zero, List.set_cons_succ]
              refine Ord.take (i := 4) (d := 93) (v := ?v4) rfl rfl (by as_aux_lemma => kernel_rfl) (by as_aux_lemma => kernel_rfl) (by as_aux_lemma => kernel_rfl) (fun _ _ _ h => h) (by rfl) ?hA4 (by assumption) ?_
              case hA4 => intro V hSw; go_simp; try with_reducible rfl
              try simp only [List.setIfInBounds_toArray, List.set_cons_zero, List.set_cons_succ]
              refine Ord.take (i := 5) (d := 94) (v := ?v5) rfl rfl (by as_aux_lemma => kernel_rfl) (by as_aux_lemma => kernel_rfl) (by as_aux_lemma => kernel_rfl) (fun _ _ _ h => h) (by rfl) ?hA5 (by assumption) ?_
              case hA5 => intro V hSw; go_simp; try with_reducible rfl
              try simp only [List.setIfInBounds_toArray, List.set_cons_zero, List.set_cons_succ]
              refine Ord.take (i := 6) (d := 95) (v := .pointer (some ⟨b3, off3 + k * 38, none⟩)) rfl rfl (by as_aux_lemma => kernel_rfl) (by as_aux_lemma => kernel_rfl) (by as_aux_lemma => kernel_rfl) (fun _ _ _ h => h) (by rfl) ?hA6 (by assumption) ?_
              case hA6 => intro V hSw; go_simp; try with_reducible rfl
              try simp only [List.setIfInBounds_toArray, List.set_cons_zero, List.set_cons_succ]
              refine Ord.take (i := 7) (d := 96) (v := .agg y.cs.toArray) rfl rfl (by as_aux_lemma => kernel_rfl) (by as_aux_lemma => kernel_rfl) (by as_aux_lemma => kernel_rfl) (fun _ _ _ h => h) (by rfl) ?hA7 (by assumption) ?_
              case hA7 => intro V hSw; exact exec_load 27 (.tmp 95) rfl b3 (off3 + k * 38) rfl (load_rm (range_later HY.out (Bn HBK.out hSw) HBW2.out) HYR.out.len)
              try simp only [List.setIfInBounds_toArray, List.set_cons_zero, List.set_cons_succ]
              refine wpAnyH_ready (rs := [8]) (by as_aux_lemma => kernel_rfl) (by simp) (AllReadyH.cons rfl (fun K hK => ?_) AllReadyH.nil)
              go_simp
              refine (dsame_word x y v0 (HXR.out.later (Bn HBK.out hS0)) (HYR.out.later (Bn HBK.out hS0))).mono ?_
              rintro _ v1 ⟨rfl, hb1⟩
              have hS1 := Bn hS0 hb1
              refine hK.out _ _ hS1 (fun _ => ?_)
              clear hK K hb1
              try simp only [List.setIfInBounds_toArray, List.set_cons_zero, List.set_cons_succ]
              generalize sameB x y = XY at *
              cases XY with
              | true =>
                have HNB := hid (bad_next HBD2.out (fun q => by have := (HBA.out.1 q).1; cases this))
                refine Ord.take (i := 9) (d := 98) (v := .bool false) rfl rfl (by as_aux_lemma => kernel_rfl) (by as_aux_lemma => kernel_rfl) (by as_aux_lemma => kernel_rfl) (fun _ _ _ h => h) (by rfl) ?hB9 (by assumption) ?_
                case hB9 => intro V hSw; go_simp; try with_reducible rfl
                try simp only [List.setIfInBounds_toArray, List.set_cons_zero, List.set_cons_succ]
                refine Ord.take (i := 10) (d := 99) (v := .bool false) rfl rfl (by as_aux_lemma => kernel_rfl) (by as_aux_lemma => kernel_rfl) (by as_aux_lemma => kernel_rfl) (fun _ _ _ h => h) (by rfl) ?hB10 (by assumption) ?_
                case hB10 => intro V hSw; go_simp; try with_reducible rfl
                try simp only [List.setIfInBounds_toArray, List.set_cons_zero, List.set_cons_succ]
                refine Ord.skip (i := 11) (d := 100) rfl rfl (by as_aux_lemma => kernel_rfl) (by as_aux_lemma => kernel_rfl) (by as_aux_lemma => kernel_rfl) (fun _ _ _ h => h) (by rfl) (by assumption) ?_
                try simp only [List.setIfInBounds_toArray, List.set_cons_zero, List.set_cons_succ]
                refine Ord.skip (i := 12) (d := 101) rfl rfl (by as_aux_lemma => kernel_rfl) (by as_aux_lemma => kernel_rfl) (by as_aux_lemma => kernel_rfl) (fun _ _ _ h => h) (by rfl) (by assumption) ?_
                try simp only [List.setIfInBounds_toArray, List.set_cons_zero, List.set_cons_succ]
                refine Ord.skip (i := 13) (d := 102) rfl rfl (by as_aux_lemma => kernel_rfl) (by as_aux_lemma => kernel_rfl) (by as_aux_lemma => kernel_rfl) (fun _ _ _ h => h) (by rfl) (by assumption) ?_
                try simp only [List.setIfInBounds_toArray, List.set_cons_zero, List.set_cons_succ]
                refine Ord.take (i := 14) (d := 103) (v := .bool false) rfl rfl (by as_aux_lemma => kernel_rfl) (by as_aux_lemma => kernel_rfl) (by as_aux_lemma => kernel_rfl) (fun _ _ _ h => h) (by rfl) ?hB14 (by assumption) ?_
                case hB14 => intro V hSw; go_simp; try with_reducible rfl
                try simp only [List.setIfInBounds_toArray, List.set_cons_zero, List.set_cons_succ]
                refine wpAnyH_done (by as_aux_lemma => kernel_rfl) ?_ _
                go_wp2
                go_round
                case rel => exact ⟨k + 1, by omega, by go_num, Bn HBK.out hS1, HNB⟩
                case measure => simp [intOf]; omega
              | false =>
                by_cases hcc : cx = cy
                · have HCC : Hid (decide (cx = cy) = true) := decide_eq_true hcc
                  clear hcc
                  refine Ord.take (i := 9) (d := 98) (v := .bool true) rfl rfl (by as_aux_lemma => kernel_rfl) (by as_aux_lemma => kernel_rfl) (by as_aux_lemma => kernel_rfl) (fun _ _ _ h => h) (by rfl) ?hC9 (by assumption) ?_
                  case hC9 => intro V hSw; go_simp; try with_reducible rfl
                  try simp only [List.setIfInBounds_toArray, List.set_cons_zero, List.set_cons_succ]
                  refine Ord.take (i := 10) (d := 99) (v := .bool true) rfl rfl (by as_aux_lemma => kernel_rfl) (by as_aux_lemma => kernel_rfl) (by as_aux_lemma => kernel_rfl) (fun _ _ _ h => h) (by rfl) ?hC10 (by assumption) ?_
                  case hC10 => intro V hSw; go_simp; try with_reducible rfl
                  try simp only [List.setIfInBounds_toArray, List.set_cons_zero, List.set_cons_succ]
                  refine Ord.take (i := 11) (d := 100) (v := .agg (u8A cx)) rfl rfl (by as_aux_lemma => kernel_rfl) (by as_aux_lemma => kernel_rfl) (by as_aux_lemma => kernel_rfl) (fun _ _ _ h => h) (by rfl) ?hC11 (by assumption) ?_
                  case hC11 => intro V hSw; exact exec_load 23 (.tmp 12) rfl Wa.heap.size 0 rfl (load_dig ((hSw.block _ (Array.getElem?_eq_some_iff.1 HEX2.out).1).trans HEX2.out) HCXL.out)
                  try simp only [List.setIfInBounds_toArray, List.set_cons_zero, List.set_cons_succ]
                  refine Ord.take (i := 12) (d := 101) (v := .agg (u8A cy)) rfl rfl (by as_aux_lemma => kernel_rfl) (by as_aux_lemma => kernel_rfl) (by as_aux_lemma => kernel_rfl) (fun _ _ _ h => h) (by rfl) ?hC12 (by assumption) ?_
                  case hC12 => intro V hSw; exact exec_load 23 (.tmp 14) rfl Wb.heap.size 0 rfl (load_dig ((hSw.block _ (Array.getElem?_eq_some_iff.1 HEY2.out).1).trans HEY2.out) HCYL.out)
                  try simp only [List.setIfInBounds_toArray, List.set_cons_zero, List.set_cons_succ]
                  refine Ord.take (i := 13) (d := 102) (v := .bool true) rfl rfl (by as_aux_lemma => kernel_rfl) (by as_aux_lemma => kernel_rfl) (by as_aux_lemma => kernel_rfl) (fun _ _ _ h => h) (by rfl) ?hC13 (by assumption) ?_
                  case hC13 => intro V hSw; exact run_eql_op rfl (xs := u8A cx) (ys := u8A cy) (b := true) rfl rfl guard37 (by rw [eq37 cx cy HCXL.out HCYL.out, HCC.out])
                  try simp only [List.setIfInBounds_toArray, List.set_cons_zero, List.set_cons_succ]
                  refine Ord.take (i := 14) (d := 103) (v := .bool true) rfl rfl (by as_aux_lemma => kernel_rfl) (by as_aux_lemma => kernel_rfl) (by as_aux_lemma => kernel_rfl) (fun _ _ _ h => h) (by rfl) ?hC14 (by assumption) ?_
                  case hC14 => intro V hSw; go_simp; try with_reducible rfl
                  try simp only [List.setIfInBounds_toArray, List.set_cons_zero, List.set_cons_succ]
                  refine wpAnyH_done (by as_aux_lemma => kernel_rfl) ?_ _
                  have HAL := hid (alive_word v1)
                  go_wp2_with fail
                  refine HAL.out.mono ?_
                  rintro _ W9 ⟨rfl, hb9⟩
                  have HBF := hid (Bn (Bn HB6.out (Bn HBK.out hS1)) hb9)
                  clear hb9 HAL
                  go_wp2
                  go_ret
                  exact ⟨rfl, HBF.out⟩
                · have HCC : Hid (decide (cx = cy) = false) := decide_eq_false hcc
                  have HNB := hid (bad_next HBD2.out (fun q => hcc (HBA.out.1 q).2))
                  clear hcc
                  refine Ord.take (i := 9) (d := 98) (v := .bool true) rfl rfl (by as_aux_lemma => kernel_rfl) (by as_aux_lemma => kernel_rfl) (by as_aux_lemma => kernel_rfl) (fun _ _ _ h => h) (by rfl) ?hD9 (by assumption) ?_
                  case hD9 => intro V hSw; go_simp; try with_reducible rfl
                  try simp only [List.setIfInBounds_toArray, List.set_cons_zero, List.set_cons_succ]
                  refine Ord.take (i := 10) (d := 99) (v := .bool true) rfl rfl (by as_aux_lemma => kernel_rfl) (by as_aux_lemma => kernel_rfl) (by as_aux_lemma => kernel_rfl) (fun _ _ _ h => h) (by rfl) ?hD10 (by assumption) ?_
                  case hD10 => intro V hSw; go_simp; try with_reducible rfl
                  try simp only [List.setIfInBounds_toArray, List.set_cons_zero, List.set_cons_succ]
                  refine Ord.take (i := 11) (d := 100) (v := .agg (u8A cx)) rfl rfl (by as_aux_lemma => kernel_rfl) (by as_aux_lemma => kernel_rfl) (by as_aux_lemma => kernel_rfl) (fun _ _ _ h => h) (by rfl) ?hD11 (by assumption) ?_
                  case hD11 => intro V hSw; exact exec_load 23 (.tmp 12) rfl Wa.heap.size 0 rfl (load_dig ((hSw.block _ (Array.getElem?_eq_some_iff.1 HEX2.out).1).trans HEX2.out) HCXL.out)
                  try simp only [List.setIfInBounds_toArray, List.set_cons_zero, List.set_cons_succ]
                  refine Ord.take (i := 12) (d := 101) (v := .agg (u8A cy)) rfl rfl (by as_aux_lemma => kernel_rfl) (by as_aux_lemma => kernel_rfl) (by as_aux_lemma => kernel_rfl) (fun _ _ _ h => h) (by rfl) ?hD12 (by assumption) ?_
                  case hD12 => intro V hSw; exact exec_load 23 (.tmp 14) rfl Wb.heap.size 0 rfl (load_dig ((hSw.block _ (Array.getElem?_eq_some_iff.1 HEY2.out).1).trans HEY2.out) HCYL.out)
                  try simp only [List.setIfInBounds_toArray, List.set_cons_zero, List.set_cons_succ]
                  refine Ord.take (i := 13) (d := 102) (v := .bool false) rfl rfl (by as_aux_lemma => kernel_rfl) (by as_aux_lemma => kernel_rfl) (by as_aux_lemma => kernel_rfl) (fun _ _ _ h => h) (by rfl) ?hD13 (by assumption) ?_
                  case hD13 => intro V hSw; exact run_eql_op rfl (xs := u8A cx) (ys := u8A cy) (b := false) rfl rfl guard37 (by rw [eq37 cx cy HCXL.out HCYL.out, HCC.out])
                  try simp only [List.setIfInBounds_toArray, List.set_cons_zero, List.set_cons_succ]
                  refine Ord.take (i := 14) (d := 103) (v := .bool false) rfl rfl (by as_aux_lemma => kernel_rfl) (by as_aux_lemma => kernel_rfl) (by as_aux_lemma => kernel_rfl) (fun _ _ _ h => h) (by rfl) ?hD14 (by assumption) ?_
                  case hD14 => intro V hSw; go_simp; try with_reducible rfl
                  try simp only [List.setIfInBounds_toArray, List.set_cons_zero, List.set_cons_succ]
                  refine wpAnyH_done (by as_aux_lemma => kernel_rfl) ?_ _
                  go_wp2
                  go_round
                  case rel => exact ⟨k + 1, by omega, by go_num, Bn HBK.out hS1, HNB⟩
                  case measure => simp [intOf]; omega
            · exfalso
              obtain ⟨i, h1, h2⟩ := HBD2.out
              have := h2.1
              rw [← HLR.out] at this
              omega
      · have hd : decide (A = B) = false := decide_eq_false f3
        rw [hd] at heq
        clear f3 hd
        have HAL := hid (alive_word W5)
        go_wp2_with (first | refine wpList_alloc_at rfl 55 rfl (some 8) rfl _ Tryd.zero55 W4.heap.size rfl ?_ | refine wpList_store_as rfl 55 _ _ rfl rfl W4 (hdL 0 0 z32).toArray (hdV B).toArray rfl rfl rfl HSB.out HZB.out HOB.out W5 HW5.out ?_ | refine wpList_load_g rfl 55 _ rfl W3.heap.size 0 rfl (hdV A) _ HRA.out Tryd.underlying55 rfl (by rw [HAV.out]; exact Tryd.size55) ?_ | refine wpList_load_g rfl 55 _ rfl W4.heap.size 0 rfl (hdV B) _ HRB.out Tryd.underlying55 rfl (by rw [HBV.out]; exact Tryd.size55) ?_ | fail)
        refine HAL.out.mono ?_
        rintro _ W9 ⟨rfl, hb9⟩
        have HBF := hid (Bn HB5.out hb9)
        clear hb9 HAL
        go_wp2
        go_ret
        exact ⟨rfl, HBF.out⟩
    · clear heq
      have HAL := hid (alive_word W5)
      go_wp2_with (first | refine wpList_alloc_at rfl 55 rfl (some 8) rfl _ Tryd.zero55 W4.heap.size rfl ?_ | refine wpList_store_as rfl 55 _ _ rfl rfl W4 (hdL 0 0 z32).toArray (hdV B).toArray rfl rfl rfl HSB.out HZB.out HOB.out W5 HW5.out ?_ | refine wpList_load_g rfl 55 _ rfl W3.heap.size 0 rfl (hdV A) _ HRA.out Tryd.underlying55 rfl (by rw [HAV.out]; exact Tryd.size55) ?_ | refine wpList_load_g rfl 55 _ rfl W4.heap.size 0 rfl (hdV B) _ HRB.out Tryd.underlying55 rfl (by rw [HBV.out]; exact Tryd.size55) ?_ | fail)
      refine HAL.out.mono ?_
      rintro _ W9 ⟨rfl, hb9⟩
      have HBF := hid (Bn HB5.out hb9)
      clear hb9 HAL
      go_wp2
      go_ret
      exact ⟨rfl, HBF.out⟩
  · clear heq
    have HAL := hid (alive_word W5)
    go_wp2_with (first | refine wpList_alloc_at rfl 55 rfl (some 8) rfl _ Tryd.zero55 W4.heap.size rfl ?_ | refine wpList_store_as rfl 55 _ _ rfl rfl W4 (hdL 0 0 z32).toArray (hdV B).toArray rfl rfl rfl HSB.out HZB.out HOB.out W5 HW5.out ?_ | refine wpList_load_g rfl 55 _ rfl W3.heap.size 0 rfl (hdV A) _ HRA.out Tryd.underlying55 rfl (by rw [HAV.out]; exact Tryd.size55) ?_ | refine wpList_load_g rfl 55 _ rfl W4.heap.size 0 rfl (hdV B) _ HRB.out Tryd.underlying55 rfl (by rw [HBV.out]; exact Tryd.size55) ?_ | fail)
    refine HAL.out.mono ?_
    rintro _ W9 ⟨rfl, hb9⟩
    have HBF := hid (Bn HB5.out hb9)
    clear hb9 HAL
    go_wp2
    go_ret
    exact ⟨rfl, HBF.out⟩

set_option maxRecDepth 100000 in
theorem lifted (os : Os) (started : os.Started) (H : Type) (enc : TypeId × Value → H) :
    ReturnsInHanded {} Tryd.checked os 7 .any (fun w args => (Rows.recordOneSpec.pre enc Tryd.prog Tryd.f7 [] false w args ∧ laidMetH Tryd.prog laidL w) ∧ sizedMet enc Tryd.prog Tryd.f7 (OpenSpec.ofChange Rows.recordOneSpec) false w args)
      (Rows.recordOneSpec.post enc Tryd.prog Tryd.f7 false true false false) := by
  refine returnsInHanded_of_change_and (C := Tryd.checked) (X := fun w _ => laidMetH Tryd.prog laidL w) (fun _ _ _ hh h => h.of_heap hh) own started (by kernel_rfl) Tryd.func7
    (ChangeSpec.witness_shaped (enc := enc) (C := Tryd.checked) (os := os) (X := fun w _ => laidMetH Tryd.prog laidL w) false (World.doorLaid Tryd.prog 400 os) #[.slice none 0 0, .slice none 0 0] 8 rfl (World.shaped_of_RefB (by kernel_rfl) (by kernel_rfl)) (by kernel_rfl) (by kernel_rfl) (by kernel_rfl) (door_met os _)) ?_
  intro W base args ds gs before hval0 hW _ _ hL _
  have hval : ∀ (j : Nat) t v, Tryd.f7.params[j]? = some t → args[j]? = some v → Value.okWide Tryd.prog W .any base t v := hval0
  have hW' := hW
  obtain ⟨p, q, hA0, hV, rfl, _, _⟩ := hW
  have hA : DataW.TrodAll enc Tryd.prog W 0 (fun _ => true) true Tryd.f7.params.toList args.toList ds p := hA0
  rw [Tryd.params7] at hA hval
  obtain ⟨v0, vs0, d0, ds0, p0, q0, hargs, rfl, rfl, h0, r0⟩ := trodAll_cons hA
  obtain ⟨v1, vs1, d1, ds1, p1, q1, rfl, rfl, rfl, h1, r1⟩ := trodAll_cons r0
  obtain ⟨rfl, rfl, rfl⟩ := trodAll_nil r1
  obtain rfl : args = #[v0, v1] := by cases args; simp_all
  obtain ⟨rfl, rfl⟩ := trodVars_none hV
  have hlaid := of_laid hL
  clear hA0
  simp only [List.append_nil] at hW'
  have hlt0 : ∀ x ∈ p0, x.block < W.heap.size := fun x hx => hW'.lt x (by simp [hx])
  have hk0 := h0
  obtain ⟨a0, cap0, l0, rfl, hr0⟩ := open_recs (hval 0 56 v0 rfl rfl) h0 hlt0
  have hlt1 : ∀ x ∈ p1, x.block < W.heap.size := fun x hx => hW'.lt x (by simp [hx])
  have hk1 := h1
  obtain ⟨a1, cap1, l1, rfl, hr1⟩ := open_recs (hval 1 56 v1 rfl rfl) h1 hlt1
  clear hval0
  refine (walk a0 cap0 l0 a1 cap1 l1 W hlaid hr0 hr1).mono fun e W' ⟨he, hb⟩ => ?_
  subst he
  exact ⟨_, rfl, _, _, _, [] ++ [], _, [], hW', trodAll_cons_mk (shut_bool Tryd.underlying4 _) trodAll_mk0, (trodAll_cons_mk (Below.trod Tryd.laidOut (by kernel_rfl) (of_decide_eq_true (by kernel_rfl)) hk0 hb hlt0) (trodAll_cons_mk (Below.trod Tryd.laidOut (by kernel_rfl) (of_decide_eq_true (by kernel_rfl)) hk1 hb hlt1) trodAll_mk0)), rfl, hb.frame _, fun h => by cases h⟩

theorem over : Rows.recordOneRow.holds Tryd.pinned (OpenSpec.ofChange Rows.recordOneSpec) :=
  OpenClaim.holds_of_wide 7 Tryd.f7 rfl rfl rfl rfl rfl rfl rfl ⟨rfl, rfl, rfl, rfl, rfl⟩ rfl rfl rfl rfl rfl (by kernel_rfl) Tryd.func7 (by kernel_rfl)
    (of_decide_eq_true (by kernel_rfl)) (by unfold Func.isWrapper; first | (rw [if_pos (by decide +kernel)]; kernel_rfl) | (rw [if_neg (by decide +kernel)]; exact ⟨rfl, rfl⟩))
    (fun os started H enc _ => lifted os started H enc)

theorem card : Rows.RecordOneCardSaid :=
  Claim7.holds_tied_plain_at .later [] [.data, .data] true (true, "875b16e5fcb2ccc823f28e185639766048f68080d49968449cd66f96e9b9ab4d") true
    over (fun _ h => by cases h) (by kernel_rfl) (fun _ h => by cases h) recordOne_row_tie rfl ⟨rfl, rfl⟩ (by kernel_rfl) rfl
    (fun f fn hf hfn => by
      obtain rfl : f = 7 := Option.some.inj ((show Tryd.prog.funcNamed "saltern/salternlaw13.RecordOne" = some 7 by kernel_rfl).symm.trans hf) |>.symm
      obtain rfl : fn = Tryd.f7 := (Option.some.inj (Tryd.func7.symm.trans hfn)).symm
      exact ⟨by kernel_rfl, fun j t ht => by
        rw [Tryd.params7] at ht
        have hm : t ∈ [56, 56] := by simpa using Array.mem_of_getElem? ht
        have hall : ([56, 56].all fun u => !Tryd.prog.wantsStandIn u) = true := by kernel_rfl
        exact (show Tryd.prog.wantsStandIn t = false by simpa using List.all_eq_true.1 hall t hm)⟩)
    (by kernel_rfl)

end Go.Proofs.YtpbaacplgohniaaDoor.recordOne
namespace Go.Proofs.YtpbaacplgohniaaDoor
theorem recordOne_holds : Rows.RecordOneCardSaid := recordOne.card
#print axioms recordOne_holds
end Go.Proofs.YtpbaacplgohniaaDoor
