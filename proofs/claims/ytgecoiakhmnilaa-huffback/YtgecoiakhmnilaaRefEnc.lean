/-
  The contract of the document's Encode.
-/
import Derived.Test.YtgecoiakhmnilaaRefPack
import Derived.Test.YtgecoiakhmnilaaEncodeW
namespace Go.Proofs.Ytgecoiakhmnilaa
open Go.RowKit Hf

theorem encr_no (a : Option Addr) (cap : Nat) (zs : List Int) (b : Option Addr) (cap2 : Nat) (ys : List Int) (w : World) (hr : Ri w .i64 a cap zs) (hc : checkB zs = false) :
    Calls Try.prog 22 #[.slice a zs.length cap, .slice b ys.length cap2] w fun e w' => e = .returned (.tuple #[.slice none 0 0, .int .i64 0, .int .i64 51]) ∧ Below w.heap.size w w' := by
  have HC := hid (codesr_no a cap zs w hr hc)
  clear hr hc
  generalize zs.length = len at *
  generalize ys.length = len2 at *
  go_enter Try.func22, Try.ntmps22
  go_wp2_with fail
  refine HC.out.mono ?_
  rintro _ w1 ⟨rfl, hw⟩
  obtain rfl := hw.symm
  clear hw
  go_wp2
  go_ret3
  exact ⟨rfl, Below.refl _ _⟩

/-- append of bits behind a row of one's own, as an operation. -/
theorem wp_app_bits (w : World) {o : Oper} {ac : Act} {K : Act → World → Prop} {Q : Exit → Act → World → Prop} (s x : Operand)
    (ho : o.op = .call { callee := .builtin .append, args := #[s, x], argTypes := #[69, 69] }) (B : Nat) (v : Value) (l : List Bool) (hs : ac.eval s = v) (hown : w.ownsRow B 4 1 v l.length (l.map Value.bool))
    (ad : Addr) (m cap : Nat) (bs : List Bool) (hm : bs.length = m) (hx : ac.eval x = .slice (some ad) m cap) (hc : ∀ j, j < m → w.cell? ⟨ad.block, ad.off + j, none⟩ = some (.bool (bs.getD j false))) (had : ad.spot = none) (hbd : l.length + m ≤ 1000000) (hB : B ≤ w.heap.size)
    (h : ∀ v' w', w'.ownsRow B 4 1 v' (l ++ bs).length ((l ++ bs).map Value.bool) → w.grownBy w' v.ownBlock → K (ac.put o.dst v') w') : o.wp Try.prog ac w K Q := by
  obtain ⟨i0, hi, hz0, hz1, hz2⟩ := info_parts Try.info4
  obtain ⟨gb, go, sp⟩ := ad
  simp only at had hc
  subst had
  refine wp_append_own w s x 69 ho B 4 i0 (.bool false) 1 1 Try.underlying69 hi hz0 hz1 hz2 rfl (by decide) v l.length _ hs hown ⟨gb, go, none⟩ m cap (bs.map Value.bool) hx (by simp; omega) ?_ ?_ (by unfold maxLen; omega) (by omega) hB ?_
  · intro j u hj
    have hjl : j < bs.length := by
      have := (List.getElem?_eq_some_iff.1 hj).1
      simpa using this
    rw [Go.WideShapes.add_plain, hc j (by omega), ← hj]
    simp [List.getD, List.getElem?_eq_getElem hjl]
  · intro u hu
    rw [List.mem_map] at hu
    obtain ⟨b, _, rfl⟩ := hu
    rfl
  · intro v' w' h1 h2 _
    refine h v' w' ?_ h2
    rw [List.length_append, List.map_append, hm]
    exact h1

set_option maxHeartbeats 3200000 in
set_option maxRecDepth 100000 in
theorem encode_ref (a : Option Addr) (cap : Nat) (zs : List Int) (b : Option Addr) (cap2 : Nat) (ys : List Int) (w : World) (hr : Ri w .i64 a cap zs) (hr2 : Ri w .i64 b cap2 ys) (hc : checkB zs = true) (hy : ys.length ≤ 120) :
    Calls Try.prog 22 #[.slice a zs.length cap, .slice b ys.length cap2] w (EncPost zs ys w) := by
  have HC := hid (codes_ref a cap zs w hr hc)
  have HCK := hid hc
  have hlen := (len_rng hc).1
  have HZ := hid (len_rng hc).2
  have HR := hid hr
  have HR2 := hid hr2
  obtain ⟨len, hl⟩ : ∃ n, n = zs.length := ⟨_, rfl⟩
  have HL := hid hl
  obtain ⟨len2, hl2⟩ : ∃ n, n = ys.length := ⟨_, rfl⟩
  have HL2 := hid hl2
  rw [← hl] at hlen HC ⊢
  rw [← hl2] at hy ⊢
  clear hr hr2 hc hl hl2
  go_enter Try.func22, Try.ntmps22
  go_wp2_with fail
  refine HC.out.mono ?_
  rintro _ w1 ⟨vc, rfl, hown, hb1⟩
  obtain ⟨ac, cc, rfl, hrc⟩ := Ri.own hown (fun j => wf_mk_u16 (codesL_rng zs j).1 (codesL_rng zs j).2)
  have HRC := hid hrc
  have HCL := hid (codesL_length zs)
  rw [HCL.out, ← HL.out]
  have hg1 := hb1.size
  have HB1 := hid hb1
  clear hown hrc hb1 HC
  go_wp2_with fail
  go_loopw [9, 10] (fun v i wr => ∃ k : Nat, k ≤ len2 ∧ i = .int .i64 k ∧ wr.ownsRow w1.heap.size 4 1 v (bitsE zs ys k).length ((bitsE zs ys k).map Value.bool) ∧ Below w1.heap.size w1 wr ∧ Hid (∀ j, j < k → has zs (ys.getD j 0) = true)) (fun _ i _ => len2 - (intOf i).toNat)
  case atStart => exact ⟨0, by omega, rfl, World.ownsRow_nil _ _ _ _, Below.refl _ _, fun j hj => absurd hj (by omega)⟩
  case round =>
    obtain ⟨k, hk, rfl, hW, hbel, HH⟩ := hrel
    by_cases hlt : k < len2
    · have hkl : (k : Int) < (len2 : Int) := by omega
      have K2 : Hid (k < ys.length) := by show _ < _; rw [← HL2.out]; exact hlt
      have hbw : Below w.heap.size w wr := HB1.out.trans (hbel.mono hg1)
      obtain ⟨b2, o2, rfl, hb2, hc2⟩ := (HR2.out).cells (by rw [← HL2.out]; omega)
      have ck : wr.cell? ⟨b2, o2 + k, none⟩ = some (.int .i64 (ys.getD k 0)) := (hbw.cell (p := ⟨b2, o2 + k, none⟩) hb2).trans (hc2 k K2.out)
      clear hc2
      have HN := hid (has_not (zs := zs) k K2.out)
      cases hh : has zs (ys.getD k 0) with
      | false =>
        have E := hid (HN.out hh)
        unfold has at hh
        have HBW := hid hbw
        rw [← HL.out] at hh
        clear HN K2 hW hbel
        generalize hy : ys.getD k 0 = y at *
        have HX : Hid (EncPost zs ys w (.returned (.tuple #[.slice none 0 0, .int .i64 0, .int .i64 53])) wr) := by
          show EncPost _ _ _ _ _
          unfold EncPost; rw [E.out]; exact ⟨rfl, HBW.out⟩
        have HHH := hid hh
        clear hh
        by_cases h1 : y < 0
        · clear hbw
          go_wp2
          go_ret3
          exact HX.out
        · by_cases h2 : (len : Int) ≤ y
          · clear hbw
            go_wp2
            go_ret3
            exact HX.out
          · obtain ⟨s, hs⟩ : ∃ s : Nat, y = (s : Int) := ⟨y.toNat, by omega⟩
            have hz0 : zs.getD s 0 = 0 := by
              have h := HHH.out
              rw [hs, decide_eq_true (by omega), decide_eq_true (by omega), Int.toNat_natCast] at h
              simpa using h
            have hsl : s < len := by omega
            have HSL : Hid (s < zs.length) := by show _ < _; rw [← HL.out]; exact hsl
            obtain ⟨b1, o1, rfl, hb1, hc1⟩ := (HR.out).cells (by have := HSL.out; omega)
            have c1 : wr.cell? ⟨b1, o1 + s, none⟩ = some (.int .i64 0) := by
              rw [(hbw.cell (p := ⟨b1, o1 + s, none⟩) hb1).trans (hc1 s HSL.out), hz0]
            clear hc1 hz0 hbw HHH
            rw [hs] at ck h1 h2
            clear hs hy
            go_wp2
            go_ret3
            exact HX.out
      | true =>
        unfold has at hh
        rw [← HL.out, Bool.and_eq_true, Bool.and_eq_true, decide_eq_true_eq, decide_eq_true_eq, bne_iff_ne] at hh
        have HH2 : Hid (∀ j, j < k + 1 → has zs (ys.getD j 0) = true) := fun j hj => by
          by_cases e : j = k
          · subst e
            unfold has
            rw [← HL.out, Bool.and_eq_true, Bool.and_eq_true, decide_eq_true_eq, decide_eq_true_eq, bne_iff_ne]
            exact hh
          · exact HH.out j (by omega)
        obtain ⟨s, hs⟩ : ∃ s : Nat, ys.getD k 0 = (s : Int) := ⟨(ys.getD k 0).toNat, by omega⟩
        rw [hs, Int.toNat_natCast] at hh
        have hsl : s < len := by omega
        have HSL : Hid (s < zs.length) := by show _ < _; rw [← HL.out]; exact hsl
        have hz := HZ.out s
        obtain ⟨l, hlz⟩ : ∃ l : Nat, zs.getD s 0 = (l : Int) := ⟨(zs.getD s 0).toNat, by omega⟩
        have hl0 : 0 < l := by have := hh.2; omega
        have hl15 : l ≤ 15 := by omega
        obtain ⟨c, hcv⟩ : ∃ c, c = codeN zs s := ⟨_, rfl⟩
        have hcl : c < 2 ^ l := by rw [hcv]; exact codeN_lt HCK.out s l HSL.out hlz hl0 hl15
        have hc16 : c < 65536 := Nat.lt_of_lt_of_le hcl (by have := Nat.pow_le_pow_right (show 0 < 2 by decide) (show l ≤ 16 by omega); simpa using this)
        have hcf : (codesL zs).getD s 0 = (c : Int) := by rw [codesL_getD zs s HSL.out, codeF_lt HCK.out s l HSL.out hlz hl0 hl15, hcv]
        obtain ⟨b1, o1, rfl, hb1, hc1⟩ := (HR.out).cells (by have := HSL.out; omega)
        have c1 : wr.cell? ⟨b1, o1 + s, none⟩ = some (.int .i64 (l : Int)) := by
          rw [(hbw.cell (p := ⟨b1, o1 + s, none⟩) hb1).trans (hc1 s HSL.out), hlz]
        obtain ⟨b3, o3, rfl, hb3, hc3⟩ := (HRC.out).cells (by rw [HCL.out]; have := HSL.out; omega)
        have c3 : wr.cell? ⟨b3, o3 + s, none⟩ = some (.int .u16 (c : Int)) := by
          rw [(hbel.cell (p := ⟨b3, o3 + s, none⟩) hb3).trans (hc3 s (by rw [HCL.out]; exact HSL.out)), hcf]
        have hb1g : b1 < w1.heap.size := by omega
        have HE : Hid (bitsE zs ys (k + 1) = bitsE zs ys k ++ bitsL c l) := by
          show _ = _
          rw [bitsE, symL, symC, hs, Int.toNat_natCast, hlz, Int.toNat_natCast, hcv]
        have HBL : Hid ((bitsE zs ys k).length ≤ 1800) := by
          show _ ≤ _
          rw [bitsE_length]
          have := encL_le zs ys (fun j => (HZ.out j).2) k
          omega
        have HW := hid hW
        have HBE := hid hbel
        have HBC : Hid (∀ W : World, Calls Try.prog 38 #[.int .u16 (c : Int), .int .i64 (l : Int)] W fun e w' => ∃ v, e = .returned v ∧ w'.ownsRow W.heap.size 4 1 v (bitsL c l).length ((bitsL c l).map Value.bool) ∧ Below W.heap.size W w') := fun W => bits_ref c l W hc16 (by omega)
        rw [hs] at ck
        have hs0 : ¬ (s : Int) < 0 := by omega
        have hs1 : ¬ (len : Int) ≤ (s : Int) := by omega
        have hnz : ((l : Int) == 0) = false := by simp; omega
        clear hW hbel hbw hc1 hc3 hcf hcv hlz hh hs hz HN K2
        generalize bitsE zs ys k = acc at *
        go_wp2_with fail
        refine wp_region_held_drew (S := fun W => W.cell? ⟨b3, o3 + s, none⟩ = some (.int .u16 (c : Int)) ∧ W.cell? ⟨b1, o1 + s, none⟩ = some (.int .i64 (l : Int))) (by kernel_rfl) ⟨c3, c1⟩ (fun hS2 => ?_)
        have HWd := hid HW.out.drew
        have HBD := hid HBE.out.drew
        have HC1 : Hid (wr.drew.cell? ⟨b3, o3 + s, none⟩ = some (.int .u16 (c : Int)) ∧ wr.drew.cell? ⟨b1, o1 + s, none⟩ = some (.int .i64 (l : Int))) := ⟨c3, c1⟩
        have h1wd : w1.heap.size ≤ wr.drew.heap.size := HBD.out.size
        clear c1 c3 HW HBE
        generalize wr.drew = wD at *
        refine Ord.take (i := 0) (d := 45) (v := ?v0) rfl rfl (by as_aux_lemma => kernel_rfl) (by as_aux_lemma => kernel_rfl) (by as_aux_lemma => kernel_rfl) (fun _ _ _ h => h) (by rfl) ?h0 (by assumption) ?_
        case h0 => intro w hSw; go_simp; try with_reducible rfl
        simp only [List.setIfInBounds_toArray, List.set_cons_zero, List.set_cons_succ]
        refine Ord.take (i := 1) (d := 46) (v := ?v1) rfl rfl (by as_aux_lemma => kernel_rfl) (by as_aux_lemma => kernel_rfl) (by as_aux_lemma => kernel_rfl) (fun _ _ _ h => h) (by rfl) ?h1 (by assumption) ?_
        case h1 => intro w hSw; go_simp; try with_reducible rfl
        simp only [List.setIfInBounds_toArray, List.set_cons_zero, List.set_cons_succ]
        refine Ord.take (i := 2) (d := 47) (v := ?v2) rfl rfl (by as_aux_lemma => kernel_rfl) (by as_aux_lemma => kernel_rfl) (by as_aux_lemma => kernel_rfl) (fun _ _ _ h => h) (by rfl) ?h2 (by assumption) ?_
        case h2 => intro w hSw; go_simp; try with_reducible rfl
        simp only [List.setIfInBounds_toArray, List.set_cons_zero, List.set_cons_succ]
        refine Ord.take (i := 3) (d := 48) (v := ?v3) rfl rfl (by as_aux_lemma => kernel_rfl) (by as_aux_lemma => kernel_rfl) (by as_aux_lemma => kernel_rfl) (fun _ _ _ h => h) (by rfl) ?h3 (by assumption) ?_
        case h3 => intro w hSw; go_simp; try with_reducible rfl
        simp only [List.setIfInBounds_toArray, List.set_cons_zero, List.set_cons_succ]
        refine Ord.take (i := 4) (d := 49) (v := .int .u16 (c : Int)) rfl rfl (by as_aux_lemma => kernel_rfl) (by as_aux_lemma => kernel_rfl) (by as_aux_lemma => kernel_rfl) (fun _ _ _ h => h) (by rfl) ?h4 (by assumption) ?_
        case h4 => intro w hSw; have e := hSw.1; go_simp; try with_reducible rfl
        simp only [List.setIfInBounds_toArray, List.set_cons_zero, List.set_cons_succ]
        refine Ord.take (i := 5) (d := 50) (v := ?v5) rfl rfl (by as_aux_lemma => kernel_rfl) (by as_aux_lemma => kernel_rfl) (by as_aux_lemma => kernel_rfl) (fun _ _ _ h => h) (by rfl) ?h5 (by assumption) ?_
        case h5 => intro w hSw; go_simp; try with_reducible rfl
        simp only [List.setIfInBounds_toArray, List.set_cons_zero, List.set_cons_succ]
        refine Ord.take (i := 6) (d := 51) (v := ?v6) rfl rfl (by as_aux_lemma => kernel_rfl) (by as_aux_lemma => kernel_rfl) (by as_aux_lemma => kernel_rfl) (fun _ _ _ h => h) (by rfl) ?h6 (by assumption) ?_
        case h6 => intro w hSw; go_simp; try with_reducible rfl
        simp only [List.setIfInBounds_toArray, List.set_cons_zero, List.set_cons_succ]
        refine Ord.take (i := 7) (d := 52) (v := ?v7) rfl rfl (by as_aux_lemma => kernel_rfl) (by as_aux_lemma => kernel_rfl) (by as_aux_lemma => kernel_rfl) (fun _ _ _ h => h) (by rfl) ?h7 (by assumption) ?_
        case h7 => intro w hSw; go_simp; try with_reducible rfl
        simp only [List.setIfInBounds_toArray, List.set_cons_zero, List.set_cons_succ]
        refine Ord.take (i := 8) (d := 53) (v := .int .i64 (l : Int)) rfl rfl (by as_aux_lemma => kernel_rfl) (by as_aux_lemma => kernel_rfl) (by as_aux_lemma => kernel_rfl) (fun _ _ _ h => h) (by rfl) ?h8 (by assumption) ?_
        case h8 => intro w hSw; have e := hSw.2; go_simp; try with_reducible rfl
        simp only [List.setIfInBounds_toArray, List.set_cons_zero, List.set_cons_succ]
        refine wpAnyH_ready (rs := [9]) (by as_aux_lemma => kernel_rfl) (by simp) (AllReadyH.cons rfl (fun K hK => ?_) AllReadyH.nil)
        go_simp
        refine (HBC.out wD).mono ?_
        rintro _ w3 ⟨v3, rfl, hown3, hb3'⟩
        have hS3 : w3.cell? ⟨b3, o3 + s, none⟩ = some (.int .u16 (c : Int)) ∧ w3.cell? ⟨b1, o1 + s, none⟩ = some (.int .i64 (l : Int)) :=
          ⟨(hb3'.cell (p := ⟨b3, o3 + s, none⟩) (by show b3 < _; omega)).trans HC1.out.1, (hb3'.cell (p := ⟨b1, o1 + s, none⟩) (by show b1 < _; omega)).trans HC1.out.2⟩
        refine hK.out _ _ hS3 (fun _ => ?_)
        clear hK K
        have hown2 : w3.ownsRow w1.heap.size 4 1 u9 acc.length (acc.map Value.bool) := by
          refine ⟨HWd.out.1, ?_⟩
          rcases HWd.out.2 with h1 | ⟨gg, cp, cur, hv, hgg, hh, hrest⟩
          · exact Or.inl h1
          · exact Or.inr ⟨gg, cp, cur, hv, hgg, (hb3'.block gg (Array.getElem?_eq_some_iff.1 hh).1).trans hh, hrest⟩
        obtain ⟨g3, cp3, hv3, hg3, hcp3⟩ := own_some hown3 (by rw [bitsL_length]; exact hl0)
        subst hv3
        rw [bitsL_length] at hown3
        have hcell3 : ∀ j, j < l → w3.cell? ⟨g3, 0 + j, none⟩ = some (.bool ((bitsL c l).getD j false)) := fun j hj => by
          have hj2 : j < (bitsL c l).length := by rw [bitsL_length]; exact hj
          rw [Nat.zero_add, bitsL_length] at *
          rw [hown3.cellAt j (by omega), List.getElem?_map]
          simp [List.getD, bitsL, hj]
        have hB3 : Below w1.heap.size w1 w3 := Bn HBD.out hb3'
        refine wpAnyH_ready (rs := [10]) (by as_aux_lemma => kernel_rfl) (by simp) (AllReadyH.cons rfl (fun K hK => ?_) AllReadyH.nil)
        refine wp_app_bits _ (.tmp 45) (.tmp 54) rfl w1.heap.size _ acc rfl hown2 ⟨g3, 0, none⟩ l cp3 (bitsL c l) (bitsL_length c l) (by rw [bitsL_length]; rfl) hcell3 rfl (by have := HBL.out; omega) hB3.size ?_
        intro v4 w4 hown4 hg4
        have hB4 : Below w1.heap.size w1 w4 := hB3.grown hg4 hB3.size (fun j hj => (hown2.lt j hj).1)
        have hS4 : w4.cell? ⟨b3, o3 + s, none⟩ = some (.int .u16 (c : Int)) ∧ w4.cell? ⟨b1, o1 + s, none⟩ = some (.int .i64 (l : Int)) := by
          have hb34 : Below w1.heap.size w3 w4 := (Below.refl w1.heap.size w3).grown hg4 hB3.size (fun j hj => (hown2.lt j hj).1)
          exact ⟨(hb34.cell (p := ⟨b3, o3 + s, none⟩) hb3).trans hS3.1, (hb34.cell (p := ⟨b1, o1 + s, none⟩) hb1g).trans hS3.2⟩
        refine hK.out _ _ hS4 (fun _ => ?_)
        clear hK K
        refine Ord.put (d := 55) rfl ?_
        simp only [List.setIfInBounds_toArray, List.set_cons_zero, List.set_cons_succ]
        have HO4 : Hid (w4.ownsRow w1.heap.size 4 1 v4 (bitsE zs ys (k + 1)).length ((bitsE zs ys (k + 1)).map Value.bool)) := by
          show World.ownsRow _ _ _ _ _ _ _
          rw [HE.out]; exact hown4
        have HB4 := hid hB4
        clear hown4 hg4 hB4 hown2 hown3 hB3 hcell3 hb3' hS3
        refine Ord.take (i := 11) (d := 9) (v := v4) rfl rfl (by as_aux_lemma => kernel_rfl) (by as_aux_lemma => kernel_rfl) (by as_aux_lemma => kernel_rfl) (fun _ _ _ h => h) (by rfl) ?h11 (by assumption) ?_
        case h11 => intro w hSw; go_simp; try with_reducible rfl
        simp only [List.setIfInBounds_toArray, List.set_cons_zero, List.set_cons_succ]
        refine wpAnyH_done (by as_aux_lemma => kernel_rfl) ?_ _
        clear hS4 ck
        go_wp2
        go_roundw
        case rel => exact ⟨k + 1, by omega, by go_num, HO4.out, HB4.out, HH2⟩
        case measure => simp [intOf]; omega
    · obtain rfl : k = len2 := by omega
      have hbw : Below w.heap.size w wr := HB1.out.trans (hbel.mono hg1)
      have HA := hid (has_all (zs := zs) (ys := ys) (fun j hj => HH.out j (by rw [HL2.out]; exact hj)))
      obtain ⟨ab, cb, rfl, hrb⟩ := Rb.own hW
      have hbl : (bitsE zs ys k).length ≤ 100000 := by
        rw [bitsE_length]
        have := encL_le zs ys (fun j => (HZ.out j).2) k
        omega
      have hnum : nB (bitsE zs ys k) (bitsE zs ys k).length = encN zs ys k := by
        refine bitsE_num zs ys k (fun j hj => ?_)
        have hhj := HH.out j hj
        unfold has at hhj
        rw [Bool.and_eq_true, Bool.and_eq_true, decide_eq_true_eq, decide_eq_true_eq, bne_iff_ne] at hhj
        have hz := HZ.out (ys.getD j 0).toNat
        unfold symC symL
        refine codeN_lt HCK.out _ _ (by omega) (by omega) (by omega) (by omega)
      have HP := hid (pack_ref ab cb (bitsE zs ys k) wr hrb hbl)
      rw [hnum, bitsE_length] at HP
      rw [bitsE_length]
      rw [HL2.out] at HP
      have HBW := hid hbw
      have HKE := hid HL2.out
      rw [HL2.out]
      clear hW hbel hbw hrb hnum hbl
      go_wp2_with fail
      refine HP.out.mono ?_
      rintro _ w3 ⟨v3, rfl, hown3, hb3⟩
      have HX : Hid (EncPost zs ys w (.returned (.tuple #[v3, .int .i64 ((encL zs ys ys.length : Nat) : Int), .int .i64 0])) w3) := by
        show EncPost _ _ _ _ _
        unfold EncPost
        rw [if_pos HA.out]
        exact ⟨⟨v3, rfl, own_low hown3 HBW.out.size⟩, Bn HBW.out hb3⟩
      clear hown3 hb3
      go_wp2
      go_ret3
      exact HX.out
end Go.Proofs.Ytgecoiakhmnilaa
