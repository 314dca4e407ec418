/-
  The contracts of the writer's end and of huff.Encode.
-/
import Derived.Test.YtgecoiakhmnilaaPut
import Derived.Test.YtgecoiakhmnilaaCodesW
import Derived.Test.YtgecoiakhmnilaaCost
import Derived.Test.YtgecoiakhmnilaaEncMath
namespace Go.Proofs.Ytgecoiakhmnilaa
open Go.RowKit Hf

theorem put_zero (g N n len : Nat) (z : Int) (v : Value) (w : World) (hW : Wr w g (fullB N n) (N % 4294967296) n v) (hlen : len ≤ 15) (hn : n ≤ 100000) (hz : z = (len : Int)) :
    Calls Try.prog 36 #[.pointer (some ⟨g, 0, none⟩), .int .u16 0, .int .i64 z] w fun e w' => e = .returned (.tuple #[]) ∧ (∃ v', Wr w' g (fullB (N * 2 ^ len) (n + len)) ((N * 2 ^ len) % 4294967296) (n + len) v') ∧ Below g w w' := by
  subst hz
  exact put_word g N n 0 len v w hW hlen (Nat.two_pow_pos _) hn

theorem Wr.slice {w : World} {g : Nat} {l : List Int} {o n : Nat} {v : Value} (h : Wr w g l o n v) : ∃ a m cap, v = .slice a m cap := own_slice h.row

theorem end_word (g N n : Nat) (v : Value) (w : World) (hW : Wr w g (fullB N n) (N % 4294967296) n v) (hn : n ≤ 100000) :
    Calls Try.prog 37 #[.pointer (some ⟨g, 0, none⟩)] w fun e w' => ∃ v', e = .returned (.tuple #[v', .int .i64 (n : Int)]) ∧ w'.ownsRow (g + 1) 5 1 v' (packN N n).length ((packN N n).map (Value.int .u8)) ∧ Below g w w' := by
  have c2 := Joins.cell_of_block hW.blk 2
  simp at c2
  by_cases h : n % 8 = 0
  · have e : packN N n = fullB N n := by unfold packN padN; rw [if_pos h]; simp
    rw [e]
    obtain ⟨a, m, cp, rfl⟩ := hW.slice
    have c0 := Joins.cell_of_block hW.blk 0
    simp at c0
    have HR := hid hW.row
    have h0 : (n : Int) % 8 = 0 := by omega
    clear hW e
    go_enter Try.func37, Try.ntmps37
    go_wp2
    go_ret2
    exact ⟨_, rfl, HR.out, Below.refl _ _⟩
  · have e : packN N n = fullB (N * 2 ^ (8 - n % 8)) (n + (8 - n % 8)) := by unfold packN padN; rw [if_neg h]
    rw [e]
    have HP := hid (put_zero g N n (8 - n % 8) (8 - (n : Int) % 8) v w hW (by omega) hn (by omega))
    clear hW e
    have h0 : (0 : Int) < (n : Int) % 8 := by omega
    go_enter Try.func37, Try.ntmps37
    go_wp2_with fail
    refine HP.out.mono ?_
    rintro _ w1 ⟨rfl, ⟨v1, hW1⟩, hb1⟩
    obtain ⟨a, m, cp, rfl⟩ := hW1.slice
    have c0 := Joins.cell_of_block hW1.blk 0
    simp at c0
    have HR := hid hW1.row
    clear hW1
    go_wp2
    go_ret2
    exact ⟨_, rfl, HR.out, hb1⟩

theorem encode_no (a : Option Addr) (cap : Nat) (zs : List Int) (b : Option Addr) (cap2 : Nat) (ys : List Int) (w : World) (hr : Ri w .i64 a cap zs) (hc : checkB zs = false) :
    Calls Try.prog 21 #[.slice a zs.length cap, .slice b ys.length cap2] w fun e w' => e = .returned (.tuple #[.slice none 0 0, .int .i64 0, .int .i64 51]) ∧ Below w.heap.size w w' := by
  have HC := hid (codes_no a cap zs w hr hc)
  clear hr hc
  generalize zs.length = len at *
  generalize ys.length = len2 at *
  go_enter Try.func21, Try.ntmps21
  go_wp2_with fail
  refine HC.out.mono ?_
  rintro _ w1 ⟨rfl, hb1⟩
  go_wp2
  go_ret3
  exact ⟨rfl, hb1⟩

/-- Where symbols have no code: the first one. -/
def allHas (zs ys : List Int) : Bool := ys.all (has zs)
theorem has_not {zs ys : List Int} (k : Nat) (hk : k < ys.length) (h : has zs (ys.getD k 0) = false) : allHas zs ys = false := by
  unfold allHas
  rw [List.all_eq_false]
  exact ⟨_, getD_mem ys k hk, by rw [h]; simp⟩
theorem has_all {zs ys : List Int} (h : ∀ k, k < ys.length → has zs (ys.getD k 0) = true) : allHas zs ys = true := by
  unfold allHas
  rw [List.all_eq_true]
  intro x hx
  obtain ⟨i, hi, rfl⟩ := List.getElem_of_mem hx
  have := h i hi
  simpa [List.getD, List.getElem?_eq_getElem hi] using this

/-- What Encode answers. -/
def EncPost (zs ys : List Int) (w : World) (e : Ending) (w' : World) : Prop :=
  (if allHas zs ys then ∃ v, e = .returned (.tuple #[v, .int .i64 ((encL zs ys ys.length : Nat) : Int), .int .i64 0]) ∧ w'.ownsRow w.heap.size 5 1 v (packN (encN zs ys ys.length) (encL zs ys ys.length)).length ((packN (encN zs ys ys.length) (encL zs ys ys.length)).map (Value.int .u8))
    else e = .returned (.tuple #[.slice none 0 0, .int .i64 0, .int .i64 53])) ∧ Below w.heap.size w w'

theorem own_low {w : World} {B B' e n : Nat} {v : Value} {xs : List Value} (h : w.ownsRow B e 1 v n xs) (hB : B' ≤ B) : w.ownsRow B' e 1 v n xs := by
  refine ⟨h.1, ?_⟩
  rcases h.2 with h | ⟨g, cp, cur, h1, h2, h3⟩
  · exact Or.inl h
  · exact Or.inr ⟨g, cp, cur, h1, Nat.le_trans hB h2, h3⟩

set_option maxHeartbeats 3200000 in
set_option maxRecDepth 100000 in
theorem encode_word (a : Option Addr) (cap : Nat) (zs : List Int) (b : Option Addr) (cap2 : Nat) (ys : List Int) (w : World) (hr : Ri w .i64 a cap zs) (hr2 : Ri w .i64 b cap2 ys) (hc : checkB zs = true) (hy : ys.length ≤ 120) :
    Calls Try.prog 21 #[.slice a zs.length cap, .slice b ys.length cap2] w (EncPost zs ys w) := by
  have HC := hid (codes_word a cap zs w hr hc)
  have HCK := hid hc
  have hlen := (len_rng hc).1
  have HZ := hid (len_rng hc).2
  have HR := hid hr
  have HR2 := hid hr2
  obtain ⟨len, hl⟩ : ∃ n, n = zs.length := ⟨_, rfl⟩
  have HL := hid hl
  obtain ⟨len2, hl2⟩ : ∃ n, n = ys.length := ⟨_, rfl⟩
  have HL2 := hid hl2
  rw [← hl] at hlen HC ⊢
  rw [← hl2] at hy ⊢
  clear hr hr2 hc hl hl2
  go_enter Try.func21, Try.ntmps21
  go_wp2_with fail
  refine HC.out.mono ?_
  rintro _ w1 ⟨vc, rfl, hown, hb1⟩
  obtain ⟨ac, cc, rfl, hrc⟩ := Ri.own hown (fun j => wf_mk_u16 (codesL_rng zs j).1 (codesL_rng zs j).2)
  have HRC := hid hrc
  have HCL := hid (codesL_length zs)
  rw [HCL.out, ← HL.out]
  have hbA := bel_alloc w1 (.cells #[.slice none 0 0, .int .u32 0, .int .i64 0] 65)
  have eA := heap_new w1 (.cells #[.slice none 0 0, .int .u32 0, .int .i64 0] 65)
  have HB1 := hid (Bn hb1 hbA)
  have HBA := hid hbA
  have hg1 := hb1.size
  have HW0 : Hid (Wr (w1.alloc (.cells #[.slice none 0 0, .int .u32 0, .int .i64 0] 65)) w1.heap.size (fullB 0 0) (0 % 4294967296) 0 (.slice none 0 0)) := ⟨eA, World.ownsRow_nil _ _ _ _⟩
  clear hown hrc hb1 hbA eA HC
  go_wp2_with fail
  generalize (w1.alloc (.cells #[.slice none 0 0, .int .u32 0, .int .i64 0] 65)) = wA at *
  obtain ⟨g, hG⟩ : ∃ g, w1.heap.size = g := ⟨_, rfl⟩
  have HGG := hid hG
  rw [hG] at HBA HW0 hg1
  rw [hG]
  clear hG
  go_loopw [24] (fun i wr => ∃ k : Nat, k ≤ len2 ∧ i = .int .i64 k ∧ (∃ v, Wr wr g (fullB (encN zs ys k) (encL zs ys k)) (encN zs ys k % 4294967296) (encL zs ys k) v) ∧ Below g wA wr ∧ Hid (∀ j, j < k → has zs (ys.getD j 0) = true)) (fun i _ => len2 - (intOf i).toNat)
  case atStart => exact ⟨0, by omega, rfl, ⟨_, HW0.out⟩, Below.refl _ _, fun j hj => absurd hj (by omega)⟩
  case round =>
    clear HW0
    obtain ⟨k, hk, rfl, ⟨v, hW⟩, hbel, HH⟩ := hrel
    by_cases hlt : k < len2
    · have hkl : (k : Int) < (len2 : Int) := by omega
      have K2 : Hid (k < ys.length) := by show _ < _; rw [← HL2.out]; exact hlt
      have hbw : Below w.heap.size w wr := HB1.out.trans (hbel.mono hg1)
      obtain ⟨b2, o2, rfl, hb2, hc2⟩ := (HR2.out).cells (by rw [← HL2.out]; omega)
      have ck : wr.cell? ⟨b2, o2 + k, none⟩ = some (.int .i64 (ys.getD k 0)) := (hbw.cell (p := ⟨b2, o2 + k, none⟩) hb2).trans (hc2 k K2.out)
      clear hc2
      have HN := hid (has_not (zs := zs) k K2.out)
      cases hh : has zs (ys.getD k 0) with
      | false =>
        have E := hid (HN.out hh)
        unfold has at hh
        have HBW := hid hbw
        rw [← HL.out] at hh
        clear HN K2 hW hbel
        generalize hy : ys.getD k 0 = y at *
        have HX : Hid (EncPost zs ys w (.returned (.tuple #[.slice none 0 0, .int .i64 0, .int .i64 53])) wr) := by
          show EncPost _ _ _ _ _
          unfold EncPost; rw [E.out]; exact ⟨rfl, HBW.out⟩
        have HHH := hid hh
        clear hh
        by_cases h1 : y < 0
        · clear hbw
          go_wp2
          go_ret3
          exact HX.out
        · by_cases h2 : (len : Int) ≤ y
          · clear hbw
            go_wp2
            go_ret3
            exact HX.out
          · obtain ⟨s, hs⟩ : ∃ s : Nat, y = (s : Int) := ⟨y.toNat, by omega⟩
            have hz0 : zs.getD s 0 = 0 := by
              have h := HHH.out
              rw [hs, decide_eq_true (by omega), decide_eq_true (by omega), Int.toNat_natCast] at h
              simpa using h
            have hsl : s < len := by omega
            have HSL : Hid (s < zs.length) := by show _ < _; rw [← HL.out]; exact hsl
            obtain ⟨b1, o1, rfl, hb1, hc1⟩ := (HR.out).cells (by have := HSL.out; omega)
            have c1 : wr.cell? ⟨b1, o1 + s, none⟩ = some (.int .i64 0) := by
              rw [(hbw.cell (p := ⟨b1, o1 + s, none⟩) hb1).trans (hc1 s HSL.out), hz0]
            clear hc1 hz0 hbw HHH
            rw [hs] at ck h1 h2
            clear hs hy
            go_wp2
            go_ret3
            exact HX.out
      | true =>
        unfold has at hh
        rw [← HL.out, Bool.and_eq_true, Bool.and_eq_true, decide_eq_true_eq, decide_eq_true_eq, bne_iff_ne] at hh
        have HH2 : Hid (∀ j, j < k + 1 → has zs (ys.getD j 0) = true) := fun j hj => by
          by_cases e : j = k
          · subst e
            unfold has
            rw [← HL.out, Bool.and_eq_true, Bool.and_eq_true, decide_eq_true_eq, decide_eq_true_eq, bne_iff_ne]
            exact hh
          · exact HH.out j (by omega)
        obtain ⟨s, hs⟩ : ∃ s : Nat, ys.getD k 0 = (s : Int) := ⟨(ys.getD k 0).toNat, by omega⟩
        rw [hs, Int.toNat_natCast] at hh
        have hsl : s < len := by omega
        have HSL : Hid (s < zs.length) := by show _ < _; rw [← HL.out]; exact hsl
        have hz := HZ.out s
        obtain ⟨l, hlz⟩ : ∃ l : Nat, zs.getD s 0 = (l : Int) := ⟨(zs.getD s 0).toNat, by omega⟩
        have hl0 : 0 < l := by have := hh.2; omega
        have hl15 : l ≤ 15 := by omega
        obtain ⟨c, hcv⟩ : ∃ c, c = codeN zs s := ⟨_, rfl⟩
        have hcl : c < 2 ^ l := by rw [hcv]; exact codeN_lt HCK.out s l HSL.out hlz hl0 hl15
        have hcf : (codesL zs).getD s 0 = (c : Int) := by rw [codesL_getD zs s HSL.out, codeF_lt HCK.out s l HSL.out hlz hl0 hl15, hcv]
        obtain ⟨b1, o1, rfl, hb1, hc1⟩ := (HR.out).cells (by have := HSL.out; omega)
        have c1 : wr.cell? ⟨b1, o1 + s, none⟩ = some (.int .i64 (l : Int)) := by
          rw [(hbw.cell (p := ⟨b1, o1 + s, none⟩) hb1).trans (hc1 s HSL.out), hlz]
        obtain ⟨b3, o3, rfl, hb3, hc3⟩ := (HRC.out).cells (by rw [HCL.out]; have := HSL.out; omega)
        have hb3g : b3 < g := by rw [← HGG.out]; exact hb3
        have hwA3 : wA.cell? ⟨b3, o3 + s, none⟩ = some (.int .u16 (c : Int)) := by
          rw [(HBA.out.cell (p := ⟨b3, o3 + s, none⟩) hb3g).trans (hc3 s (by rw [HCL.out]; exact HSL.out)), hcf]
        have c3 : wr.cell? ⟨b3, o3 + s, none⟩ = some (.int .u16 (c : Int)) := (hbel.cell (p := ⟨b3, o3 + s, none⟩) hb3g).trans hwA3
        have hb1g : b1 < g := by omega
        have HEL := hid (encL_le zs ys (fun j => (HZ.out j).2) k)
        have HP : Hid (∀ W, Below g wr W → (∃ v, Wr W g (fullB (encN zs ys k) (encL zs ys k)) (encN zs ys k % 4294967296) (encL zs ys k) v) → Calls Try.prog 36 #[.pointer (some ⟨g, 0, none⟩), .int .u16 (c : Int), .int .i64 (l : Int)] W fun e w' => e = .returned (.tuple #[]) ∧ (∃ v', Wr w' g (fullB (encN zs ys (k + 1)) (encL zs ys (k + 1))) (encN zs ys (k + 1) % 4294967296) (encL zs ys (k + 1)) v') ∧ Below g wr w') := by
          rintro W hbW ⟨v, hWW⟩
          have hE1 : encN zs ys (k + 1) = encN zs ys k * 2 ^ l + c := by
            rw [encN, symL, symC, hs, Int.toNat_natCast, hlz, Int.toNat_natCast, hcv]
          have hE2 : encL zs ys (k + 1) = encL zs ys k + l := by
            rw [encL, symL, hs, Int.toNat_natCast, hlz, Int.toNat_natCast]
          rw [hE1, hE2]
          refine (put_word g _ _ c l v W hWW hl15 hcl (by have := HEL.out; omega)).mono ?_
          rintro e w' ⟨he, hW', hb'⟩
          exact ⟨he, hW', hbW.trans hb'⟩
        have HW := hid hW
        have HBE := hid hbel
        rw [hs] at ck
        have hs0 : ¬ (s : Int) < 0 := by omega
        have hs1 : ¬ (len : Int) ≤ (s : Int) := by omega
        have hnz : ((l : Int) == 0) = false := by simp; omega
        clear hW hbel hbw hc1 hc3 hwA3 hcf hcv hlz hh hs hz HN K2
        go_wp2_with fail
        refine wp_region_held_drew (S := fun W => W.cell? ⟨b3, o3 + s, none⟩ = some (.int .u16 (c : Int)) ∧ W.cell? ⟨b1, o1 + s, none⟩ = some (.int .i64 (l : Int))) (by kernel_rfl) ⟨c3, c1⟩ (fun hS2 => ?_)
        have HWd : Hid (∃ v, Wr wr.drew g (fullB (encN zs ys k) (encL zs ys k)) (encN zs ys k % 4294967296) (encL zs ys k) v) := ⟨v, HW.out.blk, HW.out.row⟩
        have hbD : Below g wr wr.drew := (Below.refl g wr).drew
        have HBD := hid hbD
        clear hbD
        generalize wr.drew = wD at *
        refine Ord.take (i := 0) (d := 43) (v := ?v0) rfl rfl (by as_aux_lemma => kernel_rfl) (by as_aux_lemma => kernel_rfl) (by as_aux_lemma => kernel_rfl) (fun _ _ _ h => h) (by rfl) ?h0 (by assumption) ?_
        case h0 => intro w hSw; go_simp; try with_reducible rfl
        simp only [List.setIfInBounds_toArray, List.set_cons_zero, List.set_cons_succ]
        refine Ord.take (i := 1) (d := 44) (v := ?v1) rfl rfl (by as_aux_lemma => kernel_rfl) (by as_aux_lemma => kernel_rfl) (by as_aux_lemma => kernel_rfl) (fun _ _ _ h => h) (by rfl) ?h1 (by assumption) ?_
        case h1 => intro w hSw; go_simp; try with_reducible rfl
        simp only [List.setIfInBounds_toArray, List.set_cons_zero, List.set_cons_succ]
        refine Ord.take (i := 2) (d := 45) (v := ?v2) rfl rfl (by as_aux_lemma => kernel_rfl) (by as_aux_lemma => kernel_rfl) (by as_aux_lemma => kernel_rfl) (fun _ _ _ h => h) (by rfl) ?h2 (by assumption) ?_
        case h2 => intro w hSw; go_simp; try with_reducible rfl
        simp only [List.setIfInBounds_toArray, List.set_cons_zero, List.set_cons_succ]
        refine Ord.take (i := 3) (d := 46) (v := .int .u16 (c : Int)) rfl rfl (by as_aux_lemma => kernel_rfl) (by as_aux_lemma => kernel_rfl) (by as_aux_lemma => kernel_rfl) (fun _ _ _ h => h) (by rfl) ?h3 (by assumption) ?_
        case h3 => intro w hSw; have e := hSw.1; go_simp; try with_reducible rfl
        simp only [List.setIfInBounds_toArray, List.set_cons_zero, List.set_cons_succ]
        refine Ord.take (i := 4) (d := 47) (v := ?v4) rfl rfl (by as_aux_lemma => kernel_rfl) (by as_aux_lemma => kernel_rfl) (by as_aux_lemma => kernel_rfl) (fun _ _ _ h => h) (by rfl) ?h4 (by assumption) ?_
        case h4 => intro w hSw; go_simp; try with_reducible rfl
        simp only [List.setIfInBounds_toArray, List.set_cons_zero, List.set_cons_succ]
        refine Ord.take (i := 5) (d := 48) (v := ?v5) rfl rfl (by as_aux_lemma => kernel_rfl) (by as_aux_lemma => kernel_rfl) (by as_aux_lemma => kernel_rfl) (fun _ _ _ h => h) (by rfl) ?h5 (by assumption) ?_
        case h5 => intro w hSw; go_simp; try with_reducible rfl
        simp only [List.setIfInBounds_toArray, List.set_cons_zero, List.set_cons_succ]
        refine Ord.take (i := 6) (d := 49) (v := ?v6) rfl rfl (by as_aux_lemma => kernel_rfl) (by as_aux_lemma => kernel_rfl) (by as_aux_lemma => kernel_rfl) (fun _ _ _ h => h) (by rfl) ?h6 (by assumption) ?_
        case h6 => intro w hSw; go_simp; try with_reducible rfl
        simp only [List.setIfInBounds_toArray, List.set_cons_zero, List.set_cons_succ]
        refine Ord.take (i := 7) (d := 50) (v := .int .i64 (l : Int)) rfl rfl (by as_aux_lemma => kernel_rfl) (by as_aux_lemma => kernel_rfl) (by as_aux_lemma => kernel_rfl) (fun _ _ _ h => h) (by rfl) ?h7 (by assumption) ?_
        case h7 => intro w hSw; have e := hSw.2; go_simp; try with_reducible rfl
        simp only [List.setIfInBounds_toArray, List.set_cons_zero, List.set_cons_succ]
        refine wpAnyH_ready (rs := [8]) (by as_aux_lemma => kernel_rfl) (by simp) (AllReadyH.cons rfl (fun K hK => ?_) AllReadyH.nil)
        go_simp
        refine (HP.out wD HBD.out HWd.out).mono ?_
        rintro _ w3 ⟨rfl, hW3, hb3'⟩
        refine hK.out _ _ ⟨(hb3'.cell (p := ⟨b3, o3 + s, none⟩) hb3g).trans c3, (hb3'.cell (p := ⟨b1, o1 + s, none⟩) hb1g).trans c1⟩ (fun _ => ?_)
        clear hK K
        refine wpAnyH_done (by as_aux_lemma => kernel_rfl) ?_ _
        have HW3 := hid hW3
        have HB3 := hid (HBE.out.trans hb3')
        clear hW3 hb3' c1 c3 ck
        go_wp2
        go_roundw
        case rel => exact ⟨k + 1, by omega, by go_num, HW3.out, HB3.out, HH2⟩
        case measure => simp [intOf]; omega
    · obtain rfl : k = len2 := by omega
      have hbw : Below w.heap.size w wr := HB1.out.trans (hbel.mono hg1)
      have HEL := hid (encL_le zs ys (fun j => (HZ.out j).2) k)
      have HE := hid (end_word g _ _ v wr hW (by have := HEL.out; omega))
      have HA := hid (has_all (zs := zs) (ys := ys) (fun j hj => HH.out j (by rw [HL2.out]; exact hj)))
      have HBW := hid hbw
      rw [HL2.out] at HE
      clear hW hbel hbw
      go_wp2_with fail
      refine HE.out.mono ?_
      rintro _ w3 ⟨v3, rfl, hown3, hb3⟩
      have HX : Hid (EncPost zs ys w (.returned (.tuple #[v3, .int .i64 ((encL zs ys ys.length : Nat) : Int), .int .i64 0])) w3) := by
        show EncPost _ _ _ _ _
        unfold EncPost
        rw [if_pos HA.out]
        exact ⟨⟨v3, rfl, own_low hown3 (by omega)⟩, HBW.out.trans (hb3.mono (by omega))⟩
      clear hown3 hb3
      go_wp2
      go_ret3
      exact HX.out
end Go.Proofs.Ytgecoiakhmnilaa
