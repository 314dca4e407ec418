/-
  The contracts of the writer's end and of huff.Encode.
-/
import Derived.Test.YtgecoiakhmnilabPart05
import Derived.Test.YtgecoiakhmnilabPart06
import Derived.Test.YtgecoiakhmnilabPart02
import Derived.Test.YtgecoiakhmnilabPart12
namespace Go.Proofs.Ytgecoiakhmnilab
open Go.RowKit Hf

theorem put_zero (g N n len : Nat) (z : Int) (v : Value) (w : World) (hW : Wr w g (fullB N n) (N % 4294967296) n v) (hlen : len ≤ 15) (hn : n ≤ 100000) (hz : z = (len : Int)) :
    Calls Try.prog 28 #[.pointer (some ⟨g, 0, none⟩), .int .u16 0, .int .i64 z] w fun e w' => e = .returned (.tuple #[]) ∧ (∃ v', Wr w' g (fullB (N * 2 ^ len) (n + len)) ((N * 2 ^ len) % 4294967296) (n + len) v') ∧ Below g w w' := by
  subst hz
  exact put_word g N n 0 len v w hW hlen (Nat.two_pow_pos _) hn

theorem Wr.slice {w : World} {g : Nat} {l : List Int} {o n : Nat} {v : Value} (h : Wr w g l o n v) : ∃ a m cap, v = .slice a m cap := own_slice h.row

theorem end_word (g N n : Nat) (v : Value) (w : World) (hW : Wr w g (fullB N n) (N % 4294967296) n v) (hn : n ≤ 100000) :
    Calls Try.prog 29 #[.pointer (some ⟨g, 0, none⟩)] w fun e w' => ∃ v', e = .returned (.tuple #[v', .int .i64 (n : Int)]) ∧ w'.ownsRow (g + 1) 5 1 v' (packN N n).length ((packN N n).map (Value.int .u8)) ∧ Below g w w' := by
  have c2 := Joins.cell_of_block hW.blk 2
  simp at c2
  by_cases h : n % 8 = 0
  · have e : packN N n = fullB N n := by unfold packN padN; rw [if_pos h]; simp
    rw [e]
    obtain ⟨a, m, cp, rfl⟩ := hW.slice
    have c0 := Joins.cell_of_block hW.blk 0
    simp at c0
    have HR := hid hW.row
    have h0 : (n : Int) % 8 = 0 := by omega
    clear hW e
    go_enter Try.func29, Try.ntmps29
    go_wp2
    go_ret2
    exact ⟨_, rfl, HR.out, Below.refl _ _⟩
  · have e : packN N n = fullB (N * 2 ^ (8 - n % 8)) (n + (8 - n % 8)) := by unfold packN padN; rw [if_neg h]
    rw [e]
    have HP := hid (put_zero g N n (8 - n % 8) (8 - (n : Int) % 8) v w hW (by omega) hn (by omega))
    clear hW e
    have h0 : (0 : Int) < (n : Int) % 8 := by omega
    go_enter Try.func29, Try.ntmps29
    go_wp2_with fail
    refine HP.out.mono ?_
    rintro _ w1 ⟨rfl, ⟨v1, hW1⟩, hb1⟩
    obtain ⟨a, m, cp, rfl⟩ := hW1.slice
    have c0 := Joins.cell_of_block hW1.blk 0
    simp at c0
    have HR := hid hW1.row
    clear hW1
    go_wp2
    go_ret2
    exact ⟨_, rfl, HR.out, hb1⟩

theorem encode_no (a : Option Addr) (cap : Nat) (zs : List Int) (b : Option Addr) (cap2 : Nat) (ys : List Int) (w : World) (hr : Ri w .i64 a cap zs) (hc : checkB zs = false) :
    Calls Try.prog 16 #[.slice a zs.length cap, .slice b ys.length cap2] w fun e w' => e = .returned (.tuple #[.slice none 0 0, .int .i64 0, .int .i64 51]) ∧ Below w.heap.size w w' := by
  have HC := hid (codes_no a cap zs w hr hc)
  clear hr hc
  generalize zs.length = len at *
  generalize ys.length = len2 at *
  go_enter Try.func16, Try.ntmps16
  go_wp2_with fail
  refine HC.out.mono ?_
  rintro _ w1 ⟨rfl, hb1⟩
  go_wp2
  go_ret3
  exact ⟨rfl, hb1⟩

/-- Where symbols have no code: the first one. -/
def allHas (zs ys : List Int) : Bool := ys.all (has zs)
theorem has_not {zs ys : List Int} (k : Nat) (hk : k < ys.length) (h : has zs (ys.getD k 0) = false) : allHas zs ys = false := by
  unfold allHas
  rw [List.all_eq_false]
  exact ⟨_, getD_mem ys k hk, by rw [h]; simp⟩
theorem has_all {zs ys : List Int} (h : ∀ k, k < ys.length → has zs (ys.getD k 0) = true) : allHas zs ys = true := by
  unfold allHas
  rw [List.all_eq_true]
  intro x hx
  obtain ⟨i, hi, rfl⟩ := List.getElem_of_mem hx
  have := h i hi
  simpa [List.getD, List.getElem?_eq_getElem hi] using this

/-- What Encode answers. -/
def EncPost (zs ys : List Int) (w : World) (e : Ending) (w' : World) : Prop :=
  (if allHas zs ys then ∃ v, e = .returned (.tuple #[v, .int .i64 ((encL zs ys ys.length : Nat) : Int), .int .i64 0]) ∧ w'.ownsRow w.heap.size 5 1 v (packN (encN zs ys ys.length) (encL zs ys ys.length)).length ((packN (encN zs ys ys.length) (encL zs ys ys.length)).map (Value.int .u8))
    else e = .returned (.tuple #[.slice none 0 0, .int .i64 0, .int .i64 53])) ∧ Below w.heap.size w w'

theorem own_low {w : World} {B B' e n : Nat} {v : Value} {xs : List Value} (h : w.ownsRow B e 1 v n xs) (hB : B' ≤ B) : w.ownsRow B' e 1 v n xs := by
  refine ⟨h.1, ?_⟩
  rcases h.2 with h | ⟨g, cp, cur, h1, h2, h3⟩
  · exact Or.inl h
  · exact Or.inr ⟨g, cp, cur, h1, Nat.le_trans hB h2, h3⟩

set_option maxHeartbeats 3200000 in
set_option maxRecDepth 100000 in
theorem encode_word (a : Option Addr) (cap : Nat) (zs : List Int) (b : Option Addr) (cap2 : Nat) (ys : List Int) (w : World) (hr : Ri w .i64 a cap zs) (hr2 : Ri w .i64 b cap2 ys) (hc : checkB zs = true) (hy : ys.length ≤ 120) :
    Calls Try.prog 16 #[.slice a zs.length cap, .slice b ys.length cap2] w (EncPost zs ys w) := by
  have HC := hid (codes_word a cap zs w hr hc)
  have HCK := hid hc
  have hlen := (len_rng hc).1
  have HZ := hid (len_rng hc).2
  have HR := hid hr
  have HR2 := hid hr2
  obtain ⟨len, hl⟩ : ∃ n, n = zs.length := ⟨_, rfl⟩
  have HL := hid hl
  obtain ⟨len2, hl2⟩ : ∃ n, n = ys.length := ⟨_, rfl⟩
  have HL2 := hid hl2
  rw [← hl] at hlen HC ⊢
  rw [← hl2] at hy ⊢
  clear hr hr2 hc hl hl2
  go_enter Try.func16, Try.ntmps16
  go_wp2_with fail
  refine HC.out.mono ?_
  rintro _ w1 ⟨vc, rfl, hown, hb1⟩
  obtain ⟨ac, cc, rfl, hrc⟩ := Ri.own hown (fun j => wf_mk_u16 (codesL_rng zs j).1 (codesL_rng zs j).2)
  have HRC := hid hrc
  have HCL := hid (codesL_length zs)
  rw [HCL.out, ← HL.out]
  have hbA := bel_alloc w1 (.cells #[.slice none 0 0, .int .u32 0, .int .i64 0] 60)
  have eA := heap_new w1 (.cells #[.slice none 0 0, .int .u32 0, .int .i64 0] 60)
  have HB1 := hid (Bn hb1 hbA)
  have HBA := hid hbA
  have hg1 := hb1.size
  have HW0 : Hid (Wr (w1.alloc (.cells #[.slice none 0 0, .int .u32 0, .int .i64 0] 60)) w1.heap.size (fullB 0 0) (0 % 4294967296) 0 (.slice none 0 0)) := ⟨eA, World.ownsRow_nil _ _ _ _⟩
  clear hown hrc hb1 hbA eA HC
  go_wp2_with fail
  generalize (w1.alloc (.cells #[.slice none 0 0, .int .u32 0, .int .i64 0] 60)) = wA at *
  obtain ⟨g, hG⟩ : ∃ g, w1.heap.size = g := ⟨_, rfl⟩
  have HGG := hid hG
  rw [hG] at HBA HW0 hg1
  rw [hG]
  clear hG
  go_loopw [24] (fun i wr => ∃ k : Nat, k ≤ len2 ∧ i = .int .i64 k ∧ (∃ v, Wr wr g (fullB (encN zs ys k) (encL zs ys k)) (encN zs ys k % 4294967296) (encL zs ys k) v) ∧ Below g wA wr ∧ Hid (∀ j, j < k → has zs (ys.getD j 0) = true)) (fun i _ => len2 - (intOf i).toNat)
  case atStart => exact ⟨0, by omega, rfl, ⟨_, HW0.out⟩, Below.refl _ _, fun j hj => absurd hj (by omega)⟩
  case round =>
    clear HW0
    obtain ⟨k, hk, rfl, ⟨v, hW⟩, hbel, HH⟩ := hrel
    by_cases hlt : k < len2
    · have hkl : (k : Int) < (len2 : Int) := by omega
      have K2 : Hid (k < ys.length) := by show _ < _; rw [← HL2.out]; exact hlt
      have hbw : Below w.heap.size w wr := HB1.out.trans (hbel.mono hg1)
      obtain ⟨b2, o2, rfl, hb2, hc2⟩ := (HR2.out).cells (by rw [← HL2.out]; omega)
      have ck : wr.cell? ⟨b2, o2 + k, none⟩ = some (.int .i64 (ys.getD k 0)) := (hbw.cell (p := ⟨b2, o2 + k, none⟩) hb2).trans (hc2 k K2.out)
      clear hc2
      have HN := hid (has_not (zs := zs) k K2.out)
      cases hh : has zs (ys.getD k 0) with
      | false =>
        have E := hid (HN.out hh)
        unfold has at hh
        have HBW := hid hbw
        rw [← HL.out] at hh
        clear HN K2 hW hbel
        generalize hy : ys.getD k 0 = y at *
        have HX : Hid (EncPost zs ys w (.returned (.tuple #[.slice none 0 0, .int .i64 0, .int .i64 53])) wr) := by
          show EncPost _ _ _ _ _
          unfold EncPost; rw [E.out]; exact ⟨rfl, HBW.out⟩
        have HHH := hid hh
        clear hh
        by_cases h1 : y < 0
        · clear hbw
          go_wp2
          go_ret3
          exact HX.out
        · by_cases h2 : (len : Int) ≤ y
          · clear hbw
            go_wp2
            go_ret3
            exact HX.out
          · obtain ⟨s, hs⟩ : ∃ s : Nat, y = (s : Int) := ⟨y.toNat, by omega⟩
            have hz0 : zs.getD s 0 = 0 := by
              have h := HHH.out
              rw [hs, decide_eq_true (by omega), decide_eq_true (by omega), Int.toNat_natCast] at h
              simpa using h
            have hsl : s < len := by omega
            have HSL : Hid (s < zs.length) := by show _ < _; rw [← HL.out]; exact hsl
            obtain ⟨b1, o1, rfl, hb1, hc1⟩ := (HR.out).cells (by have := HSL.out; omega)
            have c1 : wr.cell? ⟨b1, o1 + s, none⟩ = some (.int .i64 0) := by
              rw [(hbw.cell (p := ⟨b1, o1 + s, none⟩) hb1).trans (hc1 s HSL.out), hz0]
            clear hc1 hz0 hbw HHH
            rw [hs] at ck h1 h2
            clear hs hy
            go_wp2
            go_ret3
            exact HX.out
      | true =>
        unfold has at hh
        rw [← HL.out, Bool.and_eq_true, Bool.and_eq_true, decide_eq_true_eq, decide_eq_true_eq, bne_iff_ne] at hh
        have HH2 : Hid (∀ j, j < k + 1 → has zs (ys.getD j 0) = true) := fun j hj => by
          by_cases e : j = k
          · subst e
            unfold has
            rw [← HL.out, Bool.and_eq_true, Bool.and_eq_true, decide_eq_true_eq, decide_eq_true_eq, bne_iff_ne]
            exact hh
          · exact HH.out j (by omega)
        obtain ⟨s, hs⟩ : ∃ s : Nat, ys.getD k 0 = (s : Int) := ⟨(ys.getD k 0).toNat, by omega⟩
        rw [hs, Int.toNat_natCast] at hh
        have hsl : s < len := by omega
        have HSL : Hid (s < zs.length) := by show _ < _; rw [← HL.out]; exact hsl
        have hz := HZ.out s
        obtain ⟨l, hlz⟩ : ∃ l : Nat, zs.getD s 0 = (l : Int) := ⟨(zs.getD s 0).toNat, by omega⟩
        have hl0 : 0 < l := by have := hh.2; omega
        have hl15 : l ≤ 15 := by omega
        obtain ⟨c, hcv⟩ : ∃ c, c = codeN zs s := ⟨_, rfl⟩
        have hcl : c < 2 ^ l := by rw [hcv]; exact codeN_lt HCK.out s l HSL.out hlz hl0 hl15
        have hcf : (codesL zs).getD s 0 = (c : Int) := by rw [codesL_getD zs s HSL.out, codeF_lt HCK.out s l HSL.out hlz hl0 hl15, hcv]
        obtain ⟨b1, o1, rfl, hb1, hc1⟩ := (HR.out).cells (by have := HSL.out; omega)
        have c1 : wr.cell? ⟨b1, o1 + s, none⟩ = some (.int .i64 (l : Int)) := by
          rw [(hbw.cell (p := ⟨b1, o1 + s, none⟩) hb1).trans (hc1 s HSL.out), hlz]
        obtain ⟨b3, o3, rfl, hb3, hc3⟩ := (HRC.out).cells (by rw [HCL.out]; have := HSL.out; omega)
        have hb3g : b3 < g := by rw [← HGG.out]; exact hb3
        have hwA3 : wA.cell? ⟨b3, o3 + s, none⟩ = some (.int .u16 (c : Int)) := by
          rw [(HBA.out.cell (p := ⟨b3, o3 + s, none⟩) hb3g).trans (hc3 s (by rw [HCL.out]; exact HSL.out)), hcf]
        have c3 : wr.cell? ⟨b3, o3 + s, none⟩ = some (.int .u16 (c : Int)) := (hbel.cell (p := ⟨b3, o3 + s, none⟩) hb3g).trans hwA3
        have hb1g : b1 < g := by omega
        have HEL := hid (encL_le zs ys (fun j => (HZ.out j).2) k)
        have HP : Hid (∀ W, Below g wr W → (∃ v, Wr W g (fullB (encN zs ys k) (encL zs ys k)) (encN zs ys k % 4294967296) (encL zs ys k) v) → Calls Try.prog 28 #[.pointer (some ⟨g, 0, none⟩), .int .u16 (c : Int), .int .i64 (l : Int)] W fun e w' => e = .returned (.tuple #[]) ∧ (∃ v', Wr w' g (fullB (encN zs ys (k + 1)) (encL zs ys (k + 1))) (encN zs ys (k + 1) % 4294967296) (encL zs ys (k + 1)) v') ∧ Below g wr w') := by
          rintro W hbW ⟨v, hWW⟩
          have hE1 : encN zs ys (k + 1) = encN zs ys k * 2 ^ l + c := by
            rw [encN, symL, symC, hs, Int.toNat_natCast, hlz, Int.toNat_natCast, hcv]
          have hE2 : encL zs ys (k + 1) = encL zs ys k + l := by
            rw [encL, symL, hs, Int.toNat_natCast, hlz, Int.toNat_natCast]
          rw [hE1, hE2]
          refine (put_word g _ _ c l v W hWW hl15 hcl (by have := HEL.out; omega)).mono ?_
          rintro e w' ⟨he, hW', hb'⟩
          exact ⟨he, hW', hbW.trans hb'⟩
        have HW := hid hW
        have HBE := hid hbel
        rw [hs] at ck
        have hs0 : ¬ (s : Int) < 0 := by omega
        have hs1 : ¬ (len : Int) ≤ (s : Int) := by omega
        have hnz : ((l : Int) == 0) = false := by simp; omega
        clear hW hbel hbw hc1 hc3 hwA3 hcf hcv hlz hh hs hz HN K2
        go_wp2_with fail
        refine wp_region_held_drew (S := fun W => W.cell? ⟨b3, o3 + s, none⟩ = some (.int .u16 (c : Int)) ∧ W.cell? ⟨b1, o1 + s, none⟩ = some (.int .i64 (l : Int))) (by kernel_rfl) ⟨c3, c1⟩ (fun hS2 => ?_)
        have HWd : Hid (∃ v, Wr wr.drew g (fullB (encN zs ys k) (encL zs ys k)) (encN zs ys k % 4294967296) (encL zs ys k) v) := ⟨v, HW.out.blk, HW.out.row⟩
        have hbD : Below g wr wr.drew := (Below.refl g wr).drew
        have HBD := hid hbD
        clear hbD
        generalize wr.drew = wD at *
        refine Ord.take (i := 0) (d := 43) (v := ?v0) rfl rfl (by as_aux_lemma => kernel_rfl) (by as_aux_lemma => kernel_rfl) (by as_aux_lemma => kernel_rfl) (fun _ _ _ h => h) (by rfl) ?h0 (by assumption) ?_
        case h0 => intro w hSw; go_simp; try with_reducible rfl
        simp only [List.setIfInBounds_toArray, List.set_cons_zero, List.set_cons_succ]
        refine Ord.take (i := 1) (d := 44) (v := ?v1) rfl rfl (by as_aux_lemma => kernel_rfl) (by as_aux_lemma => kernel_rfl) (by as_aux_lemma => kernel_rfl) (fun _ _ _ h => h) (by rfl) ?h1 (by assumption) ?_
        case h1 => intro w hSw; go_simp; try with_reducible rfl
        simp only [List.setIfInBounds_toArray, List.set_cons_zero, List.set_cons_succ]
        refine Ord.take (i := 2) (d := 45) (v := ?v2) rfl rfl (by as_aux_lemma => kernel_rfl) (by as_aux_lemma => kernel_rfl) (by as_aux_lemma => kernel_rfl) (fun _ _ _ h => h) (by rfl) ?h2 (by assumption) ?_
        case h2 => intro w hSw; go_simp; try with_reducible rfl
        simp only [List.setIfInBounds_toArray, List.set_cons_zero, List.set_cons_succ]
        refine Ord.take (i := 3) (d := 46) (v := .int .u16 (c : Int)) rfl rfl (by as_aux_lemma => kernel_rfl) (by as_aux_lemma => kernel_rfl) (by as_aux_lemma => kernel_rfl) (fun _ _ _ h => h) (by rfl) ?h3 (by assumption) ?_
        case h3 => intro w hSw; have e := hSw.1; go_simp; try with_reducible rfl
        simp only [List.setIfInBounds_toArray, List.set_cons_zero, List.set_cons_succ]
        refine Ord.take (i := 4) (d := 47) (v := ?v4) rfl rfl (by as_aux_lemma => kernel_rfl) (by as_aux_lemma => kernel_rfl) (by as_aux_lemma => kernel_rfl) (fun _ _ _ h => h) (by rfl) ?h4 (by assumption) ?_
        case h4 => intro w hSw; go_simp; try with_reducible rfl
        simp only [List.setIfInBounds_toArray, List.set_cons_zero, List.set_cons_succ]
        refine Ord.take (i := 5) (d := 48) (v := ?v5) rfl rfl (by as_aux_lemma => kernel_rfl) (by as_aux_lemma => kernel_rfl) (by as_aux_lemma => kernel_rfl) (fun _ _ _ h => h) (by rfl) ?h5 (by assumption) ?_
        case h5 => intro w hSw; go_simp; try with_reducible rfl
        simp only [List.setIfInBounds_toArray, List.set_cons_zero, List.set_cons_succ]
        refine Ord.take (i := 6) (d := 49) (v := ?v6) rfl rfl (by as_aux_lemma => kernel_rfl) (by as_aux_lemma => kernel_rfl) (by as_aux_lemma => kernel_rfl) (fun _ _ _ h => h) (by rfl) ?h6 (by assumption) ?_
        case h6 => intro w hSw; go_simp; try with_reducible rfl
        simp only [List.setIfInBounds_toArray, List.set_cons_zero, List.set_cons_succ]
        refine Ord.take (i := 7) (d := 50) (v := .int .i64 (l : Int)) rfl rfl (by as_aux_lemma => kernel_rfl) (by as_aux_lemma => kernel_rfl) (by as_aux_lemma => kernel_rfl) (fun _ _ _ h => h) (by rfl) ?h7 (by assumption) ?_
        case h7 => intro w hSw; have e := hSw.2; go_simp; try with_reducible rfl
        simp only [List.setIfInBounds_toArray, List.set_cons_zero, List.set_cons_succ]
        refine wpAnyH_ready (rs := [8]) (by as_aux_lemma => kernel_rfl) (by simp) (AllReadyH.cons rfl (fun K hK => ?_) AllReadyH.nil)
        go_simp
        refine (HP.out wD HBD.out HWd.out).mono ?_
        rintro _ w3 ⟨rfl, hW3, hb3'⟩
        refine hK.out _ _ ⟨(hb3'.cell (p := ⟨b3, o3 + s, none⟩) hb3g).trans c3, (hb3'.cell (p := ⟨b1, o1 + s, none⟩) hb1g).trans c1⟩ (fun _ => ?_)
        clear hK K
        refine wpAnyH_done (by as_aux_lemma => kernel_rfl) ?_ _
        have HW3 := hid hW3
        have HB3 := hid (HBE.out.trans hb3')
        clear hW3 hb3' c1 c3 ck
        go_wp2
        go_roundw
        case rel => exact ⟨k + 1, by omega, by go_num, HW3.out, HB3.out, HH2⟩
        case measure => simp [intOf]; omega
    · obtain rfl : k = len2 := by omega
      have hbw : Below w.heap.size w wr := HB1.out.trans (hbel.mono hg1)
      have HEL := hid (encL_le zs ys (fun j => (HZ.out j).2) k)
      have HE := hid (end_word g _ _ v wr hW (by have := HEL.out; omega))
      have HA := hid (has_all (zs := zs) (ys := ys) (fun j hj => HH.out j (by rw [HL2.out]; exact hj)))
      have HBW := hid hbw
      rw [HL2.out] at HE
      clear hW hbel hbw
      go_wp2_with fail
      refine HE.out.mono ?_
      rintro _ w3 ⟨v3, rfl, hown3, hb3⟩
      have HX : Hid (EncPost zs ys w (.returned (.tuple #[v3, .int .i64 ((encL zs ys ys.length : Nat) : Int), .int .i64 0])) w3) := by
        show EncPost _ _ _ _ _
        unfold EncPost
        rw [if_pos HA.out]
        exact ⟨⟨v3, rfl, own_low hown3 (by omega)⟩, HBW.out.trans (hb3.mono (by omega))⟩
      clear hown3 hb3
      go_wp2
      go_ret3
      exact HX.out
end Go.Proofs.Ytgecoiakhmnilab
/-
  The contracts of slices.SortStableFunc at 60 numbers or fewer, and of byCount.
-/
namespace Go.Proofs.Ytgecoiakhmnilab
open Go.RowKit Hf

/-- Of how many numbers the sorting is proved here. -/
def mostS : Nat := 60

theorem sorted_trans {cs : List Int} {n : Nat} {o X Y : List Int} (_hl : o.length = n) (h : Sorted cs 0 n o X) (h2 : Sorted cs n n X Y) : Sorted cs 0 n o Y := by
  have hXY : Y = X := by
    have hly : Y.length = X.length := h2.perm.length_eq
    refine List.ext_getElem hly (fun i h1 h3 => ?_)
    have := h2.out i (by omega)
    simpa [List.getD, List.getElem?_eq_getElem h1, List.getElem?_eq_getElem h3] using this
  rw [hXY]; exact h

set_option maxHeartbeats 1600000 in
set_option maxRecDepth 100000 in
theorem stable_word (n cap B gb gs gc oc capc : Nat) (cs o : List Int) (w : World) (hcts : Cts w gb gs gc oc capc cs) (hn : n ≤ mostS) (hl : o.length = n)
    (hown : w.ownsRow B 3 1 (.slice (some ⟨gs, 0, none⟩) n cap) n (o.map (Value.int .i64))) (hcap : n ≤ cap) (ho : ∀ u ∈ o, 0 ≤ u ∧ u < (cs.length : Int)) (hinc : ∀ p q, p < q → q < n → o.getD p 0 < o.getD q 0) :
    Calls Try.prog 39 #[.slice (some ⟨gs, 0, none⟩) n cap, .int .i64 (n : Int), .func (.func 36) #[] #[.pointer (some ⟨gb, 0, none⟩)]] w fun e w' => e = .returned (.tuple #[]) ∧ (∃ X, Sorted cs 0 n o X ∧ w'.ownsRow B 3 1 (.slice (some ⟨gs, 0, none⟩) n cap) n (X.map (Value.int .i64))) ∧ w.grownBy w' (some gs) := by
  unfold mostS at hn
  by_cases h20 : n < 20
  · have HI := hid (ins_word 0 n n cap B gb gs gc oc capc cs o w hcts (by omega) (Nat.le_refl _) (by omega) hl hown hcap ho (fun p q _ h2 h3 => hinc p q h2 h3))
    clear hown hcts ho hinc hl
    have h1 : ¬ (20 : Int) ≤ (n : Int) := by omega
    have h2 : ¬ (20 : Int) < (n : Int) := by omega
    go_enter Try.func39, Try.ntmps39
    go_wp2
    refine wp_loop_rounds 1 ?_
    rw [rounds_succ]
    go_wp2_with fail
    refine HI.out.mono ?_
    rintro _ w1 ⟨rfl, hX, hg⟩
    have HX := hid hX
    have HG := hid hg
    clear hX hg
    go_wp2
    refine wp_loop_rounds 1 ?_
    rw [rounds_succ]
    go_wp2
    go_end0
    exact ⟨rfl, HX.out, HG.out⟩
  · by_cases c1 : 20 < n
    · by_cases c2 : n < 40
      · exact stab_a n cap B gb gs gc oc capc cs o w hcts hl hown hcap ho hinc c1 c2
      · by_cases c3 : n = 40
        · exact stab_b n cap B gb gs gc oc capc cs o w hcts hl hown hcap ho hinc c3
        · by_cases c4 : n < 60
          · exact stab_c n cap B gb gs gc oc capc cs o w hcts hl hown hcap ho hinc (by omega) c4
          · exact stab_d n cap B gb gs gc oc capc cs o w hcts hl hown hcap ho hinc (by omega)
    obtain rfl : n = 20 := by omega
    have HI := hid (ins_word 0 20 20 cap B gb gs gc oc capc cs o w hcts (by omega) (Nat.le_refl _) (by omega) hl hown hcap ho (fun p q _ h2 h3 => hinc p q h2 h3))
    have HI2 : Hid (∀ (X : List Int) (W : World), Sorted cs 0 20 o X → W.ownsRow B 3 1 (.slice (some ⟨gs, 0, none⟩) 20 cap) 20 (X.map (Value.int .i64)) → w.grownBy W (some gs) → Calls Try.prog 41 #[.slice (some ⟨gs, 0, none⟩) 20 cap, .int .i64 20, .int .i64 20, .func (.func 36) #[] #[.pointer (some ⟨gb, 0, none⟩)]] W fun e w' => e = .returned (.tuple #[]) ∧ (∃ Y, Sorted cs 0 20 o Y ∧ w'.ownsRow B 3 1 (.slice (some ⟨gs, 0, none⟩) 20 cap) 20 (Y.map (Value.int .i64))) ∧ w.grownBy w' (some gs)) := by
      intro X W hX hW hg
      refine (ins_word 20 20 20 cap B gb gs gc oc capc cs X W (hcts.kept hg) (by omega) (Nat.le_refl _) (by omega) (by rw [hX.perm.length_eq, hl]) hW hcap (fun u hu => ho u (hX.perm.subset hu)) (fun p q h1 h2 h3 => by omega)).mono ?_
      rintro e w' ⟨he, ⟨Y, hY, hwY⟩, hg'⟩
      exact ⟨he, ⟨Y, sorted_trans hl hX hY, hwY⟩, grown_trans hg hg'⟩
    clear hown hcts ho hinc hl
    go_enter Try.func39, Try.ntmps39
    go_wp2
    refine wp_loop_rounds 2 ?_
    rw [rounds_succ]
    go_wp2_with fail
    refine HI.out.mono ?_
    rintro _ w1 ⟨rfl, ⟨X, hX, hwX⟩, hg⟩
    have HI3 := hid (HI2.out X w1 hX hwX hg)
    clear hX hwX hg HI HI2
    go_wp2
    rw [rounds_succ]
    go_wp2_with fail
    refine HI3.out.mono ?_
    rintro _ w2 ⟨rfl, hX, hg⟩
    have HX := hid hX
    have HG := hid hg
    clear hX hg
    go_wp2
    refine wp_loop_rounds 1 ?_
    rw [rounds_succ]
    go_wp2
    go_end0
    exact ⟨rfl, HX.out, HG.out⟩

theorem sortf_word (n cap B gb gs gc oc capc : Nat) (cs o : List Int) (w : World) (hcts : Cts w gb gs gc oc capc cs) (hn : n ≤ mostS) (hl : o.length = n)
    (hown : w.ownsRow B 3 1 (.slice (some ⟨gs, 0, none⟩) n cap) n (o.map (Value.int .i64))) (hcap : n ≤ cap) (ho : ∀ u ∈ o, 0 ≤ u ∧ u < (cs.length : Int)) (hinc : ∀ p q, p < q → q < n → o.getD p 0 < o.getD q 0) :
    Calls Try.prog 35 #[.slice (some ⟨gs, 0, none⟩) n cap, .func (.func 36) #[] #[.pointer (some ⟨gb, 0, none⟩)]] w fun e w' => e = .returned (.tuple #[]) ∧ (∃ X, Sorted cs 0 n o X ∧ w'.ownsRow B 3 1 (.slice (some ⟨gs, 0, none⟩) n cap) n (X.map (Value.int .i64))) ∧ w.grownBy w' (some gs) := by
  have HS := hid (stable_word n cap B gb gs gc oc capc cs o w hcts hn hl hown hcap ho hinc)
  clear hown hcts ho hinc hl hn
  go_enter Try.func35, Try.ntmps35
  go_wp2_with fail
  refine HS.out.mono ?_
  rintro _ w1 ⟨rfl, hX, hg⟩
  have HX := hid hX
  have HG := hid hg
  clear hX hg
  go_wp2
  go_end0
  exact ⟨rfl, HX.out, HG.out⟩

/-- slices.SortStableFunc of nothing. -/
theorem ins_nil (a : Option Addr) (cp : Nat) (fv : Value) (w : World) : Calls Try.prog 41 #[.slice a 0 cp, .int .i64 0, .int .i64 0, fv] w fun e w' => e = .returned (.tuple #[]) ∧ w' = w := by
  go_enter Try.func41, Try.ntmps41
  go_wp2
  refine wp_loop_rounds 1 ?_
  rw [rounds_succ]
  go_wp2
  go_end0
  exact ⟨rfl, rfl⟩
theorem stable_nil (a : Option Addr) (cp : Nat) (fv : Value) (w : World) : Calls Try.prog 39 #[.slice a 0 cp, .int .i64 0, fv] w fun e w' => e = .returned (.tuple #[]) ∧ w' = w := by
  have HI := hid (ins_nil a cp fv w)
  go_enter Try.func39, Try.ntmps39
  go_wp2
  refine wp_loop_rounds 1 ?_
  rw [rounds_succ]
  go_wp2_with fail
  refine HI.out.mono ?_
  rintro _ w1 ⟨rfl, hw⟩
  obtain rfl := hw.symm
  clear hw
  go_wp2
  refine wp_loop_rounds 1 ?_
  rw [rounds_succ]
  go_wp2
  go_end0
  exact ⟨rfl, rfl⟩
theorem sortf_nil (a : Option Addr) (cp : Nat) (fv : Value) (w : World) : Calls Try.prog 35 #[.slice a 0 cp, fv] w fun e w' => e = .returned (.tuple #[]) ∧ w' = w := by
  have HI := hid (stable_nil a cp fv w)
  go_enter Try.func35, Try.ntmps35
  go_wp2_with fail
  refine HI.out.mono ?_
  rintro _ w1 ⟨rfl, hw⟩
  obtain rfl := hw.symm
  clear hw
  go_wp2
  go_end0
  exact ⟨rfl, rfl⟩

theorem Try.info3' : (Try.prog.info? 3).map (fun i => (i.zero, i.size, i.bytes)) = some (some (.int .i64 0), 1, 8) := by kernel_rfl

set_option maxHeartbeats 1600000 in
set_option maxRecDepth 100000 in
theorem byCount_word (a : Option Addr) (cap : Nat) (cs : List Int) (w : World) (hr : Ri w .i64 a cap cs) (hn : cs.length ≤ 100000) (hm : (nz cs cs.length).length ≤ mostS) :
    Calls Try.prog 31 #[.slice a cs.length cap] w fun e w' => ∃ v, e = .returned v ∧ w'.ownsRow w.heap.size 3 1 v (srt cs).length ((srt cs).map (Value.int .i64)) ∧ Below w.heap.size w w' := by
  obtain ⟨i0, hi, hz0, hz1, hz2⟩ := info_parts Try.info3'
  have HR := hid hr
  obtain ⟨len, hl⟩ : ∃ n, n = cs.length := ⟨_, rfl⟩
  have HL := hid hl
  rw [← hl] at hn hm ⊢
  have HM := hid hm
  have hbA := bel_alloc w (.cells #[.slice a len cap] 22)
  have eA := World.cell?_alloc_mark w #[.slice a len cap] 22 (0, 0) 0
  have sA : (w.alloc (.cells #[.slice a len cap] 22)).heap.size = w.heap.size + 1 := by simp
  have HBA := hid hbA
  have HSA := hid sA
  have cA : (w.alloc (.cells #[.slice a len cap] 22)).cell? ⟨w.heap.size, 0, none⟩ = some (.slice a len cap) := by simp
  have HCA := hid cA
  clear hr hl hm hbA sA eA cA
  go_enter Try.func31, Try.ntmps31
  go_wp2_with fail
  generalize w.alloc (.cells #[.slice a len cap] 22) = wA at *
  go_loopw [3, 8] (fun v y wr => ∃ k : Nat, k ≤ len ∧ y = .int .i64 k ∧ wr.ownsRow (w.heap.size + 1) 3 1 v (nz cs k).length ((nz cs k).map (Value.int .i64)) ∧ Below (w.heap.size + 1) wA wr) (fun _ y _ => len - (intOf y).toNat)
  case atStart => exact ⟨0, by omega, rfl, World.ownsRow_nil _ _ _ _, Below.refl _ _⟩
  case round =>
    obtain ⟨k, hk, rfl, hown, hbel⟩ := hrel
    have hsz : w.heap.size + 1 ≤ wr.heap.size := by rw [← HSA.out]; exact hbel.size
    by_cases hlt : k < len
    · have hkl : (k : Int) < (len : Int) := by omega
      have K1 : Hid (k < cs.length) := by show _ < _; rw [← HL.out]; exact hlt
      obtain ⟨b, off, rfl, hbw, hc⟩ := (HR.out).cells (by rw [← HL.out]; omega)
      have ck : wr.cell? ⟨b, off + k, none⟩ = some (.int .i64 (cs.getD k 0)) := ((hbel.cell (p := ⟨b, off + k, none⟩) (by show b < _; omega)).trans (HBA.out.cell (p := ⟨b, off + k, none⟩) hbw)).trans (hc k K1.out)
      clear hc
      have HNZ := hid (show nz cs (k + 1) = if 0 < cs.getD k 0 then nz cs k ++ [(k : Int)] else nz cs k from rfl)
      have hnl := nz_len cs k
      generalize cs.getD k 0 = c at *
      by_cases hc0 : 0 < c
      · have HN2 : Hid (nz cs (k + 1) = nz cs k ++ [(k : Int)]) := by show _ = _; rw [HNZ.out, if_pos hc0]
        go_wp2_with (at_builtin; refine wpList_append_own _ rfl _ _ 22 rfl (w.heap.size + 1) 3 i0 (.int .i64 0) 1 8 Try.underlying22 hi hz0 hz1 hz2 rfl (by decide) _ _ _ rfl (hown.alloc _) ⟨wr.heap.size, 0, none⟩ 1 1 [.int .i64 (k : Int)] rfl rfl ?c1 ?c2 ?c3 ?c4 ?c5 ?_)
        case c1 =>
          intro j u hj
          match j, hj with
          | 0, hj => simp at hj; subst hj; simp [Addr.add]
        case c2 => intro u hu; simp at hu; subst hu; rfl
        case c3 => unfold maxLen; omega
        case c4 => omega
        case c5 => simp; omega
        intro v1 w1 hown0 hgrow _
        have HB1 := hid ((hbel.alloc hsz _).grown hgrow (by simp; omega) (fun j hj => (hown.lt j hj).1))
        have HO1 : Hid (w1.ownsRow (w.heap.size + 1) 3 1 v1 (nz cs (k + 1)).length ((nz cs (k + 1)).map (Value.int .i64))) := by
          show World.ownsRow _ _ _ _ _ _ _
          rw [HN2.out]; simpa using hown0
        clear hown hown0 hgrow hbel ck
        go_wp2
        exact ⟨⟨k + 1, by omega, by go_num, HO1.out, HB1.out⟩, by simp [intOf]; omega⟩
      · have HN2 : Hid (nz cs (k + 1) = nz cs k) := by show _ = _; rw [HNZ.out, if_neg hc0]
        go_wp2
        exact ⟨⟨k + 1, by omega, by go_num, by rw [HN2.out]; exact hown, hbel⟩, by simp [intOf]; omega⟩
    · obtain rfl : k = len := by omega
      have hboxr : wr.cell? ⟨w.heap.size, 0, none⟩ = some (.slice a k cap) := (hbel.cell (p := ⟨w.heap.size, 0, none⟩) (by show w.heap.size < _; omega)).trans HCA.out
      have HBW := hid (HBA.out.trans (hbel.mono (by omega)))
      by_cases h0 : 0 < (nz cs k).length
      · obtain ⟨gs, cp, rfl, hgs, hcp⟩ := own_some hown h0
        have hlen0 : 0 < k := by have := nz_len cs k; omega
        obtain ⟨b, off, rfl, hbw, hc⟩ := (HR.out).cells (by rw [← HL.out]; omega)
        have hcts : Cts wr w.heap.size gs b off cap cs := by
          refine ⟨by rw [← HL.out]; exact hboxr, fun j hj => (HBW.out.cell (p := ⟨b, off + j, none⟩) hbw).trans (hc j hj), by rw [← HL.out]; omega, by omega, by omega⟩
        have HS := hid (sortf_word (nz cs k).length cp (w.heap.size + 1) w.heap.size gs b off cap cs (nz cs k) wr hcts HM.out rfl hown hcp (fun u hu => by have := nz_mem cs k u hu; rw [← HL.out]; omega) (getD_inc (nz_inc cs k)))
        have hlt2 := (hown.lt gs rfl).2
        rw [HL.out] at HS
        have HKL := hid HL.out
        clear hown hbel hc hcts
        rw [show nz cs k = nz cs cs.length from by rw [← HL.out]]
        go_wp2_with fail
        refine HS.out.mono ?_
        rintro _ w1 ⟨rfl, ⟨X, hX, hwX⟩, hg⟩
        have hXe := srt_eq hX
        subst hXe
        rw [← srt_len] at hwX
        have HO := hid (own_low hwX (show w.heap.size ≤ w.heap.size + 1 from by omega))
        have HB : Hid (Below w.heap.size w w1) := HBW.out.grown hg HBW.out.size (fun j hj => by injection hj with hj; omega)
        rw [← srt_len]
        clear hX hwX hg
        go_wp2
        go_ret
        exact ⟨_, rfl, HO.out, HB.out⟩
      · have hnil : nz cs k = [] := List.length_eq_zero_iff.1 (by omega)
        obtain ⟨a3, cp3, rfl⟩ : ∃ a3 cp3, u3 = .slice a3 0 cp3 := by
          rcases hown.2 with ⟨h1, _⟩ | ⟨g, cp, _, h1, _⟩
          · exact ⟨none, 0, h1⟩
          · exact ⟨_, cp, by rw [h1, hnil]; rfl⟩
        have hs0 : srt cs = [] := by
          have := srt_len cs
          rw [← HL.out, hnil] at this
          exact List.length_eq_zero_iff.1 this
        rw [hnil] at hown
        have HO := hid (own_low hown (show w.heap.size ≤ w.heap.size + 1 from by omega))
        have HSN := hid (fun W => sortf_nil a3 cp3 (.func (.func 36) #[] #[.pointer (some ⟨w.heap.size, 0, none⟩)]) W)
        have HE := hid hs0
        clear hown hbel hnil hs0 h0
        go_wp2_with fail
        refine (HSN.out _).mono ?_
        rintro _ w1 ⟨rfl, hw⟩
        obtain rfl := hw.symm
        clear hw
        go_wp2
        go_ret
        exact ⟨_, rfl, by rw [HE.out]; exact HO.out, HBW.out⟩
end Go.Proofs.Ytgecoiakhmnilab
