/-
  ShaPieces: bytes that come in pieces have, at each time, the digest of all so far, and a copy goes its own way; where the program's tables are as its text lays them.
-/
import Derived.Test.YtkehhlbbnlnbcaaDoorPiecesW
namespace Go.Proofs.YtkehhlbbnlnbcaaDoor.shaPieces
open Go.ChangeShapes Go.WideShapes Go.ChangeAt Go.RowKit Sha

set_option maxHeartbeats 6400000 in
set_option maxRecDepth 100000 in
theorem walk (a : Option Addr) (cap : Nat) (l : List (List Nat)) (at_ : Int) (b : Option Addr) (capb : Nat) (ys : List Nat) (W : World) (hl : Laid W) (hr : Ps W a cap l) (hrb : Rd W (.slice b ys.length capb) b capb ys) :
    Calls Tryd.prog 6 #[.slice a l.length cap, .int .i64 at_, .slice b ys.length capb] W fun e w' => e = .returned (.bool true) ∧ Below W.heap.size W w' := by
  obtain ⟨i0, hi, hz0, hz1, hz2⟩ := info_parts Tryd.info35
  have HC := hid (cut_any a cap l W hr)
  have hfl := cutL_flat l
  have hml : (cutL l).length ≤ 20 := by rw [cutL_length]; omega
  have HL := hid hl
  have HRB := hid hrb
  have hroom := hrb.room
  have hmost := hrb.most
  unfold maxLen at hmost
  clear hr hl
  generalize l.length = ln at *
  generalize cutL l = m at *
  generalize hmn : m.length = mn at *
  have HMN := hid hmn
  clear hmn
  by_cases h6 : 600 < ys.length
  · have h6' : (600 : Int) < (ys.length : Int) := by omega
    obtain ⟨x, y, rfl, _, _⟩ := hrb.cells (by omega)
    have hz6 : (ys.take 600).length = 600 := by rw [List.length_take]; omega
    have hrz := hrb.take 600
    rw [hz6] at hrz
    have HRZ0 := hid hrz
    have HZN0 := hid hz6
    clear hrb hrz hz6
    generalize ys.take 600 = z at *
    generalize ys.length = yn0 at *
    go_enter Tryd.func6, Tryd.ntmps6
    go_wp2_with fail
    go_at_call 9
    refine HC.out.mono ?_
    rintro _ w1 ⟨a1, c1, rfl, hps1, hb1⟩
    have HPS := hid hps1
    have HB1 := hid hb1
    have HL1 := hid (HL.out.later hb1)
    clear hps1 hb1 HC
    go_wp2_with fail
    obtain ⟨zn, hzn⟩ : ∃ n : Nat, n = 600 := ⟨_, rfl⟩
    rw [show (600 : Nat) = zn from hzn.symm]
    have HRZ : Hid (Rd w1 (.slice (some ⟨x, y, none⟩) zn capb) (some ⟨x, y, none⟩) capb z) := by show Rd _ _ _ _ _; rw [hzn]; exact HRZ0.out.later HB1.out
    have HZN : Hid (z.length = zn) := by show _ = _; rw [hzn]; exact HZN0.out
    have hzn6 : zn ≤ 600 := by omega
    clear hzn HRZ0 HZN0 h6 h6' HRB
    generalize (some (⟨x, y, none⟩ : Addr)) = b at *
    go_at_call 23
    refine (new_word w1 HL1.out).mono ?_
    rintro _ w2 ⟨rfl, hs2, hb2⟩
    have HS2 := hid hs2
    have HB2 := hid hb2
    have hg2 : w1.heap.size < w2.heap.size := (Array.getElem?_eq_some_iff.1 hs2.blk).1
    clear hs2 hb2
    generalize hgg : w1.heap.size = g at *
    have HGG := hid hgg
    clear hgg
    go_wp2_with fail
    go_loopw [8] (fun i wr => ∃ (k : Nat) (op : List Nat), k ≤ mn ∧ i = .int .i64 k ∧ Hs wr g (m.take k).flatten op ∧ Below g w1 wr ∧ g < wr.heap.size) (fun i _ => 20 - (intOf i).toNat)
    case atStart => exact ⟨0, z64, by omega, rfl, by rw [List.take_zero]; exact HS2.out, HB2.out, hg2⟩
    case round =>
      obtain ⟨k, op, hk, rfl, hHs, hbel, hgw⟩ := hrel
      have HHs := hid hHs
      have HBL := hid hbel
      clear hHs hbel HS2 HB2
      by_cases hlt : k < mn
      · have hkn : (k : Int) < (mn : Int) := by omega
        have hkm : k < m.length := by rw [HMN.out]; exact hlt
        obtain ⟨bb, off, ha1, hbb, hc⟩ := HPS.out.cells (by omega)
        obtain ⟨v, a', cap', hck, hrd⟩ := hc k hkm
        have hv := hrd.val
        subst hv
        subst ha1
        have hB1 : Below w1.heap.size w1 wr := by rw [HGG.out]; exact HBL.out
        have hck' : wr.cell? ⟨bb, off + k, none⟩ = some (.slice a' (m.getD k []).length cap') := (hB1.cell (p := ⟨bb, off + k, none⟩) hbb).trans hck
        have hrx : Rx g wr (.slice a' (m.getD k []).length cap') a' cap' (m.getD k []) := ⟨hrd.later hB1, fun h0 ad had => by
          obtain ⟨b', o', hab, hbw', _⟩ := hrd.cells h0
          rw [hab] at had
          injection had with had
          subst had
          show b' ≠ g
          have := HGG.out
          omega⟩
        have hft := flat_take m k hkm
        have hfk := flat_le m k
        have hyl := mem_len m k hkm
        have hfk1 := flat_le m (k + 1)
        have HW := hid (write_word g a' cap' (m.getD k []) _ op wr (HL1.out.later hB1) (by have := HL1.out.two; have := HGG.out; omega) hrx HHs.out (by omega))
        rw [← hft] at HW
        have hMT : (m.take (k + 1)).flatten.length ≤ 12000 := by omega
        have hm20 : k + 1 ≤ 20 := by omega
        have HPT := hid (ps_take HPS.out (k + 1))
        have HTL : Hid ((m.take (k + 1)).length = k + 1) := by show _ = _; rw [List.length_take]; omega
        generalize hMS : (m.take (k + 1)).flatten = msg at *
        have HMS := hid hMS
        generalize (m.getD k []).length = yn at *
        clear hc hck hrd hrx hft hfk hfk1 hMS hyl HHs
        have hq1 := eq25 (digest msg) (digest_length _)
        have HDL_D := hid (digest_length msg)
        have hg := guard25
        go_wp2_with fail
        go_at_call 24
        refine HW.out.mono ?_
        rintro _ w3 ⟨rfl, ⟨op1, hs3⟩, hg3⟩
        have hB3 : Below g w1 w3 := HBL.out.trans (grown_bel hg3 (Nat.le_refl _) (by omega))
        have HS3 := hid hs3
        have HB3 := hid hB3
        have hB3' : Below w1.heap.size w1 w3 := by rw [HGG.out]; exact hB3
        have hgw3 : g < w3.heap.size := Nat.lt_of_lt_of_le hgw hg3.size
        have HL3 := hid (HL1.out.later hB3')
        clear hs3 hg3 HW hck' hB3 hB1
        go_wp2_with fail
        go_at_call 25
        refine (hsum_word g msg op1 w3 HL3.out HS3.out (by omega)).mono ?_
        rintro _ w4 ⟨rfl, hb4⟩
        obtain ⟨q5, f5, z5⟩ := put_new w4 (digest msg) 25 w4.heap.size rfl
        have hn4 := heap_new w4 (.cells (arr .u8 z32) 25)
        have hz4 := hb4.size
        generalize hD : digest msg = D at *
        have HD := hid hD
        clear hD
        go_wp2_with (first
          | (refine wpList_alloc_at rfl 25 rfl (some 9) rfl (arr .u8 z32) Tryd.zero25 w4.heap.size rfl ?_)
          | (refine wpList_store_rowTo rfl 25 _ _ rfl rfl w4.heap.size (arr .u8 D) rfl rfl 25 _ hn4 (by rw [arr_size, HDL_D.out]; exact Tryd.size25) (by rw [arr_size, arr_size, HDL_D.out]; rfl) (arr_one _ _) ?_))
        generalize (w4.alloc (.cells (arr .u8 z32) 25)).setRow w4.heap.size (arr .u8 D) = w5 at *
        have hb35 := Bn hb4 q5
        have HB35 := hid hb35
        have HPS5 := hid (HPT.out.later (Bn hB3' hb35))
        have L5 : ∀ w : World, Below w5.heap.size w5 w → (Instr.loadAt 25 (.pointer (some ⟨w4.heap.size, 0, none⟩))).run Tryd.prog w = .ok (.agg (arr .u8 D)) w := fun w h => load_whole (by rw [h.block _ (by omega)]; exact f5) Tryd.underlying25 rfl (by rw [HDL_D.out]; exact Tryd.size25)
        have HSR := hid (fun (w : World) (h : Below w5.heap.size w5 w) => sum_ref (some ⟨bb, off, none⟩) c1 (m.take (k + 1)) w (HPS5.out.later h) (by rw [HMS.out]; omega))
        rw [HTL.out, HMS.out, HD.out] at HSR
        have hz35 := hb35.size
        clear f5 q5 hb4 hb35 hn4
        have hkc : k + 1 ≤ c1 := by have := HPS.out.room; omega
        have hkc2 : ¬ ((c1 : Int) < (k : Int) + 1) := by omega
        have hk0 : 0 ≤ (k : Int) + 1 := by omega
        have hkt : ((k : Int) + 1).toNat = k + 1 := by omega
        have hwk : IntKind.i64.wrap ((k : Int) + 1) = (k : Int) + 1 := by rw [IntKind.wrap_i64]; omega
        refine wp_region_held_drew (S := fun w' => Below w5.heap.size w5 w') (by as_aux_lemma => kernel_rfl) (Below.refl _ _).drew (fun hS => ?_)
        generalize w5.drew = wD at *
        refine Ord.take (i := 0) (d := 43) (v := ?v0p) rfl rfl (by as_aux_lemma => kernel_rfl) (by as_aux_lemma => kernel_rfl) (by as_aux_lemma => kernel_rfl) (fun _ _ _ h => h) (by rfl) ?h0 (by assumption) ?_
        case h0 => intro w hSw; go_simp; try with_reducible rfl
        simp only [List.setIfInBounds_toArray, List.set_cons_zero, List.set_cons_succ]
        refine Ord.take (i := 1) (d := 44) (v := .bool false) rfl rfl (by as_aux_lemma => kernel_rfl) (by as_aux_lemma => kernel_rfl) (by as_aux_lemma => kernel_rfl) (fun _ _ _ h => h) (by rfl) ?h1 (by assumption) ?_
        case h1 => intro w hSw; go_simp; try with_reducible rfl
        simp only [List.setIfInBounds_toArray, List.set_cons_zero, List.set_cons_succ]
        refine Ord.take (i := 2) (d := 45) (v := ?v2p) rfl rfl (by as_aux_lemma => kernel_rfl) (by as_aux_lemma => kernel_rfl) (by as_aux_lemma => kernel_rfl) (fun _ _ _ h => h) (by rfl) ?h2 (by assumption) ?_
        case h2 => intro w hSw; go_simp; try with_reducible rfl
        simp only [List.setIfInBounds_toArray, List.set_cons_zero, List.set_cons_succ]
        refine Ord.take (i := 3) (d := 46) (v := .agg (arr .u8 D)) rfl rfl (by as_aux_lemma => kernel_rfl) (by as_aux_lemma => kernel_rfl) (by as_aux_lemma => kernel_rfl) (fun _ _ _ h => h) (by rfl) ?h3 (by assumption) ?_
        case h3 => exact fun w hSw => run_load_op (p := .pointer (some ⟨w4.heap.size, 0, none⟩)) rfl rfl (L5 w hSw)
        simp only [List.setIfInBounds_toArray, List.set_cons_zero, List.set_cons_succ]
        refine Ord.take (i := 4) (d := 47) (v := ?v4p) rfl rfl (by as_aux_lemma => kernel_rfl) (by as_aux_lemma => kernel_rfl) (by as_aux_lemma => kernel_rfl) (fun _ _ _ h => h) (by rfl) ?h4 (by assumption) ?_
        case h4 => intro w hSw; go_simp; try with_reducible rfl
        simp only [List.setIfInBounds_toArray, List.set_cons_zero, List.set_cons_succ]
        refine Ord.take (i := 5) (d := 48) (v := ?v5p) rfl rfl (by as_aux_lemma => kernel_rfl) (by as_aux_lemma => kernel_rfl) (by as_aux_lemma => kernel_rfl) (fun _ _ _ h => h) (by rfl) ?h5 (by assumption) ?_
        case h5 => intro w hSw; go_simp; try with_reducible rfl
        simp only [List.setIfInBounds_toArray, List.set_cons_zero, List.set_cons_succ]
        refine Ord.take (i := 6) (d := 49) (v := .int .i64 ((k : Int) + 1)) rfl rfl (by as_aux_lemma => kernel_rfl) (by as_aux_lemma => kernel_rfl) (by as_aux_lemma => kernel_rfl) (fun _ _ _ h => h) (by rfl) ?h6 (by assumption) ?_
        case h6 => intro w hSw; go_simp; try with_reducible rfl
        simp only [List.setIfInBounds_toArray, List.set_cons_zero, List.set_cons_succ]
        refine Ord.take (i := 7) (d := 50) (v := .slice (some ⟨bb, off, none⟩) (k + 1) c1) rfl rfl (by as_aux_lemma => kernel_rfl) (by as_aux_lemma => kernel_rfl) (by as_aux_lemma => kernel_rfl) (fun _ _ _ h => h) (by rfl) ?h7 (by assumption) ?_
        case h7 => intro w hSw; go_simp; try with_reducible rfl
        simp only [List.setIfInBounds_toArray, List.set_cons_zero, List.set_cons_succ]
        refine wpAnyH_ready (rs := [8]) (by as_aux_lemma => kernel_rfl) (by simp) (AllReadyH.cons rfl (fun K hK => ?_) AllReadyH.nil)
        go_simp
        refine (HSR.out wD hS).mono ?_
        rintro _ w6 ⟨rfl, hb6⟩
        have hS6 := Bn hS hb6
        refine hK.out _ _ hS6 (fun _ => ?_)
        clear hK K hb6
        refine Ord.take (i := 9) (d := 52) (v := .bool false) rfl rfl (by as_aux_lemma => kernel_rfl) (by as_aux_lemma => kernel_rfl) (by as_aux_lemma => kernel_rfl) (fun _ _ _ h => h) (by rfl) ?h9 (by assumption) ?_
        case h9 => exact fun w _ => run_neq_op rfl rfl rfl hg (hq1 w)
        simp only [List.setIfInBounds_toArray, List.set_cons_zero, List.set_cons_succ]
        refine Ord.take (i := 10) (d := 53) (v := .bool false) rfl rfl (by as_aux_lemma => kernel_rfl) (by as_aux_lemma => kernel_rfl) (by as_aux_lemma => kernel_rfl) (fun _ _ _ h => h) (by rfl) ?h10 (by assumption) ?_
        case h10 => intro w hSw; go_simp; try with_reducible rfl
        simp only [List.setIfInBounds_toArray, List.set_cons_zero, List.set_cons_succ]
        refine wpAnyH_done (by as_aux_lemma => kernel_rfl) ?_ _
        have hb36 := Bn HB35.out hS6
        have HS6 := hid (HS3.out.later hb36)
        have hB6' : Below w1.heap.size w1 w6 := Bn hB3' hb36
        have HB6 : Hid (Below g w1 w6) := by show _; rw [← HGG.out]; exact hB6'
        have HL6 := hid (HL1.out.later hB6')
        have hgw6 : g < w6.heap.size := Nat.lt_of_lt_of_le hgw3 hb36.size
        clear hS hS6 L5 hb36 HSR HS3 HB3 hq1
        by_cases heq : (k : Int) = at_
        · subst heq
          go_wp2_with fail
          go_at_call 26
          refine (copy_word g msg op1 w6 HS6.out).mono ?_
          rintro _ w7 ⟨rfl, hs7, hb7⟩
          have hs7g := HS6.out.later hb7
          have hg7 : w6.heap.size < w7.heap.size := (Array.getElem?_eq_some_iff.1 hs7.blk).1
          have hB7 := Bn hB6' hb7
          have hrz7 : Rx w6.heap.size w7 (.slice b zn capb) b capb z := ⟨HRZ.out.later hB7, fun h0 ad had => by
            obtain ⟨b', o', hab, hbw', _⟩ := HRZ.out.cells h0
            rw [hab] at had
            injection had with had
            subst had
            show b' ≠ w6.heap.size
            have := hB6'.size
            omega⟩
          have HW7 := hid (write_word w6.heap.size b capb z msg op1 w7 (HL1.out.later hB7) (by have := HL6.out.two; omega) (by rw [HZN.out]; exact hrz7) hs7 (by rw [HZN.out]; omega))
          rw [HZN.out] at HW7
          have HSG7 := hid hs7g
          have HB7 := hid hb7
          clear hs7 hs7g hrz7 hb7
          generalize hgc : w6.heap.size = gc at *
          have HGC := hid hgc
          clear hgc
          go_wp2_with fail
          go_at_call 24
          refine HW7.out.mono ?_
          rintro _ w8 ⟨rfl, ⟨op8, hs8⟩, hg8⟩
          have hB8 : Below gc w6 w8 := HB7.out.trans (grown_bel hg8 (Nat.le_refl _) (by omega))
          have hB8' : Below w6.heap.size w6 w8 := by rw [HGC.out]; exact hB8
          have HL8 := hid (HL6.out.later hB8')
          have HS8 := hid hs8
          have HSG8 := hid (HS6.out.later hB8')
          have hMZ : (msg ++ z).length ≤ 13000 := by rw [List.length_append, HZN.out]; omega
          clear hg8 hs8 HW7 hB8
          go_wp2_with fail
          go_at_call 25
          refine (hsum_word gc (msg ++ z) op8 w8 HL8.out HS8.out (by omega)).mono ?_
          rintro _ w9 ⟨rfl, hb9⟩
          have HDL_E := hid (digest_length (msg ++ z))
          have hq2 := eq25 (digest (msg ++ z)) (digest_length _)
          obtain ⟨q10, f10, z10⟩ := put_new w9 (digest (msg ++ z)) 25 w9.heap.size rfl
          have hn9 := heap_new w9 (.cells (arr .u8 z32) 25)
          generalize hE : digest (msg ++ z) = E at *
          have HEE := hid hE
          clear hE
          go_wp2_with (first
            | (refine wpList_alloc_at rfl 25 rfl (some 13) rfl (arr .u8 z32) Tryd.zero25 w9.heap.size rfl ?_)
            | (refine wpList_store_rowTo rfl 25 _ _ rfl rfl w9.heap.size (arr .u8 E) rfl rfl 25 _ hn9 (by rw [arr_size, HDL_E.out]; exact Tryd.size25) (by rw [arr_size, arr_size, HDL_E.out]; rfl) (arr_one _ _) ?_))
          generalize (w9.alloc (.cells (arr .u8 z32) 25)).setRow w9.heap.size (arr .u8 E) = wB at *
          have hb6B := Bn hB8' (Bn hb9 q10)
          have hB1B := Bn hB6' hb6B
          have L10 : ∀ w : World, Below wB.heap.size wB w → (Instr.loadAt 25 (.pointer (some ⟨w9.heap.size, 0, none⟩))).run Tryd.prog w = .ok (.agg (arr .u8 E)) w := fun w h => load_whole (by rw [h.block _ (by omega)]; exact f10) Tryd.underlying25 rfl (by rw [HDL_E.out]; exact Tryd.size25)
          have HPSB := hid (HPT.out.later hB1B)
          have HRZB := hid (HRZ.out.later hB1B)
          obtain ⟨vals, hV, hVC, hV1⟩ := ps_vals HPSB.out
          have HVL : Hid (vals.length = (k + 1) * 1) := by show _ = _; rw [hV.len, HTL.out, Nat.mul_one]
          have HVC := hid hVC
          have HV1 := hid hV1
          have HVV := hid (hV.snoc HRZB.out)
          have HVM : Hid ((m.take (k + 1) ++ [z]).length = k + 1 + 1) := by show _ = _; rw [List.length_append, HTL.out]; rfl
          have HVF : Hid ((m.take (k + 1) ++ [z]).flatten = msg ++ z) := by show _ = _; rw [List.flatten_append, HMS.out]; simp
          have HHG := hid (fun (w : World) (h : Below wB.heap.size wB w) => (HS6.out.later hb6B).later h)
          have Bn10 : ∀ w : World, Below wB.heap.size wB w → Below g w1 w := fun w h => by rw [← HGG.out]; exact Bn hB1B h
          have hw1B : w1.heap.size ≤ wB.heap.size := hB1B.size
          have hgB : g < wB.heap.size := by have := hb6B.size; have := HGC.out; omega
          obtain ⟨hq3, hq4, hq5, hq6⟩ := small24 k hm20
          clear hV hVC hV1 q10 f10 hb9 hb6B hB1B hB8' hn9 hgw hgw3 hz4 hz35 hroom hmost hml hfl hkm z5 z10
          refine wp_region_held_drew (S := fun w' => Below wB.heap.size wB w') (by as_aux_lemma => kernel_rfl) (Below.refl _ _).drew (fun hSE => ?_)
          generalize wB.drew = wE at *
          refine Ord.take (i := 0) (d := 79) (v := ?v0q) rfl rfl (by as_aux_lemma => kernel_rfl) (by as_aux_lemma => kernel_rfl) (by as_aux_lemma => kernel_rfl) (fun _ _ _ h => h) (by rfl) ?h0 (by assumption) ?_
          case h0 => intro w hSw; go_simp; try with_reducible rfl
          simp only [List.setIfInBounds_toArray, List.set_cons_zero, List.set_cons_succ]
          refine Ord.take (i := 1) (d := 80) (v := .bool false) rfl rfl (by as_aux_lemma => kernel_rfl) (by as_aux_lemma => kernel_rfl) (by as_aux_lemma => kernel_rfl) (fun _ _ _ h => h) (by rfl) ?h1 (by assumption) ?_
          case h1 => intro w hSw; go_simp; try with_reducible rfl
          simp only [List.setIfInBounds_toArray, List.set_cons_zero, List.set_cons_succ]
          refine Ord.take (i := 2) (d := 81) (v := ?v2q) rfl rfl (by as_aux_lemma => kernel_rfl) (by as_aux_lemma => kernel_rfl) (by as_aux_lemma => kernel_rfl) (fun _ _ _ h => h) (by rfl) ?h2 (by assumption) ?_
          case h2 => intro w hSw; go_simp; try with_reducible rfl
          simp only [List.setIfInBounds_toArray, List.set_cons_zero, List.set_cons_succ]
          refine Ord.take (i := 3) (d := 82) (v := .agg (arr .u8 E)) rfl rfl (by as_aux_lemma => kernel_rfl) (by as_aux_lemma => kernel_rfl) (by as_aux_lemma => kernel_rfl) (fun _ _ _ h => h) (by rfl) ?h3 (by assumption) ?_
          case h3 => exact fun w hSw => run_load_op (p := .pointer (some ⟨w9.heap.size, 0, none⟩)) rfl rfl (L10 w hSw)
          simp only [List.setIfInBounds_toArray, List.set_cons_zero, List.set_cons_succ]
          refine Ord.take (i := 5) (d := 84) (v := ?v5q) rfl rfl (by as_aux_lemma => kernel_rfl) (by as_aux_lemma => kernel_rfl) (by as_aux_lemma => kernel_rfl) (fun _ _ _ h => h) (by rfl) ?h5 (by assumption) ?_
          case h5 => intro w hSw; go_simp; try with_reducible rfl
          simp only [List.setIfInBounds_toArray, List.set_cons_zero, List.set_cons_succ]
          refine Ord.take (i := 6) (d := 85) (v := ?v6q) rfl rfl (by as_aux_lemma => kernel_rfl) (by as_aux_lemma => kernel_rfl) (by as_aux_lemma => kernel_rfl) (fun _ _ _ h => h) (by rfl) ?h6 (by assumption) ?_
          case h6 => intro w hSw; go_simp; try with_reducible rfl
          simp only [List.setIfInBounds_toArray, List.set_cons_zero, List.set_cons_succ]
          refine Ord.take (i := 7) (d := 86) (v := .int .i64 ((k : Int) + 1)) rfl rfl (by as_aux_lemma => kernel_rfl) (by as_aux_lemma => kernel_rfl) (by as_aux_lemma => kernel_rfl) (fun _ _ _ h => h) (by rfl) ?h7 (by assumption) ?_
          case h7 => intro w hSw; go_simp; try with_reducible rfl
          simp only [List.setIfInBounds_toArray, List.set_cons_zero, List.set_cons_succ]
          refine Ord.take (i := 8) (d := 87) (v := .slice (some ⟨bb, off, none⟩) (k + 1) c1) rfl rfl (by as_aux_lemma => kernel_rfl) (by as_aux_lemma => kernel_rfl) (by as_aux_lemma => kernel_rfl) (fun _ _ _ h => h) (by rfl) ?h8 (by assumption) ?_
          case h8 => intro w hSw; go_simp; try with_reducible rfl
          simp only [List.setIfInBounds_toArray, List.set_cons_zero, List.set_cons_succ]
          refine Ord.take (i := 10) (d := 89) (v := ?v10q) rfl rfl (by as_aux_lemma => kernel_rfl) (by as_aux_lemma => kernel_rfl) (by as_aux_lemma => kernel_rfl) (fun _ _ _ h => h) (by rfl) ?h10 (by assumption) ?_
          case h10 => intro w hSw; go_simp; try with_reducible rfl
          simp only [List.setIfInBounds_toArray, List.set_cons_zero, List.set_cons_succ]
          refine wpAnyH_ready (rs := [4, 11]) (by as_aux_lemma => kernel_rfl) (by simp) (AllReadyH.cons rfl (fun K hK => ?_) (AllReadyH.cons rfl (fun K hK => ?_) AllReadyH.nil))
          · go_simp
            have hb1 := bel_alloc wE (.cells #[] 35)
            have hS1 := Bn hSE hb1
            have hzz1 : (wE.alloc (.cells #[] 35)).heap.size = wE.heap.size + 1 := by simp
            have hy1 := hSE.size
            have hww1 : wE.heap.size < (wE.alloc (.cells #[] 35)).heap.size := by omega
            have ho1 := World.ownsRow_lit (base := wB.heap.size) (e := 35) (size := 1) wE #[] 0 hy1 (by unfold maxLen; omega) rfl
            refine hK.out _ _ hS1 (fun _ => ?_)
            clear hK K
            generalize hx1 : wE.alloc (.cells #[] 35) = x1 at *
            clear hx1 hb1 hzz1
            refine wpAnyH_ready (rs := [9, 11]) (by as_aux_lemma => kernel_rfl) (by simp) (AllReadyH.cons rfl (fun K hK => ?_) (AllReadyH.cons rfl (fun K hK => ?_) AllReadyH.nil))
            · have hu2 : ∀ (j : Nat) (u : Value), vals[j]? = some u → x1.cell? (Addr.add ⟨bb, off, none⟩ j) = some u := fun j u hu => ((hS1.cell (p := Addr.add ⟨bb, off, none⟩ j) (by rw [add_block]; exact Nat.lt_of_lt_of_le hbb hw1B)).trans (HVC.out j u hu))
              have hy2 := hS1.size
              refine wp_append_own _ (.tmp 83) (.tmp 87) 22 rfl wB.heap.size 35 i0 (.slice none 0 0) 1 24 Tryd.underlying22 hi hz0 hz1 hz2 rfl (by decide) _ _ _ rfl ho1 ⟨bb, off, none⟩ (k + 1) c1 vals rfl HVL.out hu2 HV1.out hq3 hq4 hy2 ?_
              intro v2 x2 ho2 hg2 _
              have hS2 := hS1.grown hg2 hy2 (fun j hj => (ho1.lt j hj).1)
              refine hK.out _ _ hS2 (fun _ => ?_)
              clear hK K hg2 hu2
              refine put_slot (d := 88) rfl ?_
              simp only [List.setIfInBounds_toArray, List.set_cons_zero, List.set_cons_succ]
              refine wpAnyH_ready (rs := [11]) (by as_aux_lemma => kernel_rfl) (by simp) (AllReadyH.cons rfl (fun K hK => ?_) AllReadyH.nil)
              go_simp
              have hb3 := bel_alloc x2 (.cells #[.slice b zn capb] 35)
              have hS3 := Bn hS2 hb3
              have hzz3 : (x2.alloc (.cells #[.slice b zn capb] 35)).heap.size = x2.heap.size + 1 := by simp
              have hy3 := hS2.size
              have hww3 : x2.heap.size < (x2.alloc (.cells #[.slice b zn capb] 35)).heap.size := by omega
              have hc3 := World.cell?_alloc_mark x2 #[.slice b zn capb] 35 (0, 0) 0
              have hd3 : x2.heap.size < (x2.alloc (.cells #[.slice b zn capb] 35)).heap.size := by omega
              have ho3 := own_rows_later ho2 hb3
              refine hK.out _ _ hS3 (fun _ => ?_)
              clear hK K
              generalize hx3 : x2.alloc (.cells #[.slice b zn capb] 35) = x3 at *
              clear hx3 hb3 hzz3
              refine wpAnyH_ready (rs := [12]) (by as_aux_lemma => kernel_rfl) (by simp) (AllReadyH.cons rfl (fun K hK => ?_) AllReadyH.nil)
              have hu4 : ∀ (j : Nat) (u : Value), [Value.slice b zn capb][j]? = some u → x3.cell? (Addr.add ⟨x2.heap.size, 0, none⟩ j) = some u := fun j u hu => by match j, hu with | 0, hu => simp at hu; subst hu; rw [add_plain0]; exact hc3
              have hy4 := hS3.size
              refine wp_append_own _ (.tmp 88) (.tmp 90) 22 rfl wB.heap.size 35 i0 (.slice none 0 0) 1 24 Tryd.underlying22 hi hz0 hz1 hz2 rfl (by decide) _ _ _ rfl ho3 ⟨x2.heap.size, 0, none⟩ 1 1 [.slice b zn capb] rfl rfl hu4 (row_cell _ _ _) hq5 hq6 hy4 ?_
              intro v4 x4 ho4 hg4 _
              have hS4 := hS3.grown hg4 hy4 (fun j hj => (ho3.lt j hj).1)
              obtain ⟨p4, r4, hv4, hps4⟩ := ps_own (v := v4) HVV.out (by rw [HVM.out]; simpa only [List.nil_append, Nat.zero_add] using ho4) hS4
              rw [HVM.out] at hv4
              subst hv4
              have hsm4 := sum_ref p4 r4 _ x4 hps4 (by rw [HVF.out]; omega)
              rw [HVM.out, HVF.out, HEE.out] at hsm4
              have HSM4 := hid hsm4
              refine hK.out _ _ hS4 (fun _ => ?_)
              clear hK K hg4 hu4 hsm4 hps4 ho4
              refine put_slot (d := 91) rfl ?_
              simp only [List.setIfInBounds_toArray, List.set_cons_zero, List.set_cons_succ]
              refine wpAnyH_ready (rs := [13]) (by as_aux_lemma => kernel_rfl) (by simp) (AllReadyH.cons rfl (fun K hK => ?_) AllReadyH.nil)
              go_simp
              refine HSM4.out.mono ?_
              rintro _ x5 ⟨rfl, hb5⟩
              have hS5 := Bn hS4 hb5
              refine hK.out _ _ hS5 (fun _ => ?_)
              clear hK K hb5
              refine Ord.take (i := 14) (d := 93) (v := .bool false) rfl rfl (by as_aux_lemma => kernel_rfl) (by as_aux_lemma => kernel_rfl) (by as_aux_lemma => kernel_rfl) (fun _ _ _ h => h) (by rfl) ?h14 (by assumption) ?_
              case h14 => exact fun w _ => run_neq_op rfl rfl rfl hg (hq2 w)
              simp only [List.setIfInBounds_toArray, List.set_cons_zero, List.set_cons_succ]
              refine Ord.take (i := 15) (d := 94) (v := .bool false) rfl rfl (by as_aux_lemma => kernel_rfl) (by as_aux_lemma => kernel_rfl) (by as_aux_lemma => kernel_rfl) (fun _ _ _ h => h) (by rfl) ?h15 (by assumption) ?_
              case h15 => intro w hSw; go_simp; try with_reducible rfl
              simp only [List.setIfInBounds_toArray, List.set_cons_zero, List.set_cons_succ]
              refine wpAnyH_done (by as_aux_lemma => kernel_rfl) ?_ _
              have HF := hid (HHG.out _ hS5)
              have HFB := hid (Bn10 _ hS5)
              have hszz := hS5.size
              clear hSE L10
              go_wp2
              exact ⟨⟨k + 1, op1, by omega, by go_num, by rw [HMS.out]; exact HF.out, HFB.out, by omega⟩, by simp [intOf]; omega⟩
            · go_simp
              have hb6 := bel_alloc x1 (.cells #[.slice b zn capb] 35)
              have hS6 := Bn hS1 hb6
              have hzz6 : (x1.alloc (.cells #[.slice b zn capb] 35)).heap.size = x1.heap.size + 1 := by simp
              have hy6 := hS1.size
              have hww6 : x1.heap.size < (x1.alloc (.cells #[.slice b zn capb] 35)).heap.size := by omega
              have hc6 := World.cell?_alloc_mark x1 #[.slice b zn capb] 35 (0, 0) 0
              have hd6 : x1.heap.size < (x1.alloc (.cells #[.slice b zn capb] 35)).heap.size := by omega
              have ho6 := own_rows_later ho1 hb6
              refine hK.out _ _ hS6 (fun _ => ?_)
              clear hK K
              generalize hx6 : x1.alloc (.cells #[.slice b zn capb] 35) = x6 at *
              clear hx6 hb6 hzz6
              refine wpAnyH_ready (rs := [9]) (by as_aux_lemma => kernel_rfl) (by simp) (AllReadyH.cons rfl (fun K hK => ?_) AllReadyH.nil)
              have hu7 : ∀ (j : Nat) (u : Value), vals[j]? = some u → x6.cell? (Addr.add ⟨bb, off, none⟩ j) = some u := fun j u hu => ((hS6.cell (p := Addr.add ⟨bb, off, none⟩ j) (by rw [add_block]; exact Nat.lt_of_lt_of_le hbb hw1B)).trans (HVC.out j u hu))
              have hy7 := hS6.size
              refine wp_append_own _ (.tmp 83) (.tmp 87) 22 rfl wB.heap.size 35 i0 (.slice none 0 0) 1 24 Tryd.underlying22 hi hz0 hz1 hz2 rfl (by decide) _ _ _ rfl ho6 ⟨bb, off, none⟩ (k + 1) c1 vals rfl HVL.out hu7 HV1.out hq3 hq4 hy7 ?_
              intro v7 x7 ho7 hg7 _
              have hS7 := hS6.grown hg7 hy7 (fun j hj => (ho6.lt j hj).1)
              have hc7 : x7.cell? ⟨x1.heap.size, 0, none⟩ = some (.slice b zn capb) := by rw [World.cell?_of_block (w := x6) (hg7.block x1.heap.size hd6 (fun h => absurd (show x1.heap.size = wE.heap.size by injection h) (by omega)))]; exact hc6
              have hd7 : x1.heap.size < x7.heap.size := Nat.lt_of_lt_of_le hd6 hg7.size
              refine hK.out _ _ hS7 (fun _ => ?_)
              clear hK K hg7 hu7
              refine put_slot (d := 88) rfl ?_
              simp only [List.setIfInBounds_toArray, List.set_cons_zero, List.set_cons_succ]
              refine wpAnyH_ready (rs := [12]) (by as_aux_lemma => kernel_rfl) (by simp) (AllReadyH.cons rfl (fun K hK => ?_) AllReadyH.nil)
              have hu8 : ∀ (j : Nat) (u : Value), [Value.slice b zn capb][j]? = some u → x7.cell? (Addr.add ⟨x1.heap.size, 0, none⟩ j) = some u := fun j u hu => by match j, hu with | 0, hu => simp at hu; subst hu; rw [add_plain0]; exact hc7
              have hy8 := hS7.size
              refine wp_append_own _ (.tmp 88) (.tmp 90) 22 rfl wB.heap.size 35 i0 (.slice none 0 0) 1 24 Tryd.underlying22 hi hz0 hz1 hz2 rfl (by decide) _ _ _ rfl ho7 ⟨x1.heap.size, 0, none⟩ 1 1 [.slice b zn capb] rfl rfl hu8 (row_cell _ _ _) hq5 hq6 hy8 ?_
              intro v8 x8 ho8 hg8 _
              have hS8 := hS7.grown hg8 hy8 (fun j hj => (ho7.lt j hj).1)
              obtain ⟨p8, r8, hv8, hps8⟩ := ps_own (v := v8) HVV.out (by rw [HVM.out]; simpa only [List.nil_append, Nat.zero_add] using ho8) hS8
              rw [HVM.out] at hv8
              subst hv8
              have hsm8 := sum_ref p8 r8 _ x8 hps8 (by rw [HVF.out]; omega)
              rw [HVM.out, HVF.out, HEE.out] at hsm8
              have HSM8 := hid hsm8
              refine hK.out _ _ hS8 (fun _ => ?_)
              clear hK K hg8 hu8 hsm8 hps8 ho8
              refine put_slot (d := 91) rfl ?_
              simp only [List.setIfInBounds_toArray, List.set_cons_zero, List.set_cons_succ]
              refine wpAnyH_ready (rs := [13]) (by as_aux_lemma => kernel_rfl) (by simp) (AllReadyH.cons rfl (fun K hK => ?_) AllReadyH.nil)
              go_simp
              refine HSM8.out.mono ?_
              rintro _ x9 ⟨rfl, hb9⟩
              have hS9 := Bn hS8 hb9
              refine hK.out _ _ hS9 (fun _ => ?_)
              clear hK K hb9
              refine Ord.take (i := 14) (d := 93) (v := .bool false) rfl rfl (by as_aux_lemma => kernel_rfl) (by as_aux_lemma => kernel_rfl) (by as_aux_lemma => kernel_rfl) (fun _ _ _ h => h) (by rfl) ?h14 (by assumption) ?_
              case h14 => exact fun w _ => run_neq_op rfl rfl rfl hg (hq2 w)
              simp only [List.setIfInBounds_toArray, List.set_cons_zero, List.set_cons_succ]
              refine Ord.take (i := 15) (d := 94) (v := .bool false) rfl rfl (by as_aux_lemma => kernel_rfl) (by as_aux_lemma => kernel_rfl) (by as_aux_lemma => kernel_rfl) (fun _ _ _ h => h) (by rfl) ?h15 (by assumption) ?_
              case h15 => intro w hSw; go_simp; try with_reducible rfl
              simp only [List.setIfInBounds_toArray, List.set_cons_zero, List.set_cons_succ]
              refine wpAnyH_done (by as_aux_lemma => kernel_rfl) ?_ _
              have HF := hid (HHG.out _ hS9)
              have HFB := hid (Bn10 _ hS9)
              have hszz := hS9.size
              clear hSE L10
              go_wp2
              exact ⟨⟨k + 1, op1, by omega, by go_num, by rw [HMS.out]; exact HF.out, HFB.out, by omega⟩, by simp [intOf]; omega⟩
          · go_simp
            have hb10 := bel_alloc wE (.cells #[.slice b zn capb] 35)
            have hS10 := Bn hSE hb10
            have hzz10 : (wE.alloc (.cells #[.slice b zn capb] 35)).heap.size = wE.heap.size + 1 := by simp
            have hy10 := hSE.size
            have hww10 : wE.heap.size < (wE.alloc (.cells #[.slice b zn capb] 35)).heap.size := by omega
            have hc10 := World.cell?_alloc_mark wE #[.slice b zn capb] 35 (0, 0) 0
            have hd10 : wE.heap.size < (wE.alloc (.cells #[.slice b zn capb] 35)).heap.size := by omega
            refine hK.out _ _ hS10 (fun _ => ?_)
            clear hK K
            generalize hx10 : wE.alloc (.cells #[.slice b zn capb] 35) = x10 at *
            clear hx10 hb10 hzz10
            refine wpAnyH_ready (rs := [4]) (by as_aux_lemma => kernel_rfl) (by simp) (AllReadyH.cons rfl (fun K hK => ?_) AllReadyH.nil)
            go_simp
            have hb11 := bel_alloc x10 (.cells #[] 35)
            have hS11 := Bn hS10 hb11
            have hzz11 : (x10.alloc (.cells #[] 35)).heap.size = x10.heap.size + 1 := by simp
            have hy11 := hS10.size
            have hww11 : x10.heap.size < (x10.alloc (.cells #[] 35)).heap.size := by omega
            have ho11 := World.ownsRow_lit (base := wB.heap.size) (e := 35) (size := 1) x10 #[] 0 hy11 (by unfold maxLen; omega) rfl
            have hc11 := (hb11.cell (p := ⟨wE.heap.size, 0, none⟩) hd10).trans hc10
            have hd11 : wE.heap.size < (x10.alloc (.cells #[] 35)).heap.size := by rw [hzz11]; exact Nat.lt_succ_of_lt hd10
            refine hK.out _ _ hS11 (fun _ => ?_)
            clear hK K
            generalize hx11 : x10.alloc (.cells #[] 35) = x11 at *
            clear hx11 hb11 hzz11
            refine wpAnyH_ready (rs := [9]) (by as_aux_lemma => kernel_rfl) (by simp) (AllReadyH.cons rfl (fun K hK => ?_) AllReadyH.nil)
            have hu12 : ∀ (j : Nat) (u : Value), vals[j]? = some u → x11.cell? (Addr.add ⟨bb, off, none⟩ j) = some u := fun j u hu => ((hS11.cell (p := Addr.add ⟨bb, off, none⟩ j) (by rw [add_block]; exact Nat.lt_of_lt_of_le hbb hw1B)).trans (HVC.out j u hu))
            have hy12 := hS11.size
            refine wp_append_own _ (.tmp 83) (.tmp 87) 22 rfl wB.heap.size 35 i0 (.slice none 0 0) 1 24 Tryd.underlying22 hi hz0 hz1 hz2 rfl (by decide) _ _ _ rfl ho11 ⟨bb, off, none⟩ (k + 1) c1 vals rfl HVL.out hu12 HV1.out hq3 hq4 hy12 ?_
            intro v12 x12 ho12 hg12 _
            have hS12 := hS11.grown hg12 hy12 (fun j hj => (ho11.lt j hj).1)
            have hc12 : x12.cell? ⟨wE.heap.size, 0, none⟩ = some (.slice b zn capb) := by rw [World.cell?_of_block (w := x11) (hg12.block wE.heap.size hd11 (fun h => absurd (show wE.heap.size = x10.heap.size by injection h) (by omega)))]; exact hc11
            have hd12 : wE.heap.size < x12.heap.size := Nat.lt_of_lt_of_le hd11 hg12.size
            refine hK.out _ _ hS12 (fun _ => ?_)
            clear hK K hg12 hu12
            refine put_slot (d := 88) rfl ?_
            simp only [List.setIfInBounds_toArray, List.set_cons_zero, List.set_cons_succ]
            refine wpAnyH_ready (rs := [12]) (by as_aux_lemma => kernel_rfl) (by simp) (AllReadyH.cons rfl (fun K hK => ?_) AllReadyH.nil)
            have hu13 : ∀ (j : Nat) (u : Value), [Value.slice b zn capb][j]? = some u → x12.cell? (Addr.add ⟨wE.heap.size, 0, none⟩ j) = some u := fun j u hu => by match j, hu with | 0, hu => simp at hu; subst hu; rw [add_plain0]; exact hc12
            have hy13 := hS12.size
            refine wp_append_own _ (.tmp 88) (.tmp 90) 22 rfl wB.heap.size 35 i0 (.slice none 0 0) 1 24 Tryd.underlying22 hi hz0 hz1 hz2 rfl (by decide) _ _ _ rfl ho12 ⟨wE.heap.size, 0, none⟩ 1 1 [.slice b zn capb] rfl rfl hu13 (row_cell _ _ _) hq5 hq6 hy13 ?_
            intro v13 x13 ho13 hg13 _
            have hS13 := hS12.grown hg13 hy13 (fun j hj => (ho12.lt j hj).1)
            obtain ⟨p13, r13, hv13, hps13⟩ := ps_own (v := v13) HVV.out (by rw [HVM.out]; simpa only [List.nil_append, Nat.zero_add] using ho13) hS13
            rw [HVM.out] at hv13
            subst hv13
            have hsm13 := sum_ref p13 r13 _ x13 hps13 (by rw [HVF.out]; omega)
            rw [HVM.out, HVF.out, HEE.out] at hsm13
            have HSM13 := hid hsm13
            refine hK.out _ _ hS13 (fun _ => ?_)
            clear hK K hg13 hu13 hsm13 hps13 ho13
            refine put_slot (d := 91) rfl ?_
            simp only [List.setIfInBounds_toArray, List.set_cons_zero, List.set_cons_succ]
            refine wpAnyH_ready (rs := [13]) (by as_aux_lemma => kernel_rfl) (by simp) (AllReadyH.cons rfl (fun K hK => ?_) AllReadyH.nil)
            go_simp
            refine HSM13.out.mono ?_
            rintro _ x14 ⟨rfl, hb14⟩
            have hS14 := Bn hS13 hb14
            refine hK.out _ _ hS14 (fun _ => ?_)
            clear hK K hb14
            refine Ord.take (i := 14) (d := 93) (v := .bool false) rfl rfl (by as_aux_lemma => kernel_rfl) (by as_aux_lemma => kernel_rfl) (by as_aux_lemma => kernel_rfl) (fun _ _ _ h => h) (by rfl) ?h14 (by assumption) ?_
            case h14 => exact fun w _ => run_neq_op rfl rfl rfl hg (hq2 w)
            simp only [List.setIfInBounds_toArray, List.set_cons_zero, List.set_cons_succ]
            refine Ord.take (i := 15) (d := 94) (v := .bool false) rfl rfl (by as_aux_lemma => kernel_rfl) (by as_aux_lemma => kernel_rfl) (by as_aux_lemma => kernel_rfl) (fun _ _ _ h => h) (by rfl) ?h15 (by assumption) ?_
            case h15 => intro w hSw; go_simp; try with_reducible rfl
            simp only [List.setIfInBounds_toArray, List.set_cons_zero, List.set_cons_succ]
            refine wpAnyH_done (by as_aux_lemma => kernel_rfl) ?_ _
            have HF := hid (HHG.out _ hS14)
            have HFB := hid (Bn10 _ hS14)
            have hszz := hS14.size
            clear hSE L10
            go_wp2
            exact ⟨⟨k + 1, op1, by omega, by go_num, by rw [HMS.out]; exact HF.out, HFB.out, by omega⟩, by simp [intOf]; omega⟩
        · have heq' : ¬ (k : Int) = at_ := heq
          clear heq
          go_wp2
          exact ⟨⟨k + 1, op1, by omega, by go_num, (by rw [HMS.out]; exact HS6.out), HB6.out, hgw6⟩, by simp [intOf]; omega⟩
      · obtain rfl : k = mn := by omega
        have hkn : ¬ (k : Int) < (k : Int) := by omega
        have hB1 : Below w1.heap.size w1 wr := by rw [HGG.out]; exact HBL.out
        have HA := hid (alive_any wr (HL1.out.later hB1))
        have HE := hid (Bn HB1.out hB1)
        go_wp2_with fail
        go_at_call 12
        refine HA.out.mono ?_
        rintro _ w9 ⟨rfl, hb9⟩
        have HF := hid (Bn HE.out hb9)
        clear hb9
        go_wp2
        go_ret
        exact ⟨rfl, HF.out⟩
  · have h6' : ¬ (600 : Int) < (ys.length : Int) := by omega
    clear hrb
    generalize ys = z at *
    generalize hzn : z.length = zn at *
    have HZN := hid hzn
    clear hzn
    have hzn6 : zn ≤ 600 := by omega
    go_enter Tryd.func6, Tryd.ntmps6
    go_wp2_with fail
    go_at_call 9
    refine HC.out.mono ?_
    rintro _ w1 ⟨a1, c1, rfl, hps1, hb1⟩
    have HPS := hid hps1
    have HB1 := hid hb1
    have HL1 := hid (HL.out.later hb1)
    have HRZ := hid (HRB.out.later hb1)
    clear hps1 hb1 HC HRB
    go_wp2_with fail
    go_at_call 23
    refine (new_word w1 HL1.out).mono ?_
    rintro _ w2 ⟨rfl, hs2, hb2⟩
    have HS2 := hid hs2
    have HB2 := hid hb2
    have hg2 : w1.heap.size < w2.heap.size := (Array.getElem?_eq_some_iff.1 hs2.blk).1
    clear hs2 hb2
    generalize hgg : w1.heap.size = g at *
    have HGG := hid hgg
    clear hgg
    go_wp2_with fail
    go_loopw [8] (fun i wr => ∃ (k : Nat) (op : List Nat), k ≤ mn ∧ i = .int .i64 k ∧ Hs wr g (m.take k).flatten op ∧ Below g w1 wr ∧ g < wr.heap.size) (fun i _ => 20 - (intOf i).toNat)
    case atStart => exact ⟨0, z64, by omega, rfl, by rw [List.take_zero]; exact HS2.out, HB2.out, hg2⟩
    case round =>
      obtain ⟨k, op, hk, rfl, hHs, hbel, hgw⟩ := hrel
      have HHs := hid hHs
      have HBL := hid hbel
      clear hHs hbel HS2 HB2
      by_cases hlt : k < mn
      · have hkn : (k : Int) < (mn : Int) := by omega
        have hkm : k < m.length := by rw [HMN.out]; exact hlt
        obtain ⟨bb, off, ha1, hbb, hc⟩ := HPS.out.cells (by omega)
        obtain ⟨v, a', cap', hck, hrd⟩ := hc k hkm
        have hv := hrd.val
        subst hv
        subst ha1
        have hB1 : Below w1.heap.size w1 wr := by rw [HGG.out]; exact HBL.out
        have hck' : wr.cell? ⟨bb, off + k, none⟩ = some (.slice a' (m.getD k []).length cap') := (hB1.cell (p := ⟨bb, off + k, none⟩) hbb).trans hck
        have hrx : Rx g wr (.slice a' (m.getD k []).length cap') a' cap' (m.getD k []) := ⟨hrd.later hB1, fun h0 ad had => by
          obtain ⟨b', o', hab, hbw', _⟩ := hrd.cells h0
          rw [hab] at had
          injection had with had
          subst had
          show b' ≠ g
          have := HGG.out
          omega⟩
        have hft := flat_take m k hkm
        have hfk := flat_le m k
        have hyl := mem_len m k hkm
        have hfk1 := flat_le m (k + 1)
        have HW := hid (write_word g a' cap' (m.getD k []) _ op wr (HL1.out.later hB1) (by have := HL1.out.two; have := HGG.out; omega) hrx HHs.out (by omega))
        rw [← hft] at HW
        have hMT : (m.take (k + 1)).flatten.length ≤ 12000 := by omega
        have hm20 : k + 1 ≤ 20 := by omega
        have HPT := hid (ps_take HPS.out (k + 1))
        have HTL : Hid ((m.take (k + 1)).length = k + 1) := by show _ = _; rw [List.length_take]; omega
        generalize hMS : (m.take (k + 1)).flatten = msg at *
        have HMS := hid hMS
        generalize (m.getD k []).length = yn at *
        clear hc hck hrd hrx hft hfk hfk1 hMS hyl HHs
        have hq1 := eq25 (digest msg) (digest_length _)
        have HDL_D := hid (digest_length msg)
        have hg := guard25
        go_wp2_with fail
        go_at_call 24
        refine HW.out.mono ?_
        rintro _ w3 ⟨rfl, ⟨op1, hs3⟩, hg3⟩
        have hB3 : Below g w1 w3 := HBL.out.trans (grown_bel hg3 (Nat.le_refl _) (by omega))
        have HS3 := hid hs3
        have HB3 := hid hB3
        have hB3' : Below w1.heap.size w1 w3 := by rw [HGG.out]; exact hB3
        have hgw3 : g < w3.heap.size := Nat.lt_of_lt_of_le hgw hg3.size
        have HL3 := hid (HL1.out.later hB3')
        clear hs3 hg3 HW hck' hB3 hB1
        go_wp2_with fail
        go_at_call 25
        refine (hsum_word g msg op1 w3 HL3.out HS3.out (by omega)).mono ?_
        rintro _ w4 ⟨rfl, hb4⟩
        obtain ⟨q5, f5, z5⟩ := put_new w4 (digest msg) 25 w4.heap.size rfl
        have hn4 := heap_new w4 (.cells (arr .u8 z32) 25)
        have hz4 := hb4.size
        generalize hD : digest msg = D at *
        have HD := hid hD
        clear hD
        go_wp2_with (first
          | (refine wpList_alloc_at rfl 25 rfl (some 9) rfl (arr .u8 z32) Tryd.zero25 w4.heap.size rfl ?_)
          | (refine wpList_store_rowTo rfl 25 _ _ rfl rfl w4.heap.size (arr .u8 D) rfl rfl 25 _ hn4 (by rw [arr_size, HDL_D.out]; exact Tryd.size25) (by rw [arr_size, arr_size, HDL_D.out]; rfl) (arr_one _ _) ?_))
        generalize (w4.alloc (.cells (arr .u8 z32) 25)).setRow w4.heap.size (arr .u8 D) = w5 at *
        have hb35 := Bn hb4 q5
        have HB35 := hid hb35
        have HPS5 := hid (HPT.out.later (Bn hB3' hb35))
        have L5 : ∀ w : World, Below w5.heap.size w5 w → (Instr.loadAt 25 (.pointer (some ⟨w4.heap.size, 0, none⟩))).run Tryd.prog w = .ok (.agg (arr .u8 D)) w := fun w h => load_whole (by rw [h.block _ (by omega)]; exact f5) Tryd.underlying25 rfl (by rw [HDL_D.out]; exact Tryd.size25)
        have HSR := hid (fun (w : World) (h : Below w5.heap.size w5 w) => sum_ref (some ⟨bb, off, none⟩) c1 (m.take (k + 1)) w (HPS5.out.later h) (by rw [HMS.out]; omega))
        rw [HTL.out, HMS.out, HD.out] at HSR
        have hz35 := hb35.size
        clear f5 q5 hb4 hb35 hn4
        have hkc : k + 1 ≤ c1 := by have := HPS.out.room; omega
        have hkc2 : ¬ ((c1 : Int) < (k : Int) + 1) := by omega
        have hk0 : 0 ≤ (k : Int) + 1 := by omega
        have hkt : ((k : Int) + 1).toNat = k + 1 := by omega
        have hwk : IntKind.i64.wrap ((k : Int) + 1) = (k : Int) + 1 := by rw [IntKind.wrap_i64]; omega
        refine wp_region_held_drew (S := fun w' => Below w5.heap.size w5 w') (by as_aux_lemma => kernel_rfl) (Below.refl _ _).drew (fun hS => ?_)
        generalize w5.drew = wD at *
        refine Ord.take (i := 0) (d := 43) (v := ?v0pz) rfl rfl (by as_aux_lemma => kernel_rfl) (by as_aux_lemma => kernel_rfl) (by as_aux_lemma => kernel_rfl) (fun _ _ _ h => h) (by rfl) ?h0 (by assumption) ?_
        case h0 => intro w hSw; go_simp; try with_reducible rfl
        simp only [List.setIfInBounds_toArray, List.set_cons_zero, List.set_cons_succ]
        refine Ord.take (i := 1) (d := 44) (v := .bool false) rfl rfl (by as_aux_lemma => kernel_rfl) (by as_aux_lemma => kernel_rfl) (by as_aux_lemma => kernel_rfl) (fun _ _ _ h => h) (by rfl) ?h1 (by assumption) ?_
        case h1 => intro w hSw; go_simp; try with_reducible rfl
        simp only [List.setIfInBounds_toArray, List.set_cons_zero, List.set_cons_succ]
        refine Ord.take (i := 2) (d := 45) (v := ?v2pz) rfl rfl (by as_aux_lemma => kernel_rfl) (by as_aux_lemma => kernel_rfl) (by as_aux_lemma => kernel_rfl) (fun _ _ _ h => h) (by rfl) ?h2 (by assumption) ?_
        case h2 => intro w hSw; go_simp; try with_reducible rfl
        simp only [List.setIfInBounds_toArray, List.set_cons_zero, List.set_cons_succ]
        refine Ord.take (i := 3) (d := 46) (v := .agg (arr .u8 D)) rfl rfl (by as_aux_lemma => kernel_rfl) (by as_aux_lemma => kernel_rfl) (by as_aux_lemma => kernel_rfl) (fun _ _ _ h => h) (by rfl) ?h3 (by assumption) ?_
        case h3 => exact fun w hSw => run_load_op (p := .pointer (some ⟨w4.heap.size, 0, none⟩)) rfl rfl (L5 w hSw)
        simp only [List.setIfInBounds_toArray, List.set_cons_zero, List.set_cons_succ]
        refine Ord.take (i := 4) (d := 47) (v := ?v4pz) rfl rfl (by as_aux_lemma => kernel_rfl) (by as_aux_lemma => kernel_rfl) (by as_aux_lemma => kernel_rfl) (fun _ _ _ h => h) (by rfl) ?h4 (by assumption) ?_
        case h4 => intro w hSw; go_simp; try with_reducible rfl
        simp only [List.setIfInBounds_toArray, List.set_cons_zero, List.set_cons_succ]
        refine Ord.take (i := 5) (d := 48) (v := ?v5pz) rfl rfl (by as_aux_lemma => kernel_rfl) (by as_aux_lemma => kernel_rfl) (by as_aux_lemma => kernel_rfl) (fun _ _ _ h => h) (by rfl) ?h5 (by assumption) ?_
        case h5 => intro w hSw; go_simp; try with_reducible rfl
        simp only [List.setIfInBounds_toArray, List.set_cons_zero, List.set_cons_succ]
        refine Ord.take (i := 6) (d := 49) (v := .int .i64 ((k : Int) + 1)) rfl rfl (by as_aux_lemma => kernel_rfl) (by as_aux_lemma => kernel_rfl) (by as_aux_lemma => kernel_rfl) (fun _ _ _ h => h) (by rfl) ?h6 (by assumption) ?_
        case h6 => intro w hSw; go_simp; try with_reducible rfl
        simp only [List.setIfInBounds_toArray, List.set_cons_zero, List.set_cons_succ]
        refine Ord.take (i := 7) (d := 50) (v := .slice (some ⟨bb, off, none⟩) (k + 1) c1) rfl rfl (by as_aux_lemma => kernel_rfl) (by as_aux_lemma => kernel_rfl) (by as_aux_lemma => kernel_rfl) (fun _ _ _ h => h) (by rfl) ?h7 (by assumption) ?_
        case h7 => intro w hSw; go_simp; try with_reducible rfl
        simp only [List.setIfInBounds_toArray, List.set_cons_zero, List.set_cons_succ]
        refine wpAnyH_ready (rs := [8]) (by as_aux_lemma => kernel_rfl) (by simp) (AllReadyH.cons rfl (fun K hK => ?_) AllReadyH.nil)
        go_simp
        refine (HSR.out wD hS).mono ?_
        rintro _ w6 ⟨rfl, hb6⟩
        have hS6 := Bn hS hb6
        refine hK.out _ _ hS6 (fun _ => ?_)
        clear hK K hb6
        refine Ord.take (i := 9) (d := 52) (v := .bool false) rfl rfl (by as_aux_lemma => kernel_rfl) (by as_aux_lemma => kernel_rfl) (by as_aux_lemma => kernel_rfl) (fun _ _ _ h => h) (by rfl) ?h9 (by assumption) ?_
        case h9 => exact fun w _ => run_neq_op rfl rfl rfl hg (hq1 w)
        simp only [List.setIfInBounds_toArray, List.set_cons_zero, List.set_cons_succ]
        refine Ord.take (i := 10) (d := 53) (v := .bool false) rfl rfl (by as_aux_lemma => kernel_rfl) (by as_aux_lemma => kernel_rfl) (by as_aux_lemma => kernel_rfl) (fun _ _ _ h => h) (by rfl) ?h10 (by assumption) ?_
        case h10 => intro w hSw; go_simp; try with_reducible rfl
        simp only [List.setIfInBounds_toArray, List.set_cons_zero, List.set_cons_succ]
        refine wpAnyH_done (by as_aux_lemma => kernel_rfl) ?_ _
        have hb36 := Bn HB35.out hS6
        have HS6 := hid (HS3.out.later hb36)
        have hB6' : Below w1.heap.size w1 w6 := Bn hB3' hb36
        have HB6 : Hid (Below g w1 w6) := by show _; rw [← HGG.out]; exact hB6'
        have HL6 := hid (HL1.out.later hB6')
        have hgw6 : g < w6.heap.size := Nat.lt_of_lt_of_le hgw3 hb36.size
        clear hS hS6 L5 hb36 HSR HS3 HB3 hq1
        by_cases heq : (k : Int) = at_
        · subst heq
          go_wp2_with fail
          go_at_call 26
          refine (copy_word g msg op1 w6 HS6.out).mono ?_
          rintro _ w7 ⟨rfl, hs7, hb7⟩
          have hs7g := HS6.out.later hb7
          have hg7 : w6.heap.size < w7.heap.size := (Array.getElem?_eq_some_iff.1 hs7.blk).1
          have hB7 := Bn hB6' hb7
          have hrz7 : Rx w6.heap.size w7 (.slice b zn capb) b capb z := ⟨HRZ.out.later hB7, fun h0 ad had => by
            obtain ⟨b', o', hab, hbw', _⟩ := HRZ.out.cells h0
            rw [hab] at had
            injection had with had
            subst had
            show b' ≠ w6.heap.size
            have := hB6'.size
            omega⟩
          have HW7 := hid (write_word w6.heap.size b capb z msg op1 w7 (HL1.out.later hB7) (by have := HL6.out.two; omega) (by rw [HZN.out]; exact hrz7) hs7 (by rw [HZN.out]; omega))
          rw [HZN.out] at HW7
          have HSG7 := hid hs7g
          have HB7 := hid hb7
          clear hs7 hs7g hrz7 hb7
          generalize hgc : w6.heap.size = gc at *
          have HGC := hid hgc
          clear hgc
          go_wp2_with fail
          go_at_call 24
          refine HW7.out.mono ?_
          rintro _ w8 ⟨rfl, ⟨op8, hs8⟩, hg8⟩
          have hB8 : Below gc w6 w8 := HB7.out.trans (grown_bel hg8 (Nat.le_refl _) (by omega))
          have hB8' : Below w6.heap.size w6 w8 := by rw [HGC.out]; exact hB8
          have HL8 := hid (HL6.out.later hB8')
          have HS8 := hid hs8
          have HSG8 := hid (HS6.out.later hB8')
          have hMZ : (msg ++ z).length ≤ 13000 := by rw [List.length_append, HZN.out]; omega
          clear hg8 hs8 HW7 hB8
          go_wp2_with fail
          go_at_call 25
          refine (hsum_word gc (msg ++ z) op8 w8 HL8.out HS8.out (by omega)).mono ?_
          rintro _ w9 ⟨rfl, hb9⟩
          have HDL_E := hid (digest_length (msg ++ z))
          have hq2 := eq25 (digest (msg ++ z)) (digest_length _)
          obtain ⟨q10, f10, z10⟩ := put_new w9 (digest (msg ++ z)) 25 w9.heap.size rfl
          have hn9 := heap_new w9 (.cells (arr .u8 z32) 25)
          generalize hE : digest (msg ++ z) = E at *
          have HEE := hid hE
          clear hE
          go_wp2_with (first
            | (refine wpList_alloc_at rfl 25 rfl (some 13) rfl (arr .u8 z32) Tryd.zero25 w9.heap.size rfl ?_)
            | (refine wpList_store_rowTo rfl 25 _ _ rfl rfl w9.heap.size (arr .u8 E) rfl rfl 25 _ hn9 (by rw [arr_size, HDL_E.out]; exact Tryd.size25) (by rw [arr_size, arr_size, HDL_E.out]; rfl) (arr_one _ _) ?_))
          generalize (w9.alloc (.cells (arr .u8 z32) 25)).setRow w9.heap.size (arr .u8 E) = wB at *
          have hb6B := Bn hB8' (Bn hb9 q10)
          have hB1B := Bn hB6' hb6B
          have L10 : ∀ w : World, Below wB.heap.size wB w → (Instr.loadAt 25 (.pointer (some ⟨w9.heap.size, 0, none⟩))).run Tryd.prog w = .ok (.agg (arr .u8 E)) w := fun w h => load_whole (by rw [h.block _ (by omega)]; exact f10) Tryd.underlying25 rfl (by rw [HDL_E.out]; exact Tryd.size25)
          have HPSB := hid (HPT.out.later hB1B)
          have HRZB := hid (HRZ.out.later hB1B)
          obtain ⟨vals, hV, hVC, hV1⟩ := ps_vals HPSB.out
          have HVL : Hid (vals.length = (k + 1) * 1) := by show _ = _; rw [hV.len, HTL.out, Nat.mul_one]
          have HVC := hid hVC
          have HV1 := hid hV1
          have HVV := hid (hV.snoc HRZB.out)
          have HVM : Hid ((m.take (k + 1) ++ [z]).length = k + 1 + 1) := by show _ = _; rw [List.length_append, HTL.out]; rfl
          have HVF : Hid ((m.take (k + 1) ++ [z]).flatten = msg ++ z) := by show _ = _; rw [List.flatten_append, HMS.out]; simp
          have HHG := hid (fun (w : World) (h : Below wB.heap.size wB w) => (HS6.out.later hb6B).later h)
          have Bn10 : ∀ w : World, Below wB.heap.size wB w → Below g w1 w := fun w h => by rw [← HGG.out]; exact Bn hB1B h
          have hw1B : w1.heap.size ≤ wB.heap.size := hB1B.size
          have hgB : g < wB.heap.size := by have := hb6B.size; have := HGC.out; omega
          obtain ⟨hq3, hq4, hq5, hq6⟩ := small24 k hm20
          clear hV hVC hV1 q10 f10 hb9 hb6B hB1B hB8' hn9 hgw hgw3 hz4 hz35 hroom hmost hml hfl hkm z5 z10
          refine wp_region_held_drew (S := fun w' => Below wB.heap.size wB w') (by as_aux_lemma => kernel_rfl) (Below.refl _ _).drew (fun hSE => ?_)
          generalize wB.drew = wE at *
          refine Ord.take (i := 0) (d := 79) (v := ?v0qz) rfl rfl (by as_aux_lemma => kernel_rfl) (by as_aux_lemma => kernel_rfl) (by as_aux_lemma => kernel_rfl) (fun _ _ _ h => h) (by rfl) ?h0 (by assumption) ?_
          case h0 => intro w hSw; go_simp; try with_reducible rfl
          simp only [List.setIfInBounds_toArray, List.set_cons_zero, List.set_cons_succ]
          refine Ord.take (i := 1) (d := 80) (v := .bool false) rfl rfl (by as_aux_lemma => kernel_rfl) (by as_aux_lemma => kernel_rfl) (by as_aux_lemma => kernel_rfl) (fun _ _ _ h => h) (by rfl) ?h1 (by assumption) ?_
          case h1 => intro w hSw; go_simp; try with_reducible rfl
          simp only [List.setIfInBounds_toArray, List.set_cons_zero, List.set_cons_succ]
          refine Ord.take (i := 2) (d := 81) (v := ?v2qz) rfl rfl (by as_aux_lemma => kernel_rfl) (by as_aux_lemma => kernel_rfl) (by as_aux_lemma => kernel_rfl) (fun _ _ _ h => h) (by rfl) ?h2 (by assumption) ?_
          case h2 => intro w hSw; go_simp; try with_reducible rfl
          simp only [List.setIfInBounds_toArray, List.set_cons_zero, List.set_cons_succ]
          refine Ord.take (i := 3) (d := 82) (v := .agg (arr .u8 E)) rfl rfl (by as_aux_lemma => kernel_rfl) (by as_aux_lemma => kernel_rfl) (by as_aux_lemma => kernel_rfl) (fun _ _ _ h => h) (by rfl) ?h3 (by assumption) ?_
          case h3 => exact fun w hSw => run_load_op (p := .pointer (some ⟨w9.heap.size, 0, none⟩)) rfl rfl (L10 w hSw)
          simp only [List.setIfInBounds_toArray, List.set_cons_zero, List.set_cons_succ]
          refine Ord.take (i := 5) (d := 84) (v := ?v5qz) rfl rfl (by as_aux_lemma => kernel_rfl) (by as_aux_lemma => kernel_rfl) (by as_aux_lemma => kernel_rfl) (fun _ _ _ h => h) (by rfl) ?h5 (by assumption) ?_
          case h5 => intro w hSw; go_simp; try with_reducible rfl
          simp only [List.setIfInBounds_toArray, List.set_cons_zero, List.set_cons_succ]
          refine Ord.take (i := 6) (d := 85) (v := ?v6qz) rfl rfl (by as_aux_lemma => kernel_rfl) (by as_aux_lemma => kernel_rfl) (by as_aux_lemma => kernel_rfl) (fun _ _ _ h => h) (by rfl) ?h6 (by assumption) ?_
          case h6 => intro w hSw; go_simp; try with_reducible rfl
          simp only [List.setIfInBounds_toArray, List.set_cons_zero, List.set_cons_succ]
          refine Ord.take (i := 7) (d := 86) (v := .int .i64 ((k : Int) + 1)) rfl rfl (by as_aux_lemma => kernel_rfl) (by as_aux_lemma => kernel_rfl) (by as_aux_lemma => kernel_rfl) (fun _ _ _ h => h) (by rfl) ?h7 (by assumption) ?_
          case h7 => intro w hSw; go_simp; try with_reducible rfl
          simp only [List.setIfInBounds_toArray, List.set_cons_zero, List.set_cons_succ]
          refine Ord.take (i := 8) (d := 87) (v := .slice (some ⟨bb, off, none⟩) (k + 1) c1) rfl rfl (by as_aux_lemma => kernel_rfl) (by as_aux_lemma => kernel_rfl) (by as_aux_lemma => kernel_rfl) (fun _ _ _ h => h) (by rfl) ?h8 (by assumption) ?_
          case h8 => intro w hSw; go_simp; try with_reducible rfl
          simp only [List.setIfInBounds_toArray, List.set_cons_zero, List.set_cons_succ]
          refine Ord.take (i := 10) (d := 89) (v := ?v10qz) rfl rfl (by as_aux_lemma => kernel_rfl) (by as_aux_lemma => kernel_rfl) (by as_aux_lemma => kernel_rfl) (fun _ _ _ h => h) (by rfl) ?h10 (by assumption) ?_
          case h10 => intro w hSw; go_simp; try with_reducible rfl
          simp only [List.setIfInBounds_toArray, List.set_cons_zero, List.set_cons_succ]
          refine wpAnyH_ready (rs := [4, 11]) (by as_aux_lemma => kernel_rfl) (by simp) (AllReadyH.cons rfl (fun K hK => ?_) (AllReadyH.cons rfl (fun K hK => ?_) AllReadyH.nil))
          · go_simp
            have hb15 := bel_alloc wE (.cells #[] 35)
            have hS15 := Bn hSE hb15
            have hzz15 : (wE.alloc (.cells #[] 35)).heap.size = wE.heap.size + 1 := by simp
            have hy15 := hSE.size
            have hww15 : wE.heap.size < (wE.alloc (.cells #[] 35)).heap.size := by omega
            have ho15 := World.ownsRow_lit (base := wB.heap.size) (e := 35) (size := 1) wE #[] 0 hy15 (by unfold maxLen; omega) rfl
            refine hK.out _ _ hS15 (fun _ => ?_)
            clear hK K
            generalize hx15 : wE.alloc (.cells #[] 35) = x15 at *
            clear hx15 hb15 hzz15
            refine wpAnyH_ready (rs := [9, 11]) (by as_aux_lemma => kernel_rfl) (by simp) (AllReadyH.cons rfl (fun K hK => ?_) (AllReadyH.cons rfl (fun K hK => ?_) AllReadyH.nil))
            · have hu16 : ∀ (j : Nat) (u : Value), vals[j]? = some u → x15.cell? (Addr.add ⟨bb, off, none⟩ j) = some u := fun j u hu => ((hS15.cell (p := Addr.add ⟨bb, off, none⟩ j) (by rw [add_block]; exact Nat.lt_of_lt_of_le hbb hw1B)).trans (HVC.out j u hu))
              have hy16 := hS15.size
              refine wp_append_own _ (.tmp 83) (.tmp 87) 22 rfl wB.heap.size 35 i0 (.slice none 0 0) 1 24 Tryd.underlying22 hi hz0 hz1 hz2 rfl (by decide) _ _ _ rfl ho15 ⟨bb, off, none⟩ (k + 1) c1 vals rfl HVL.out hu16 HV1.out hq3 hq4 hy16 ?_
              intro v16 x16 ho16 hg16 _
              have hS16 := hS15.grown hg16 hy16 (fun j hj => (ho15.lt j hj).1)
              refine hK.out _ _ hS16 (fun _ => ?_)
              clear hK K hg16 hu16
              refine put_slot (d := 88) rfl ?_
              simp only [List.setIfInBounds_toArray, List.set_cons_zero, List.set_cons_succ]
              refine wpAnyH_ready (rs := [11]) (by as_aux_lemma => kernel_rfl) (by simp) (AllReadyH.cons rfl (fun K hK => ?_) AllReadyH.nil)
              go_simp
              have hb17 := bel_alloc x16 (.cells #[.slice b zn capb] 35)
              have hS17 := Bn hS16 hb17
              have hzz17 : (x16.alloc (.cells #[.slice b zn capb] 35)).heap.size = x16.heap.size + 1 := by simp
              have hy17 := hS16.size
              have hww17 : x16.heap.size < (x16.alloc (.cells #[.slice b zn capb] 35)).heap.size := by omega
              have hc17 := World.cell?_alloc_mark x16 #[.slice b zn capb] 35 (0, 0) 0
              have hd17 : x16.heap.size < (x16.alloc (.cells #[.slice b zn capb] 35)).heap.size := by omega
              have ho17 := own_rows_later ho16 hb17
              refine hK.out _ _ hS17 (fun _ => ?_)
              clear hK K
              generalize hx17 : x16.alloc (.cells #[.slice b zn capb] 35) = x17 at *
              clear hx17 hb17 hzz17
              refine wpAnyH_ready (rs := [12]) (by as_aux_lemma => kernel_rfl) (by simp) (AllReadyH.cons rfl (fun K hK => ?_) AllReadyH.nil)
              have hu18 : ∀ (j : Nat) (u : Value), [Value.slice b zn capb][j]? = some u → x17.cell? (Addr.add ⟨x16.heap.size, 0, none⟩ j) = some u := fun j u hu => by match j, hu with | 0, hu => simp at hu; subst hu; rw [add_plain0]; exact hc17
              have hy18 := hS17.size
              refine wp_append_own _ (.tmp 88) (.tmp 90) 22 rfl wB.heap.size 35 i0 (.slice none 0 0) 1 24 Tryd.underlying22 hi hz0 hz1 hz2 rfl (by decide) _ _ _ rfl ho17 ⟨x16.heap.size, 0, none⟩ 1 1 [.slice b zn capb] rfl rfl hu18 (row_cell _ _ _) hq5 hq6 hy18 ?_
              intro v18 x18 ho18 hg18 _
              have hS18 := hS17.grown hg18 hy18 (fun j hj => (ho17.lt j hj).1)
              obtain ⟨p18, r18, hv18, hps18⟩ := ps_own (v := v18) HVV.out (by rw [HVM.out]; simpa only [List.nil_append, Nat.zero_add] using ho18) hS18
              rw [HVM.out] at hv18
              subst hv18
              have hsm18 := sum_ref p18 r18 _ x18 hps18 (by rw [HVF.out]; omega)
              rw [HVM.out, HVF.out, HEE.out] at hsm18
              have HSM18 := hid hsm18
              refine hK.out _ _ hS18 (fun _ => ?_)
              clear hK K hg18 hu18 hsm18 hps18 ho18
              refine put_slot (d := 91) rfl ?_
              simp only [List.setIfInBounds_toArray, List.set_cons_zero, List.set_cons_succ]
              refine wpAnyH_ready (rs := [13]) (by as_aux_lemma => kernel_rfl) (by simp) (AllReadyH.cons rfl (fun K hK => ?_) AllReadyH.nil)
              go_simp
              refine HSM18.out.mono ?_
              rintro _ x19 ⟨rfl, hb19⟩
              have hS19 := Bn hS18 hb19
              refine hK.out _ _ hS19 (fun _ => ?_)
              clear hK K hb19
              refine Ord.take (i := 14) (d := 93) (v := .bool false) rfl rfl (by as_aux_lemma => kernel_rfl) (by as_aux_lemma => kernel_rfl) (by as_aux_lemma => kernel_rfl) (fun _ _ _ h => h) (by rfl) ?h14 (by assumption) ?_
              case h14 => exact fun w _ => run_neq_op rfl rfl rfl hg (hq2 w)
              simp only [List.setIfInBounds_toArray, List.set_cons_zero, List.set_cons_succ]
              refine Ord.take (i := 15) (d := 94) (v := .bool false) rfl rfl (by as_aux_lemma => kernel_rfl) (by as_aux_lemma => kernel_rfl) (by as_aux_lemma => kernel_rfl) (fun _ _ _ h => h) (by rfl) ?h15 (by assumption) ?_
              case h15 => intro w hSw; go_simp; try with_reducible rfl
              simp only [List.setIfInBounds_toArray, List.set_cons_zero, List.set_cons_succ]
              refine wpAnyH_done (by as_aux_lemma => kernel_rfl) ?_ _
              have HF := hid (HHG.out _ hS19)
              have HFB := hid (Bn10 _ hS19)
              have hszz := hS19.size
              clear hSE L10
              go_wp2
              exact ⟨⟨k + 1, op1, by omega, by go_num, by rw [HMS.out]; exact HF.out, HFB.out, by omega⟩, by simp [intOf]; omega⟩
            · go_simp
              have hb20 := bel_alloc x15 (.cells #[.slice b zn capb] 35)
              have hS20 := Bn hS15 hb20
              have hzz20 : (x15.alloc (.cells #[.slice b zn capb] 35)).heap.size = x15.heap.size + 1 := by simp
              have hy20 := hS15.size
              have hww20 : x15.heap.size < (x15.alloc (.cells #[.slice b zn capb] 35)).heap.size := by omega
              have hc20 := World.cell?_alloc_mark x15 #[.slice b zn capb] 35 (0, 0) 0
              have hd20 : x15.heap.size < (x15.alloc (.cells #[.slice b zn capb] 35)).heap.size := by omega
              have ho20 := own_rows_later ho15 hb20
              refine hK.out _ _ hS20 (fun _ => ?_)
              clear hK K
              generalize hx20 : x15.alloc (.cells #[.slice b zn capb] 35) = x20 at *
              clear hx20 hb20 hzz20
              refine wpAnyH_ready (rs := [9]) (by as_aux_lemma => kernel_rfl) (by simp) (AllReadyH.cons rfl (fun K hK => ?_) AllReadyH.nil)
              have hu21 : ∀ (j : Nat) (u : Value), vals[j]? = some u → x20.cell? (Addr.add ⟨bb, off, none⟩ j) = some u := fun j u hu => ((hS20.cell (p := Addr.add ⟨bb, off, none⟩ j) (by rw [add_block]; exact Nat.lt_of_lt_of_le hbb hw1B)).trans (HVC.out j u hu))
              have hy21 := hS20.size
              refine wp_append_own _ (.tmp 83) (.tmp 87) 22 rfl wB.heap.size 35 i0 (.slice none 0 0) 1 24 Tryd.underlying22 hi hz0 hz1 hz2 rfl (by decide) _ _ _ rfl ho20 ⟨bb, off, none⟩ (k + 1) c1 vals rfl HVL.out hu21 HV1.out hq3 hq4 hy21 ?_
              intro v21 x21 ho21 hg21 _
              have hS21 := hS20.grown hg21 hy21 (fun j hj => (ho20.lt j hj).1)
              have hc21 : x21.cell? ⟨x15.heap.size, 0, none⟩ = some (.slice b zn capb) := by rw [World.cell?_of_block (w := x20) (hg21.block x15.heap.size hd20 (fun h => absurd (show x15.heap.size = wE.heap.size by injection h) (by omega)))]; exact hc20
              have hd21 : x15.heap.size < x21.heap.size := Nat.lt_of_lt_of_le hd20 hg21.size
              refine hK.out _ _ hS21 (fun _ => ?_)
              clear hK K hg21 hu21
              refine put_slot (d := 88) rfl ?_
              simp only [List.setIfInBounds_toArray, List.set_cons_zero, List.set_cons_succ]
              refine wpAnyH_ready (rs := [12]) (by as_aux_lemma => kernel_rfl) (by simp) (AllReadyH.cons rfl (fun K hK => ?_) AllReadyH.nil)
              have hu22 : ∀ (j : Nat) (u : Value), [Value.slice b zn capb][j]? = some u → x21.cell? (Addr.add ⟨x15.heap.size, 0, none⟩ j) = some u := fun j u hu => by match j, hu with | 0, hu => simp at hu; subst hu; rw [add_plain0]; exact hc21
              have hy22 := hS21.size
              refine wp_append_own _ (.tmp 88) (.tmp 90) 22 rfl wB.heap.size 35 i0 (.slice none 0 0) 1 24 Tryd.underlying22 hi hz0 hz1 hz2 rfl (by decide) _ _ _ rfl ho21 ⟨x15.heap.size, 0, none⟩ 1 1 [.slice b zn capb] rfl rfl hu22 (row_cell _ _ _) hq5 hq6 hy22 ?_
              intro v22 x22 ho22 hg22 _
              have hS22 := hS21.grown hg22 hy22 (fun j hj => (ho21.lt j hj).1)
              obtain ⟨p22, r22, hv22, hps22⟩ := ps_own (v := v22) HVV.out (by rw [HVM.out]; simpa only [List.nil_append, Nat.zero_add] using ho22) hS22
              rw [HVM.out] at hv22
              subst hv22
              have hsm22 := sum_ref p22 r22 _ x22 hps22 (by rw [HVF.out]; omega)
              rw [HVM.out, HVF.out, HEE.out] at hsm22
              have HSM22 := hid hsm22
              refine hK.out _ _ hS22 (fun _ => ?_)
              clear hK K hg22 hu22 hsm22 hps22 ho22
              refine put_slot (d := 91) rfl ?_
              simp only [List.setIfInBounds_toArray, List.set_cons_zero, List.set_cons_succ]
              refine wpAnyH_ready (rs := [13]) (by as_aux_lemma => kernel_rfl) (by simp) (AllReadyH.cons rfl (fun K hK => ?_) AllReadyH.nil)
              go_simp
              refine HSM22.out.mono ?_
              rintro _ x23 ⟨rfl, hb23⟩
              have hS23 := Bn hS22 hb23
              refine hK.out _ _ hS23 (fun _ => ?_)
              clear hK K hb23
              refine Ord.take (i := 14) (d := 93) (v := .bool false) rfl rfl (by as_aux_lemma => kernel_rfl) (by as_aux_lemma => kernel_rfl) (by as_aux_lemma => kernel_rfl) (fun _ _ _ h => h) (by rfl) ?h14 (by assumption) ?_
              case h14 => exact fun w _ => run_neq_op rfl rfl rfl hg (hq2 w)
              simp only [List.setIfInBounds_toArray, List.set_cons_zero, List.set_cons_succ]
              refine Ord.take (i := 15) (d := 94) (v := .bool false) rfl rfl (by as_aux_lemma => kernel_rfl) (by as_aux_lemma => kernel_rfl) (by as_aux_lemma => kernel_rfl) (fun _ _ _ h => h) (by rfl) ?h15 (by assumption) ?_
              case h15 => intro w hSw; go_simp; try with_reducible rfl
              simp only [List.setIfInBounds_toArray, List.set_cons_zero, List.set_cons_succ]
              refine wpAnyH_done (by as_aux_lemma => kernel_rfl) ?_ _
              have HF := hid (HHG.out _ hS23)
              have HFB := hid (Bn10 _ hS23)
              have hszz := hS23.size
              clear hSE L10
              go_wp2
              exact ⟨⟨k + 1, op1, by omega, by go_num, by rw [HMS.out]; exact HF.out, HFB.out, by omega⟩, by simp [intOf]; omega⟩
          · go_simp
            have hb24 := bel_alloc wE (.cells #[.slice b zn capb] 35)
            have hS24 := Bn hSE hb24
            have hzz24 : (wE.alloc (.cells #[.slice b zn capb] 35)).heap.size = wE.heap.size + 1 := by simp
            have hy24 := hSE.size
            have hww24 : wE.heap.size < (wE.alloc (.cells #[.slice b zn capb] 35)).heap.size := by omega
            have hc24 := World.cell?_alloc_mark wE #[.slice b zn capb] 35 (0, 0) 0
            have hd24 : wE.heap.size < (wE.alloc (.cells #[.slice b zn capb] 35)).heap.size := by omega
            refine hK.out _ _ hS24 (fun _ => ?_)
            clear hK K
            generalize hx24 : wE.alloc (.cells #[.slice b zn capb] 35) = x24 at *
            clear hx24 hb24 hzz24
            refine wpAnyH_ready (rs := [4]) (by as_aux_lemma => kernel_rfl) (by simp) (AllReadyH.cons rfl (fun K hK => ?_) AllReadyH.nil)
            go_simp
            have hb25 := bel_alloc x24 (.cells #[] 35)
            have hS25 := Bn hS24 hb25
            have hzz25 : (x24.alloc (.cells #[] 35)).heap.size = x24.heap.size + 1 := by simp
            have hy25 := hS24.size
            have hww25 : x24.heap.size < (x24.alloc (.cells #[] 35)).heap.size := by omega
            have ho25 := World.ownsRow_lit (base := wB.heap.size) (e := 35) (size := 1) x24 #[] 0 hy25 (by unfold maxLen; omega) rfl
            have hc25 := (hb25.cell (p := ⟨wE.heap.size, 0, none⟩) hd24).trans hc24
            have hd25 : wE.heap.size < (x24.alloc (.cells #[] 35)).heap.size := by rw [hzz25]; exact Nat.lt_succ_of_lt hd24
            refine hK.out _ _ hS25 (fun _ => ?_)
            clear hK K
            generalize hx25 : x24.alloc (.cells #[] 35) = x25 at *
            clear hx25 hb25 hzz25
            refine wpAnyH_ready (rs := [9]) (by as_aux_lemma => kernel_rfl) (by simp) (AllReadyH.cons rfl (fun K hK => ?_) AllReadyH.nil)
            have hu26 : ∀ (j : Nat) (u : Value), vals[j]? = some u → x25.cell? (Addr.add ⟨bb, off, none⟩ j) = some u := fun j u hu => ((hS25.cell (p := Addr.add ⟨bb, off, none⟩ j) (by rw [add_block]; exact Nat.lt_of_lt_of_le hbb hw1B)).trans (HVC.out j u hu))
            have hy26 := hS25.size
            refine wp_append_own _ (.tmp 83) (.tmp 87) 22 rfl wB.heap.size 35 i0 (.slice none 0 0) 1 24 Tryd.underlying22 hi hz0 hz1 hz2 rfl (by decide) _ _ _ rfl ho25 ⟨bb, off, none⟩ (k + 1) c1 vals rfl HVL.out hu26 HV1.out hq3 hq4 hy26 ?_
            intro v26 x26 ho26 hg26 _
            have hS26 := hS25.grown hg26 hy26 (fun j hj => (ho25.lt j hj).1)
            have hc26 : x26.cell? ⟨wE.heap.size, 0, none⟩ = some (.slice b zn capb) := by rw [World.cell?_of_block (w := x25) (hg26.block wE.heap.size hd25 (fun h => absurd (show wE.heap.size = x24.heap.size by injection h) (by omega)))]; exact hc25
            have hd26 : wE.heap.size < x26.heap.size := Nat.lt_of_lt_of_le hd25 hg26.size
            refine hK.out _ _ hS26 (fun _ => ?_)
            clear hK K hg26 hu26
            refine put_slot (d := 88) rfl ?_
            simp only [List.setIfInBounds_toArray, List.set_cons_zero, List.set_cons_succ]
            refine wpAnyH_ready (rs := [12]) (by as_aux_lemma => kernel_rfl) (by simp) (AllReadyH.cons rfl (fun K hK => ?_) AllReadyH.nil)
            have hu27 : ∀ (j : Nat) (u : Value), [Value.slice b zn capb][j]? = some u → x26.cell? (Addr.add ⟨wE.heap.size, 0, none⟩ j) = some u := fun j u hu => by match j, hu with | 0, hu => simp at hu; subst hu; rw [add_plain0]; exact hc26
            have hy27 := hS26.size
            refine wp_append_own _ (.tmp 88) (.tmp 90) 22 rfl wB.heap.size 35 i0 (.slice none 0 0) 1 24 Tryd.underlying22 hi hz0 hz1 hz2 rfl (by decide) _ _ _ rfl ho26 ⟨wE.heap.size, 0, none⟩ 1 1 [.slice b zn capb] rfl rfl hu27 (row_cell _ _ _) hq5 hq6 hy27 ?_
            intro v27 x27 ho27 hg27 _
            have hS27 := hS26.grown hg27 hy27 (fun j hj => (ho26.lt j hj).1)
            obtain ⟨p27, r27, hv27, hps27⟩ := ps_own (v := v27) HVV.out (by rw [HVM.out]; simpa only [List.nil_append, Nat.zero_add] using ho27) hS27
            rw [HVM.out] at hv27
            subst hv27
            have hsm27 := sum_ref p27 r27 _ x27 hps27 (by rw [HVF.out]; omega)
            rw [HVM.out, HVF.out, HEE.out] at hsm27
            have HSM27 := hid hsm27
            refine hK.out _ _ hS27 (fun _ => ?_)
            clear hK K hg27 hu27 hsm27 hps27 ho27
            refine put_slot (d := 91) rfl ?_
            simp only [List.setIfInBounds_toArray, List.set_cons_zero, List.set_cons_succ]
            refine wpAnyH_ready (rs := [13]) (by as_aux_lemma => kernel_rfl) (by simp) (AllReadyH.cons rfl (fun K hK => ?_) AllReadyH.nil)
            go_simp
            refine HSM27.out.mono ?_
            rintro _ x28 ⟨rfl, hb28⟩
            have hS28 := Bn hS27 hb28
            refine hK.out _ _ hS28 (fun _ => ?_)
            clear hK K hb28
            refine Ord.take (i := 14) (d := 93) (v := .bool false) rfl rfl (by as_aux_lemma => kernel_rfl) (by as_aux_lemma => kernel_rfl) (by as_aux_lemma => kernel_rfl) (fun _ _ _ h => h) (by rfl) ?h14 (by assumption) ?_
            case h14 => exact fun w _ => run_neq_op rfl rfl rfl hg (hq2 w)
            simp only [List.setIfInBounds_toArray, List.set_cons_zero, List.set_cons_succ]
            refine Ord.take (i := 15) (d := 94) (v := .bool false) rfl rfl (by as_aux_lemma => kernel_rfl) (by as_aux_lemma => kernel_rfl) (by as_aux_lemma => kernel_rfl) (fun _ _ _ h => h) (by rfl) ?h15 (by assumption) ?_
            case h15 => intro w hSw; go_simp; try with_reducible rfl
            simp only [List.setIfInBounds_toArray, List.set_cons_zero, List.set_cons_succ]
            refine wpAnyH_done (by as_aux_lemma => kernel_rfl) ?_ _
            have HF := hid (HHG.out _ hS28)
            have HFB := hid (Bn10 _ hS28)
            have hszz := hS28.size
            clear hSE L10
            go_wp2
            exact ⟨⟨k + 1, op1, by omega, by go_num, by rw [HMS.out]; exact HF.out, HFB.out, by omega⟩, by simp [intOf]; omega⟩
        · have heq' : ¬ (k : Int) = at_ := heq
          clear heq
          go_wp2
          exact ⟨⟨k + 1, op1, by omega, by go_num, (by rw [HMS.out]; exact HS6.out), HB6.out, hgw6⟩, by simp [intOf]; omega⟩
      · obtain rfl : k = mn := by omega
        have hkn : ¬ (k : Int) < (k : Int) := by omega
        have hB1 : Below w1.heap.size w1 wr := by rw [HGG.out]; exact HBL.out
        have HA := hid (alive_any wr (HL1.out.later hB1))
        have HE := hid (Bn HB1.out hB1)
        go_wp2_with fail
        go_at_call 12
        refine HA.out.mono ?_
        rintro _ w9 ⟨rfl, hb9⟩
        have HF := hid (Bn HE.out hb9)
        clear hb9
        go_wp2
        go_ret
        exact ⟨rfl, HF.out⟩

set_option maxRecDepth 100000 in
theorem lifted (os : Os) (started : os.Started) (H : Type) (enc : TypeId × Value → H) :
    ReturnsInHanded {} Tryd.checked os 6 .any (fun w args => (Rows.shaPiecesSpec.pre enc Tryd.prog Tryd.f6 [] false w args ∧ laidMetH Tryd.prog laidL w) ∧ sizedMet enc Tryd.prog Tryd.f6 (OpenSpec.ofChange Rows.shaPiecesSpec) false w args)
      (Rows.shaPiecesSpec.post enc Tryd.prog Tryd.f6 false true false false) := by
  refine returnsInHanded_of_change_and (C := Tryd.checked) (X := fun w _ => laidMetH Tryd.prog laidL w) (fun _ _ _ hh h => h.of_heap hh) own started (by kernel_rfl) Tryd.func6
    (ChangeSpec.witness_shaped (enc := enc) (C := Tryd.checked) (os := os) (X := fun w _ => laidMetH Tryd.prog laidL w) false (World.doorLaid Tryd.prog 400 os) #[.slice none 0 0, .int .i64 0, .slice none 0 0] 8 rfl (World.shaped_of_RefB (by kernel_rfl) (by kernel_rfl)) (by kernel_rfl) (by kernel_rfl) (by kernel_rfl) (door_met os _)) ?_
  intro W base args ds gs before hval0 hW _ _ hL _
  have hval : ∀ (j : Nat) t v, Tryd.f6.params[j]? = some t → args[j]? = some v → Value.okWide Tryd.prog W .any base t v := hval0
  have hW' := hW
  obtain ⟨p, q, hA0, hV, rfl, _, _⟩ := hW
  have hA : DataW.TrodAll enc Tryd.prog W 0 (fun _ => true) true Tryd.f6.params.toList args.toList ds p := hA0
  rw [Tryd.params6] at hA hval
  obtain ⟨v0, vs0, d0, ds0, p0, q0, hargs, rfl, rfl, h0, r0⟩ := trodAll_cons hA
  obtain ⟨v1, vs1, d1, ds1, p1, q1, rfl, rfl, rfl, h1, r1⟩ := trodAll_cons r0
  obtain ⟨v2, vs2, d2, ds2, p2, q2, rfl, rfl, rfl, h2, r2⟩ := trodAll_cons r1
  obtain ⟨rfl, rfl, rfl⟩ := trodAll_nil r2
  obtain rfl : args = #[v0, v1, v2] := by cases args; simp_all
  obtain ⟨rfl, rfl⟩ := trodVars_none hV
  have hlaid := of_laid hL
  obtain ⟨a1, rfl, rfl, rfl, w1⟩ := open_int Tryd.underlying3 (hval 1 3 v1 rfl rfl) h1
  clear hA0
  simp only [List.append_nil, List.nil_append] at hW'
  have hlt0 : ∀ x ∈ p0, x.block < W.heap.size := fun x hx => hW'.lt x (by simp [hx])
  have hk0 := h0
  obtain ⟨a0, cap0, l0, rfl, hr0⟩ := open_ps (hval 0 22 v0 rfl rfl) h0 hlt0
  have hlt2 : ∀ x ∈ p2, x.block < W.heap.size := fun x hx => hW'.lt x (by simp [hx])
  have hk2 := h2
  obtain ⟨a2, cap2, zs2, rfl, hr2⟩ := open_rd (hval 2 35 v2 rfl rfl) h2 hlt2
  clear hval0
  refine (walk a0 cap0 l0 a1 a2 cap2 zs2 W hlaid hr0 hr2).mono fun e W' ⟨he, hb⟩ => ?_
  subst he
  exact ⟨_, rfl, _, _, _, [] ++ [], _, [], hW', trodAll_cons_mk (shut_bool Tryd.underlying4 _) trodAll_mk0, (trodAll_cons_mk (Below.trod Tryd.laidOut (by kernel_rfl) (of_decide_eq_true (by kernel_rfl)) hk0 hb hlt0) (trodAll_cons_mk (shut_int Tryd.underlying3 w1) (trodAll_cons_mk (Below.trod Tryd.laidOut (by kernel_rfl) (of_decide_eq_true (by kernel_rfl)) hk2 hb hlt2) trodAll_mk0))), rfl, hb.frame _, fun h => by cases h⟩

theorem over : Rows.shaPiecesRow.holds Tryd.pinned (OpenSpec.ofChange Rows.shaPiecesSpec) :=
  OpenClaim.holds_of_wide 6 Tryd.f6 rfl rfl rfl rfl rfl rfl rfl ⟨rfl, rfl, rfl, rfl, rfl⟩ rfl rfl rfl rfl rfl (by kernel_rfl) Tryd.func6 (by kernel_rfl)
    (of_decide_eq_true (by kernel_rfl)) (by unfold Func.isWrapper; first | (rw [if_pos (by decide +kernel)]; kernel_rfl) | (rw [if_neg (by decide +kernel)]; exact ⟨rfl, rfl⟩))
    (fun os started H enc _ => lifted os started H enc)

theorem card : Rows.ShaPiecesCardSaid :=
  Claim7.holds_tied_plain_at .later [] [.data, .data] true (true, "6c6f4a323530e6db23c53d62cf6eb094d8017c5b4fd6273f756ed505cd0c3c11") false
    over (fun _ h => by cases h) (by kernel_rfl) (fun _ h => by cases h) shaPieces_row_tie rfl ⟨rfl, rfl⟩ (by kernel_rfl) rfl
    (fun f fn hf hfn => by
      obtain rfl : f = 6 := Option.some.inj ((show Tryd.prog.funcNamed "saltern/salternlaw03.ShaPieces" = some 6 by kernel_rfl).symm.trans hf) |>.symm
      obtain rfl : fn = Tryd.f6 := (Option.some.inj (Tryd.func6.symm.trans hfn)).symm
      exact ⟨by kernel_rfl, fun j t ht => by
        rw [Tryd.params6] at ht
        have hm : t ∈ [22, 3, 35] := by simpa using Array.mem_of_getElem? ht
        have hall : ([22, 3, 35].all fun u => !Tryd.prog.wantsStandIn u) = true := by kernel_rfl
        exact (show Tryd.prog.wantsStandIn t = false by simpa using List.all_eq_true.1 hall t hm)⟩)
    (by kernel_rfl)

end Go.Proofs.YtkehhlbbnlnbcaaDoor.shaPieces
namespace Go.Proofs.YtkehhlbbnlnbcaaDoor
theorem shaPieces_holds : Rows.ShaPiecesCardSaid := shaPieces.card
#print axioms shaPieces_holds
end Go.Proofs.YtkehhlbbnlnbcaaDoor
