/-
  The contract of lz's Tokens.
-/
import Derived.Test.YtgdlmhgjhmcilabRefTok
namespace Go.Proofs.Ytgdlmhgjhmcilab
open Go.RowKit Go.Shelf Lz

/-- A row of tokens lies in neither of the blocks that places are kept in. -/
theorem Pl.apart {W : World} {n₀ g mb pb : Nat} {v : Value} {bs : List Int} {m : Nat} {ps : List Int} (h : Pl W n₀ g mb pb v bs m ps) {x : Value} {n : Nat} {xs : List Value} (ho : W.ownsRow n₀ 34 3 x n xs) : x.ownBlock ≠ some mb ∧ x.ownBlock ≠ some pb := by
  obtain ⟨⟨cur, hp⟩, _⟩ := h.ne1
  obtain ⟨D, ⟨es, clock, hh, _⟩, _⟩ := h.map
  rcases ho.2 with ⟨rfl, _⟩ | ⟨g', cap, cur', rfl, _, hg, _⟩
  · exact ⟨by simp [Value.ownBlock], by simp [Value.ownBlock]⟩
  · constructor
    · intro e
      simp only [Value.ownBlock, Option.some.injEq] at e
      rw [e, hh] at hg
      cases hg
    · intro e
      simp only [Value.ownBlock, Option.some.injEq] at e
      rw [e, hp] at hg
      cases hg

/-- The token at a place, by the places that were seen. -/
theorem longest_seen (bs : List Int) (q n₁ g mb pb gb off cap : Nat) (ps : List Int) (w : World) (h8 : Bytes8 bs) (hP : Pl w n₁ g mb pb (.slice (some ⟨gb, off, none⟩) bs.length cap) bs q ps) (hq : q < bs.length) (hcap : bs.length ≤ cap) (hmx : cap ≤ maxLen) (hL : bs.length ≤ 65536)
    (hgb : gb < w.heap.size) (hc : ∀ j, j < bs.length → w.cell? ⟨gb, off + j, none⟩ = some (.int .u8 (bs.getD j 0))) :
    Calls Try.prog 11 #[.slice (some ⟨gb, off, none⟩) bs.length cap, .int .i64 (q : Int), .func (.func 16) #[] #[.pointer (some ⟨w.heap.size, 0, none⟩), .pointer (some ⟨w.heap.size + 1, 0, none⟩)]] ((w.alloc (.cells #[.pointer (some ⟨g, 0, none⟩)] 37)).alloc (.cells #[.int .i64 (q : Int)] 3)) fun e w' => e = .returned (.agg (tokV (longT bs q))) ∧ Below w.heap.size w w' := by
  have hb := Bn (bel_alloc w (.cells #[.pointer (some ⟨g, 0, none⟩)] 37)) (bel_alloc (w.alloc (.cells #[.pointer (some ⟨g, 0, none⟩)] 37)) (.cells #[.int .i64 (q : Int)] 3))
  have hP2 := hP.below hb
  have e0 := heap_old (w.alloc (.cells #[.pointer (some ⟨g, 0, none⟩)] 37)) (.cells #[.int .i64 (q : Int)] 3) (heap_new w (.cells #[.pointer (some ⟨g, 0, none⟩)] 37))
  have e1 := heap_new (w.alloc (.cells #[.pointer (some ⟨g, 0, none⟩)] 37)) (.cells #[.int .i64 (q : Int)] 3)
  rw [World.size_alloc] at e1
  have hc2 : ∀ j, j < bs.length → ((w.alloc (.cells #[.pointer (some ⟨g, 0, none⟩)] 37)).alloc (.cells #[.int .i64 (q : Int)] 3)).cell? ⟨gb, off + j, none⟩ = some (.int .u8 (bs.getD j 0)) := fun j hj => (hb.cell (p := ⟨gb, off + j, none⟩) hgb).trans (hc j hj)
  have hsz : ((w.alloc (.cells #[.pointer (some ⟨g, 0, none⟩)] 37)).alloc (.cells #[.int .i64 (q : Int)] 3)).heap.size = w.heap.size + 1 + 1 := by simp only [World.size_alloc]
  have h := longest_word bs q gb off cap ((w.alloc (.cells #[.pointer (some ⟨g, 0, none⟩)] 37)).alloc (.cells #[.int .i64 (q : Int)] 3)) hq hcap hmx hL (by omega) hc2
    16 #[.pointer (some ⟨w.heap.size, 0, none⟩), .pointer (some ⟨w.heap.size + 1, 0, none⟩)] (fins q (alikeL bs q) (fun _ hp => alike_lt hp)) (enters_of Try.func16 (by kernel_rfl) rfl)
    (fun W hW => alike_stops bs q n₁ g mb pb gb off cap w.heap.size (w.heap.size + 1) ps _ W h8 hP2 hq hcap hmx hL (by omega) hc2 (Joins.cell_of_block e0 0) (Joins.cell_of_block e1 0) (by omega) (by omega) hW)
  rw [fins_val, longT_alike] at h
  exact h.mono fun e w' ⟨he, hw⟩ => ⟨he, Bn hb hw⟩

set_option maxHeartbeats 1600000 in
set_option maxRecDepth 100000 in
theorem tokens_word (a : Option Addr) (cap : Nat) (bs : List Int) (w : World) (hr : Ri w .u8 a cap bs) :
    Calls Try.prog 7 #[.slice a bs.length cap] w (TksPost bs w) := by
  have hroom := hr.room
  have hmx := hr.most
  have hmost := hr.most
  have h8 : Bytes8 bs := hr.fits
  unfold maxLen at hmost
  have HMX := hid hmx
  have HR := hid hr
  have H8 := hid h8
  clear hr h8 hmx
  unfold TksPost
  by_cases hlong : 65536 < bs.length
  · have HO : Hid (tksO bs = ([], 2)) := by show _ = _; unfold tksO; rw [if_pos hlong]
    have hz0 : (65536 : Int) < (bs.length : Int) := by omega
    generalize bs.length = L at *
    go_enter Try.func7, Try.ntmps7
    go_wp2
    go_ret2
    exact ⟨.slice none 0 0, by rw [HO.out]; rfl, by rw [HO.out]; exact nil_row _ _, Below.refl _ _⟩
  · have HO : Hid (tksO bs = (from_ bs 0, 0)) := by show _ = _; unfold tksO; rw [if_neg hlong, toksL_from]
    have hz0 : ¬ (65536 : Int) < (bs.length : Int) := by omega
    obtain ⟨i0, hi, hi0, hi1, hi2⟩ := info_parts Try.info34
    have HNEW := hid (new_word bs a cap w (by omega))
    have HLG : Hid (∀ q, q < bs.length → ∀ W g mb pb ps, Below w.heap.size w W → Pl W w.heap.size g mb pb (.slice a bs.length cap) bs q ps →
        Calls Try.prog 11 #[.slice a bs.length cap, .int .i64 (q : Int), .func (.func 16) #[] #[.pointer (some ⟨W.heap.size, 0, none⟩), .pointer (some ⟨W.heap.size + 1, 0, none⟩)]] ((W.alloc (.cells #[.pointer (some ⟨g, 0, none⟩)] 37)).alloc (.cells #[.int .i64 (q : Int)] 3)) fun e w' => e = .returned (.agg (tokV (longT bs q))) ∧ Below W.heap.size W w') := fun q hq W g mb pb ps hW hP => by
      obtain ⟨gb, off, rfl, hgw, hc⟩ := (HR.out.later hW).cells (by omega)
      exact longest_seen bs q w.heap.size g mb pb gb off cap ps W H8.out hP hq hroom HMX.out (by omega) hgw hc
    have HADD : Hid (∀ m, m < bs.length → ∀ W g mb pb ps, Below w.heap.size w W → Pl W w.heap.size g mb pb (.slice a bs.length cap) bs m ps →
        Calls Try.prog 13 #[.pointer (some ⟨g, 0, none⟩), .int .i64 (m : Int)] W fun e w' => (∃ v, e = .returned v) ∧ (∃ ps', Pl w' w.heap.size g mb pb (.slice a bs.length cap) bs (m + 1) ps') ∧ Below w.heap.size W w' ∧ But mb pb W w') := fun m hm W g mb pb ps hW hP => by
      obtain ⟨gb, off, rfl, hgw, hc⟩ := (HR.out.later hW).cells (by omega)
      exact add_word bs m w.heap.size g mb pb gb off cap ps W H8.out hP hm hroom HMX.out (by omega) hgw hc
    have HLN : Hid (∀ q, q < bs.length → 1 ≤ (longT bs q).2.1 ∧ q + (longT bs q).2.1 ≤ bs.length ∧ (longT bs q).2.1 ≤ 258) := fun q hq => longT_len bs q hq
    have HST : Hid (∀ q, q < bs.length → from_ bs q = longT bs q :: from_ bs (q + (longT bs q).2.1)) := fun q hq => from_step hq
    have HEN : Hid (∀ q, ¬ q < bs.length → from_ bs q = []) := fun q hq => from_end hq
    obtain ⟨L, hLe⟩ : ∃ L, L = bs.length := ⟨_, rfl⟩
    rw [← hLe] at hz0 hlong hroom HLG HLN HST HEN HNEW HADD ⊢
    clear hLe HR
    go_enter Try.func7, Try.ntmps7
    go_wp2_with fail
    refine HNEW.out.mono ?_
    rintro _ w0 ⟨g, mb, pb, rfl, hP0, hb0⟩
    have HP0 := hid hP0
    have HB0 := hid hb0
    clear HNEW hP0 hb0
    go_wp2_with fail
    go_loopw [4, 6] (fun x4 x6 wr => ∃ (q : Nat) (dn : List Tok) (ps : List Int), q ≤ L ∧ x6 = .int .i64 (q : Int) ∧ dn.length ≤ q ∧ wr.ownsRow w.heap.size 34 3 x4 dn.length (dn.flatMap tokC) ∧ Below w.heap.size w wr ∧ Pl wr w.heap.size g mb pb (.slice a L cap) bs q ps ∧ Hid (from_ bs 0 = dn ++ from_ bs q)) (fun _ x6 _ => L - (intOf x6).toNat)
    case atStart => exact ⟨0, [], _, by omega, rfl, by simp, nil_row _ _, HB0.out, HP0.out, rfl⟩
    case round =>
      clear HP0 HB0
      obtain ⟨q, dn, ps, hq, rfl, hdn, hown, hbel, hP, HF⟩ := hrel
      by_cases hlt : q < L
      · have hqz : (q : Int) < (L : Int) := by omega
        have HC := hid (HLG.out q hlt wr g mb pb ps hbel hP)
        obtain ⟨h1, h2, h3⟩ := HLN.out q hlt
        have HS := hid (HST.out q hlt)
        obtain ⟨⟨x0, x1, x2⟩, ht⟩ : ∃ t, longT bs q = t := ⟨_, rfl⟩
        rw [ht] at HC HS h1 h2 h3
        clear ht
        dsimp only at h1 h2 h3 HS
        have hw0 := hbel.size
        have HPP := hid hP
        clear hP
        go_wp2_with fail
        refine (alike_word g q wr).mono ?_
        rintro _ wz ⟨rfl, rfl⟩
        go_wp2_with fail
        refine HC.out.mono ?_
        rintro _ w1 ⟨rfl, hb1⟩
        simp only [tokV]
        have hown1 := own_later (own_later hown hb1) (bel_alloc w1 (.cells #[.int .i64 (x0 : Int), .int .i64 (x1 : Int), .int .u8 x2] 34))
        have hw1 := hb1.size
        have HNW := hid (fun j u h => tok_new (w1.alloc (.cells #[.int .i64 (x0 : Int), .int .i64 (x1 : Int), .int .u8 x2] 34)) (x0, x1, x2) j u h)
        simp only [World.size_alloc] at HNW
        have eT : (w1.alloc (.cells #[.int .i64 (x0 : Int), .int .i64 (x1 : Int), .int .u8 x2] 34)).heap[w1.heap.size]? = some (.cells #[.int .i64 (x0 : Int), .int .i64 (x1 : Int), .int .u8 x2] 34 (0, 0)) := heap_new _ _
        go_wp2_with (at_builtin; refine wpList_append_own _ rfl _ _ 22 rfl w.heap.size 34 i0 (.agg #[.int .i64 0, .int .i64 0, .int .u8 0]) 3 24 Try.underlying22 hi hi0 hi1 hi2 rfl (by decide) _ _ _ rfl (hown1.alloc _) ⟨w1.heap.size + 1, 0, none⟩ 1 1 (tokC (x0, x1, x2)) rfl rfl HNW.out (tokC_one _) (by unfold maxLen; omega) (by omega) (by simp; omega) ?_)
        intro v' w3 hown3 hgrow3 _
        have hob := own_block hown
        have e3 : Tb w3 w1.heap.size (x0, x1, x2) := by
          refine (hgrow3.block w1.heap.size (by simp; omega) (fun e => ?_)).trans (heap_old _ _ eT)
          have := (hob _ e.symm).2
          omega
        have c1 := e3.c1
        dsimp only at c1
        have hbT := Bn (Bn hb1 (bel_alloc w1 (.cells #[.int .i64 (x0 : Int), .int .i64 (x1 : Int), .int .u8 x2] 34))) (bel_alloc (w1.alloc (.cells #[.int .i64 (x0 : Int), .int .i64 (x1 : Int), .int .u8 x2] 34)) (.cells #[.int .i64 (x0 : Int), .int .i64 (x1 : Int), .int .u8 x2] 34))
        have HB3 : Hid (Below w.heap.size w w3) := (Bn hbel hbT).grown hgrow3 (by simp; omega) (fun g hg => (hob g hg).1)
        have HO3 : Hid (w3.ownsRow w.heap.size 34 3 v' (dn ++ [(x0, x1, x2)]).length ((dn ++ [(x0, x1, x2)]).flatMap tokC)) := by
          show World.ownsRow _ _ _ _ _ _ _
          rw [tokC_snoc, List.length_append]
          exact hown3
        have HP3 : Hid (Pl w3 w.heap.size g mb pb (.slice a L cap) bs q ps) := by
          have hPT := HPP.out.below hbT
          obtain ⟨n1, n2⟩ := HPP.out.apart hown
          have hgl := (Array.getElem?_eq_some_iff.1 hPT.blk).1
          have hng : u4.ownBlock ≠ some g := fun e => by
            have hk := HPP.out.blk
            rcases hown.2 with ⟨hv, _⟩ | ⟨g', cap', cur', hv, _, hg', _⟩
            · rw [hv] at e; cases e
            · rw [hv] at e
              simp only [Value.ownBlock, Option.some.injEq] at e
              rw [e, hk] at hg'
              cases hg'
          exact ⟨(hgrow3.block g hgl (fun e => hng e.symm)).trans hPT.blk, hPT.map.kept hgrow3 (fun e => n1 e.symm), hPT.row.kept hgrow3 (.inr (fun e => n2 e.symm)), hPT.len, hPT.vals, hPT.bg, hPT.bm, hPT.bp⟩
        clear hown3 hgrow3 e3 eT hown1 hown hob HNW HC HPP hbT hb1 hbel
        generalize hdd : dn ++ [(x0, x1, x2)] = dd at *
        have HDD := hid hdd
        clear hdd
        go_wp2_with fail
        clear c1
        go_loopw [6, 29] (fun y6 y29 wi => ∃ (j : Nat) (ps' : List Int), j ≤ x1 ∧ y6 = .int .i64 ((q + j : Nat) : Int) ∧ y29 = .int .i64 (j : Int) ∧ wi.ownsRow w.heap.size 34 3 v' dd.length (dd.flatMap tokC) ∧ Below w.heap.size w wi ∧ Pl wi w.heap.size g mb pb (.slice a L cap) bs (q + j) ps') (fun _ y29 _ => x1 - (intOf y29).toNat)
        case atStart => exact ⟨0, ps, by omega, rfl, rfl, HO3.out, HB3.out, HP3.out⟩
        case round =>
          clear HO3 HB3 HP3
          obtain ⟨j, ps', hj, rfl, rfl, howni, hbi, hPi⟩ := hrel
          by_cases hji : j < x1
          · have hjz : (j : Int) < (x1 : Int) := by omega
            have HA := hid (HADD.out (q + j) (by omega) wr g mb pb ps' hbi hPi)
            obtain ⟨n1, n2⟩ := hPi.apart howni
            have HOI := hid howni
            have HBI := hid hbi
            have hqj : q + j ≤ 65536 := by omega
            have HQ : Hid (((q + j : Nat) : Int) + 1 = ((q + (j + 1) : Nat) : Int)) := by show _ = _; omega
            clear howni hbi hPi
            obtain ⟨m, hm⟩ : ∃ m, m = q + j := ⟨_, rfl⟩
            have HM : Hid (m + 1 = q + (j + 1)) := by show _ = _; omega
            rw [← hm] at HA HQ hqj ⊢
            clear hm
            go_wp2_with fail
            refine HA.out.mono ?_
            rintro _ w5 ⟨⟨v, rfl⟩, ⟨ps2, hP5⟩, hb5, hbut5⟩
            have HO5 := hid (hbut5.row HOI.out n1 n2)
            have HB5 := hid (HBI.out.trans hb5)
            have HP5 := hid hP5
            clear hP5 hb5 hbut5 HA n1 n2
            go_wp2
            exact ⟨⟨j + 1, ps2, by omega, by rw [HQ.out], by go_num, HO5.out, HB5.out, HM.out ▸ HP5.out⟩, by simp [intOf]; omega⟩
          · obtain rfl : j = x1 := by omega
            have hjz : ¬ (j : Int) < (j : Int) := by omega
            go_wp2
            have hdl : dd.length = dn.length + 1 := by rw [← HDD.out]; simp
            exact ⟨⟨q + j, dd, ps', by omega, rfl, by omega, howni, hbi, hPi, hid (by rw [HF.out, HS.out, ← HDD.out]; simp)⟩, by simp [intOf]; omega⟩
      · rw [HEN.out q hlt, List.append_nil] at HF
        have hqz : ¬ (q : Int) < (L : Int) := by omega
        go_wp2
        go_ret2
        exact ⟨_, by rw [HO.out]; rfl, by rw [HO.out, HF.out]; exact hown, hbel⟩
end Go.Proofs.Ytgdlmhgjhmcilab
