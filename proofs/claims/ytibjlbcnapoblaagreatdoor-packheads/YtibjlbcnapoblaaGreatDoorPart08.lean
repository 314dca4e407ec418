/-
 The contract of lz's Tokens.
-/
import Derived.Test.YtibjlbcnapoblaaGreatDoorPart07
import Derived.Deep.Slices
namespace Go.Proofs.YtibjlbcnapoblaaGreatDoor
open Go.RowKit Go.Shelf Lz

theorem Pl.apart {W : World} {n₀ g mb pb : Nat} {v : Value} {bs : List Int} {m : Nat} {ps : List Int} (h : Pl W n₀ g mb pb v bs m ps) {x : Value} {n : Nat} {xs : List Value} (ho : W.ownsRow n₀ 109 3 x n xs) : x.ownBlock ≠ some mb ∧ x.ownBlock ≠ some pb := by
 obtain ⟨⟨cur, hp⟩, _⟩ := h.ne1
 obtain ⟨D, ⟨es, clock, hh, _⟩, _⟩ := h.map
 rcases ho.2 with ⟨rfl, _⟩ | ⟨g', cap, cur', rfl, _, hg, _⟩
 · exact ⟨by simp [Value.ownBlock], by simp [Value.ownBlock]⟩
 · constructor
   · intro e
     simp only [Value.ownBlock, Option.some.injEq] at e
     rw [e, hh] at hg
     cases hg
   · intro e
     simp only [Value.ownBlock, Option.some.injEq] at e
     rw [e, hp] at hg
     cases hg

theorem longest_seen (bs : List Int) (q n₁ g mb pb gb off cap : Nat) (ps : List Int) (w : World) (h8 : Bytes8 bs) (hP : Pl w n₁ g mb pb (.slice (some ⟨gb, off, none⟩) bs.length cap) bs q ps) (hq : q < bs.length) (hcap : bs.length ≤ cap) (hmx : cap ≤ maxLen) (hL : bs.length ≤ 65536)
   (hgb : gb < w.heap.size) (hc : ∀ j, j < bs.length → w.cell? ⟨gb, off + j, none⟩ = some (.int .u8 (bs.getD j 0))) :
   Calls Tryz.prog 97 #[.slice (some ⟨gb, off, none⟩) bs.length cap, .int .i64 (q : Int), .func (.func 126) #[] #[.pointer (some ⟨w.heap.size, 0, none⟩), .pointer (some ⟨w.heap.size + 1, 0, none⟩)]] ((w.alloc (.cells #[.pointer (some ⟨g, 0, none⟩)] 144)).alloc (.cells #[.int .i64 (q : Int)] 3)) fun e w' => e = .returned (.agg (tokV (longT bs q))) ∧ Below w.heap.size w w' := by
 have hb := Bn (bel_allocZ w (.cells #[.pointer (some ⟨g, 0, none⟩)] 144)) (bel_allocZ (w.alloc (.cells #[.pointer (some ⟨g, 0, none⟩)] 144)) (.cells #[.int .i64 (q : Int)] 3))
 have hP2 := hP.below hb
 have e0 := heap_old (w.alloc (.cells #[.pointer (some ⟨g, 0, none⟩)] 144)) (.cells #[.int .i64 (q : Int)] 3) (heap_newZ w (.cells #[.pointer (some ⟨g, 0, none⟩)] 144))
 have e1 := heap_newZ (w.alloc (.cells #[.pointer (some ⟨g, 0, none⟩)] 144)) (.cells #[.int .i64 (q : Int)] 3)
 rw [World.size_alloc] at e1
 have hc2 : ∀ j, j < bs.length → ((w.alloc (.cells #[.pointer (some ⟨g, 0, none⟩)] 144)).alloc (.cells #[.int .i64 (q : Int)] 3)).cell? ⟨gb, off + j, none⟩ = some (.int .u8 (bs.getD j 0)) := fun j hj => (hb.cell (p := ⟨gb, off + j, none⟩) hgb).trans (hc j hj)
 have hsz : ((w.alloc (.cells #[.pointer (some ⟨g, 0, none⟩)] 144)).alloc (.cells #[.int .i64 (q : Int)] 3)).heap.size = w.heap.size + 1 + 1 := by simp only [World.size_alloc]
 have h := longest_word bs q gb off cap ((w.alloc (.cells #[.pointer (some ⟨g, 0, none⟩)] 144)).alloc (.cells #[.int .i64 (q : Int)] 3)) hq hcap hmx hL (by omega) hc2
   126 #[.pointer (some ⟨w.heap.size, 0, none⟩), .pointer (some ⟨w.heap.size + 1, 0, none⟩)] (fins q (alikeL bs q) (fun _ hp => alike_lt hp)) (enters_of Tryz.func126 (by kernel_rfl) rfl)
   (fun W hW => alike_stops bs q n₁ g mb pb gb off cap w.heap.size (w.heap.size + 1) ps _ W h8 hP2 hq hcap hmx hL (by omega) hc2 (Joins.cell_of_block e0 0) (Joins.cell_of_block e1 0) (by omega) (by omega) hW)
 rw [fins_val, longT_alike] at h
 exact h.mono fun e w' ⟨he, hw⟩ => ⟨he, Bn hb hw⟩

set_option maxHeartbeats 1600000 in
set_option maxRecDepth 100000 in
theorem tokens_word (a : Option Addr) (cap : Nat) (bs : List Int) (w : World) (hr : Ri w .u8 a cap bs) :
   Calls Tryz.prog 65 #[.slice a bs.length cap] w (TksPost bs w) := by
 have hroom := hr.room
 have hmx := hr.most
 have hmost := hr.most
 have h8 : Bytes8 bs := hr.fits
 unfold maxLen at hmost
 have HMX := hid hmx
 have HR := hid hr
 have H8 := hid h8
 clear hr h8 hmx
 unfold TksPost
 by_cases hlong : 65536 < bs.length
 · have HO : Hid (tksO bs = ([], 2)) := by show _ = _; unfold tksO; rw [if_pos hlong]
   have hz0 : (65536 : Int) < (bs.length : Int) := by omega
   generalize bs.length = L at *
   go_enter Tryz.func65, Tryz.ntmps65
   go_wp2
   go_ret2
   exact ⟨.slice none 0 0, by rw [HO.out]; rfl, by rw [HO.out]; exact nil_row _ _, Below.refl _ _⟩
 · have HO : Hid (tksO bs = (from_ bs 0, 0)) := by show _ = _; unfold tksO; rw [if_neg hlong, toksL_from]
   have hz0 : ¬ (65536 : Int) < (bs.length : Int) := by omega
   obtain ⟨i0, hi, hi0, hi1, hi2⟩ := info_parts Tryz.info109
   have HNEW := hid (new_word bs a cap w (by omega))
   have HLG : Hid (∀ q, q < bs.length → ∀ W g mb pb ps, Below w.heap.size w W → Pl W w.heap.size g mb pb (.slice a bs.length cap) bs q ps →
       Calls Tryz.prog 97 #[.slice a bs.length cap, .int .i64 (q : Int), .func (.func 126) #[] #[.pointer (some ⟨W.heap.size, 0, none⟩), .pointer (some ⟨W.heap.size + 1, 0, none⟩)]] ((W.alloc (.cells #[.pointer (some ⟨g, 0, none⟩)] 144)).alloc (.cells #[.int .i64 (q : Int)] 3)) fun e w' => e = .returned (.agg (tokV (longT bs q))) ∧ Below W.heap.size W w') := fun q hq W g mb pb ps hW hP => by
     obtain ⟨gb, off, rfl, hgw, hc⟩ := (HR.out.later hW).cells (by omega)
     exact longest_seen bs q w.heap.size g mb pb gb off cap ps W H8.out hP hq hroom HMX.out (by omega) hgw hc
   have HADD : Hid (∀ m, m < bs.length → ∀ W g mb pb ps, Below w.heap.size w W → Pl W w.heap.size g mb pb (.slice a bs.length cap) bs m ps →
       Calls Tryz.prog 99 #[.pointer (some ⟨g, 0, none⟩), .int .i64 (m : Int)] W fun e w' => (∃ v, e = .returned v) ∧ (∃ ps', Pl w' w.heap.size g mb pb (.slice a bs.length cap) bs (m + 1) ps') ∧ Below w.heap.size W w' ∧ But mb pb W w') := fun m hm W g mb pb ps hW hP => by
     obtain ⟨gb, off, rfl, hgw, hc⟩ := (HR.out.later hW).cells (by omega)
     exact add_word bs m w.heap.size g mb pb gb off cap ps W H8.out hP hm hroom HMX.out (by omega) hgw hc
   have HLN : Hid (∀ q, q < bs.length → 1 ≤ (longT bs q).2.1 ∧ q + (longT bs q).2.1 ≤ bs.length ∧ (longT bs q).2.1 ≤ 258) := fun q hq => longT_len bs q hq
   have HST : Hid (∀ q, q < bs.length → from_ bs q = longT bs q :: from_ bs (q + (longT bs q).2.1)) := fun q hq => from_step hq
   have HEN : Hid (∀ q, ¬ q < bs.length → from_ bs q = []) := fun q hq => from_end hq
   obtain ⟨L, hLe⟩ : ∃ L, L = bs.length := ⟨_, rfl⟩
   rw [← hLe] at hz0 hlong hroom HLG HLN HST HEN HNEW HADD ⊢
   clear hLe HR
   go_enter Tryz.func65, Tryz.ntmps65
   go_wp2_with fail
   refine HNEW.out.mono ?_
   rintro _ w0 ⟨g, mb, pb, rfl, hP0, hb0⟩
   have HP0 := hid hP0
   have HB0 := hid hb0
   clear HNEW hP0 hb0
   go_wp2_with fail
   go_loopw [4, 6] (fun x4 x6 wr => ∃ (q : Nat) (dn : List Tok) (ps : List Int), q ≤ L ∧ x6 = .int .i64 (q : Int) ∧ dn.length ≤ q ∧ wr.ownsRow w.heap.size 109 3 x4 dn.length (dn.flatMap tokC) ∧ Below w.heap.size w wr ∧ Pl wr w.heap.size g mb pb (.slice a L cap) bs q ps ∧ Hid (from_ bs 0 = dn ++ from_ bs q)) (fun _ x6 _ => L - (intOf x6).toNat)
   case atStart => exact ⟨0, [], _, by omega, rfl, by simp, nil_row _ _, HB0.out, HP0.out, rfl⟩
   case round =>
     clear HP0 HB0
     obtain ⟨q, dn, ps, hq, rfl, hdn, hown, hbel, hP, HF⟩ := hrel
     by_cases hlt : q < L
     · have hqz : (q : Int) < (L : Int) := by omega
       have HC := hid (HLG.out q hlt wr g mb pb ps hbel hP)
       obtain ⟨h1, h2, h3⟩ := HLN.out q hlt
       have HS := hid (HST.out q hlt)
       obtain ⟨⟨x0, x1, x2⟩, ht⟩ : ∃ t, longT bs q = t := ⟨_, rfl⟩
       rw [ht] at HC HS h1 h2 h3
       clear ht
       dsimp only at h1 h2 h3 HS
       have hw0 := hbel.size
       have HPP := hid hP
       clear hP
       go_wp2_with fail
       refine (alike_word g q wr).mono ?_
       rintro _ wz ⟨rfl, rfl⟩
       go_wp2_with fail
       refine HC.out.mono ?_
       rintro _ w1 ⟨rfl, hb1⟩
       simp only [tokV]
       have hown1 := own_laterZ (own_laterZ hown hb1) (bel_allocZ w1 (.cells #[.int .i64 (x0 : Int), .int .i64 (x1 : Int), .int .u8 x2] 109))
       have hw1 := hb1.size
       have HNW := hid (fun j u h => tok_new (w1.alloc (.cells #[.int .i64 (x0 : Int), .int .i64 (x1 : Int), .int .u8 x2] 109)) (x0, x1, x2) j u h)
       simp only [World.size_alloc] at HNW
       have eT : (w1.alloc (.cells #[.int .i64 (x0 : Int), .int .i64 (x1 : Int), .int .u8 x2] 109)).heap[w1.heap.size]? = some (.cells #[.int .i64 (x0 : Int), .int .i64 (x1 : Int), .int .u8 x2] 109 (0, 0)) := heap_newZ _ _
       go_wp2_with (at_builtin; refine wpList_append_own _ rfl _ _ 81 rfl w.heap.size 109 i0 (.agg #[.int .i64 0, .int .i64 0, .int .u8 0]) 3 24 Tryz.underlying81 hi hi0 hi1 hi2 rfl (by decide) _ _ _ rfl (hown1.alloc _) ⟨w1.heap.size + 1, 0, none⟩ 1 1 (tokC (x0, x1, x2)) rfl rfl HNW.out (tokC_one _) (by unfold maxLen; omega) (by omega) (by simp; omega) ?_)
       intro v' w3 hown3 hgrow3 _
       have hob := own_block hown
       have e3 : Tb w3 w1.heap.size (x0, x1, x2) := by
         refine (hgrow3.block w1.heap.size (by simp; omega) (fun e => ?_)).trans (heap_old _ _ eT)
         have := (hob _ e.symm).2
         omega
       have c1 := e3.c1
       dsimp only at c1
       have hbT := Bn (Bn hb1 (bel_allocZ w1 (.cells #[.int .i64 (x0 : Int), .int .i64 (x1 : Int), .int .u8 x2] 109))) (bel_allocZ (w1.alloc (.cells #[.int .i64 (x0 : Int), .int .i64 (x1 : Int), .int .u8 x2] 109)) (.cells #[.int .i64 (x0 : Int), .int .i64 (x1 : Int), .int .u8 x2] 109))
       have HB3 : Hid (Below w.heap.size w w3) := (Bn hbel hbT).grown hgrow3 (by simp; omega) (fun g hg => (hob g hg).1)
       have HO3 : Hid (w3.ownsRow w.heap.size 109 3 v' (dn ++ [(x0, x1, x2)]).length ((dn ++ [(x0, x1, x2)]).flatMap tokC)) := by
         show World.ownsRow _ _ _ _ _ _ _
         rw [tokC_snoc, List.length_append]
         exact hown3
       have HP3 : Hid (Pl w3 w.heap.size g mb pb (.slice a L cap) bs q ps) := by
         have hPT := HPP.out.below hbT
         obtain ⟨n1, n2⟩ := HPP.out.apart hown
         have hgl := (Array.getElem?_eq_some_iff.1 hPT.blk).1
         have hng : u4.ownBlock ≠ some g := fun e => by
           have hk := HPP.out.blk
           rcases hown.2 with ⟨hv, _⟩ | ⟨g', cap', cur', hv, _, hg', _⟩
           · rw [hv] at e; cases e
           · rw [hv] at e
             simp only [Value.ownBlock, Option.some.injEq] at e
             rw [e, hk] at hg'
             cases hg'
         exact ⟨(hgrow3.block g hgl (fun e => hng e.symm)).trans hPT.blk, hPT.map.kept hgrow3 (fun e => n1 e.symm), hPT.row.kept hgrow3 (.inr (fun e => n2 e.symm)), hPT.len, hPT.vals, hPT.bg, hPT.bm, hPT.bp⟩
       clear hown3 hgrow3 e3 eT hown1 hown hob HNW HC HPP hbT hb1 hbel
       generalize hdd : dn ++ [(x0, x1, x2)] = dd at *
       have HDD := hid hdd
       clear hdd
       go_wp2_with fail
       clear c1
       go_loopw [6, 29] (fun y6 y29 wi => ∃ (j : Nat) (ps' : List Int), j ≤ x1 ∧ y6 = .int .i64 ((q + j : Nat) : Int) ∧ y29 = .int .i64 (j : Int) ∧ wi.ownsRow w.heap.size 109 3 v' dd.length (dd.flatMap tokC) ∧ Below w.heap.size w wi ∧ Pl wi w.heap.size g mb pb (.slice a L cap) bs (q + j) ps') (fun _ y29 _ => x1 - (intOf y29).toNat)
       case atStart => exact ⟨0, ps, by omega, rfl, rfl, HO3.out, HB3.out, HP3.out⟩
       case round =>
         clear HO3 HB3 HP3
         obtain ⟨j, ps', hj, rfl, rfl, howni, hbi, hPi⟩ := hrel
         by_cases hji : j < x1
         · have hjz : (j : Int) < (x1 : Int) := by omega
           have HA := hid (HADD.out (q + j) (by omega) wr g mb pb ps' hbi hPi)
           obtain ⟨n1, n2⟩ := hPi.apart howni
           have HOI := hid howni
           have HBI := hid hbi
           have hqj : q + j ≤ 65536 := by omega
           have HQ : Hid (((q + j : Nat) : Int) + 1 = ((q + (j + 1) : Nat) : Int)) := by show _ = _; omega
           clear howni hbi hPi
           obtain ⟨m, hm⟩ : ∃ m, m = q + j := ⟨_, rfl⟩
           have HM : Hid (m + 1 = q + (j + 1)) := by show _ = _; omega
           rw [← hm] at HA HQ hqj ⊢
           clear hm
           go_wp2_with fail
           refine HA.out.mono ?_
           rintro _ w5 ⟨⟨v, rfl⟩, ⟨ps2, hP5⟩, hb5, hbut5⟩
           have HO5 := hid (hbut5.row HOI.out n1 n2)
           have HB5 := hid (HBI.out.trans hb5)
           have HP5 := hid hP5
           clear hP5 hb5 hbut5 HA n1 n2
           go_wp2
           exact ⟨⟨j + 1, ps2, by omega, by rw [HQ.out], by go_num, HO5.out, HB5.out, HM.out ▸ HP5.out⟩, by simp [intOf]; omega⟩
         · obtain rfl : j = x1 := by omega
           have hjz : ¬ (j : Int) < (j : Int) := by omega
           go_wp2
           have hdl : dd.length = dn.length + 1 := by rw [← HDD.out]; simp
           exact ⟨⟨q + j, dd, ps', by omega, rfl, by omega, howni, hbi, hPi, hid (by rw [HF.out, HS.out, ← HDD.out]; simp)⟩, by simp [intOf]; omega⟩
     · rw [HEN.out q hlt, List.append_nil] at HF
       have hqz : ¬ (q : Int) < (L : Int) := by omega
       go_wp2
       go_ret2
       exact ⟨_, by rw [HO.out]; rfl, by rw [HO.out, HF.out]; exact hown, hbel⟩
end Go.Proofs.YtibjlbcnapoblaaGreatDoor
/-
 Which tokens may be: the contracts of lz's within, kindOf, Check, fault and of the document's Check.
-/
namespace Go.Proofs.YtibjlbcnapoblaaGreatDoor
open Go.RowKit Lz

abbrev Tkz := Int × Int × Int
def zC (t : Tkz) : Array Value := #[.int .i64 t.1, .int .i64 t.2.1, .int .u8 t.2.2]
def litB (t : Tkz) : Bool := t.1 == 0 && t.2.1 == 1
def cpyB (t : Tkz) : Bool := decide (1 ≤ t.1) && (decide (t.1 ≤ 4096) && (decide (4 ≤ t.2.1) && (decide (t.2.1 ≤ 258) && t.2.2 == 0)))
def kindZ (t : Tkz) : Int := if litB t then 1 else if cpyB t then 2 else 0
def chkZ (t : Tkz) : Int := if kindZ t = 0 then 60 else 0
def fltZ (t : Tkz) (n : Int) : Int := if kindZ t = 0 then 60 else if kindZ t = 2 ∧ n < t.1 then 61 else if 65536 < n + t.2.1 then 2 else 0

theorem within_yes (x a b : Int) (w : World) (h1 : a ≤ x) (h2 : x ≤ b) : Calls Tryz.prog 160 #[.int .i64 x, .int .i64 a, .int .i64 b] w fun e w' => e = .returned (.bool true) ∧ w' = w := by
 go_enter Tryz.func160, Tryz.ntmps160
 go_wp2
 go_ret
 exact ⟨rfl, rfl⟩
theorem within_no (x a b : Int) (w : World) (h : ¬ (a ≤ x ∧ x ≤ b)) : Calls Tryz.prog 160 #[.int .i64 x, .int .i64 a, .int .i64 b] w fun e w' => e = .returned (.bool false) ∧ w' = w := by
 by_cases h1 : a ≤ x
 · have h2 : ¬ x ≤ b := fun h' => h ⟨h1, h'⟩
   clear h
   go_enter Tryz.func160, Tryz.ntmps160
   go_wp2
   go_ret
   exact ⟨rfl, rfl⟩
 · clear h
   go_enter Tryz.func160, Tryz.ntmps160
   go_wp2
   go_ret
   exact ⟨rfl, rfl⟩

set_option maxHeartbeats 800000 in
set_option maxRecDepth 100000 in
theorem kind_word (t : Tkz) (w : World) : Calls Tryz.prog 145 #[.agg (zC t)] w fun e w' => e = .returned (.int .i64 (kindZ t)) ∧ Below w.heap.size w w' := by
 obtain ⟨d, n, x⟩ := t
 unfold zC
 by_cases hl : d = 0 ∧ n = 1
 · obtain ⟨rfl, rfl⟩ := hl
   have HK : Hid (kindZ (0, 1, x) = 1) := rfl
   go_enter Tryz.func145, Tryz.ntmps145
   go_wp2
   go_ret
   exact ⟨by rw [HK.out]; rfl, bel_allocZ _ _⟩
 · have hlit : litB (d, n, x) = false := by
     unfold litB
     rw [Bool.eq_false_iff]
     simpa using hl
   have hk0 : kindZ (d, n, x) = if cpyB (d, n, x) then 2 else 0 := by unfold kindZ; rw [hlit]; rfl
   have hcb : cpyB (d, n, x) = (decide (1 ≤ d) && (decide (d ≤ 4096) && (decide (4 ≤ n) && (decide (n ≤ 258) && x == 0)))) := rfl
   have tail : ∀ (hd : 1 ≤ d ∧ d ≤ 4096) (hn : 4 ≤ n ∧ n ≤ 258), kindZ (d, n, x) = if x = 0 then 2 else 0 := fun hd hn => by
     rw [hk0, hcb]
     simp [hd.1, hd.2, hn.1, hn.2]
   have h1no : ¬ (1 ≤ d ∧ d ≤ 4096) → kindZ (d, n, x) = 0 := fun h => by
     rw [hk0, hcb, if_neg]
     simp only [Bool.and_eq_true, decide_eq_true_eq]
     exact fun h' => h ⟨h'.1, h'.2.1⟩
   have h2no : ¬ (4 ≤ n ∧ n ≤ 258) → kindZ (d, n, x) = 0 := fun h => by
     rw [hk0, hcb, if_neg]
     simp only [Bool.and_eq_true, decide_eq_true_eq]
     exact fun h' => h ⟨h'.2.2.1, h'.2.2.2.1⟩
   have HT := hid tail
   have H1 := hid h1no
   have H2 := hid h2no
   clear tail h1no h2no hcb hk0 hlit
   by_cases hd : 1 ≤ d ∧ d ≤ 4096
   · have hd0 : (d == 0) = false := by simp; omega
     by_cases hn : 4 ≤ n ∧ n ≤ 258
     · have HK := hid (HT.out hd hn)
       by_cases hx : x = 0
       · have hx0 : (x == 0) = true := by simpa using hx
         rw [if_pos hx] at HK
         clear HT H1 H2 hl hx
         obtain ⟨hd1, hd2⟩ := hd
         obtain ⟨hn1, hn2⟩ := hn
         go_enter Tryz.func145, Tryz.ntmps145
         go_wp2_with fail
         refine (within_yes d 1 4096 _ hd1 hd2).mono ?_
         rintro _ w1 ⟨rfl, rfl⟩
         go_wp2_with fail
         refine (within_yes n 4 258 _ hn1 hn2).mono ?_
         rintro _ w1 ⟨rfl, rfl⟩
         go_wp2
         go_ret
         exact ⟨by rw [HK.out]; rfl, bel_allocZ _ _⟩
       · have hx0 : (x == 0) = false := by simpa using hx
         rw [if_neg hx] at HK
         clear HT H1 H2 hl hx
         obtain ⟨hd1, hd2⟩ := hd
         obtain ⟨hn1, hn2⟩ := hn
         go_enter Tryz.func145, Tryz.ntmps145
         go_wp2_with fail
         refine (within_yes d 1 4096 _ hd1 hd2).mono ?_
         rintro _ w1 ⟨rfl, rfl⟩
         go_wp2_with fail
         refine (within_yes n 4 258 _ hn1 hn2).mono ?_
         rintro _ w1 ⟨rfl, rfl⟩
         go_wp2
         go_ret
         exact ⟨by rw [HK.out]; rfl, bel_allocZ _ _⟩
     · have HK := hid (H2.out hn)
       have HN := hid hn
       clear HT H1 H2 hl hn
       obtain ⟨hd1, hd2⟩ := hd
       go_enter Tryz.func145, Tryz.ntmps145
       go_wp2_with fail
       refine (within_yes d 1 4096 _ hd1 hd2).mono ?_
       rintro _ w1 ⟨rfl, rfl⟩
       go_wp2_with fail
       refine (within_no n 4 258 _ HN.out).mono ?_
       rintro _ w1 ⟨rfl, rfl⟩
       go_wp2
       go_ret
       exact ⟨by rw [HK.out]; rfl, bel_allocZ _ _⟩
   · have HK := hid (H1.out hd)
     have HN := hid hd
     clear HT H1 H2 hd
     by_cases hd0 : d = 0
     · subst hd0
       have hn0 : (n == 1) = false := by simpa using hl
       clear hl
       go_enter Tryz.func145, Tryz.ntmps145
       go_wp2_with fail
       refine (within_no 0 1 4096 _ HN.out).mono ?_
       rintro _ w1 ⟨rfl, rfl⟩
       go_wp2
       go_ret
       exact ⟨by rw [HK.out]; rfl, bel_allocZ _ _⟩
     · have hd1 : (d == 0) = false := by simpa using hd0
       clear hl hd0
       go_enter Tryz.func145, Tryz.ntmps145
       go_wp2_with fail
       refine (within_no d 1 4096 _ HN.out).mono ?_
       rintro _ w1 ⟨rfl, rfl⟩
       go_wp2
       go_ret
       exact ⟨by rw [HK.out]; rfl, bel_allocZ _ _⟩

theorem kind_three (t : Tkz) : kindZ t = 0 ∨ kindZ t = 1 ∨ kindZ t = 2 := by
 unfold kindZ
 split
 · exact .inr (.inl rfl)
 · split
   · exact .inr (.inr rfl)
   · exact .inl rfl

set_option maxHeartbeats 800000 in
theorem check_word (t : Tkz) (w : World) : Calls Tryz.prog 128 #[.agg (zC t)] w fun e w' => e = .returned (.int .i64 (chkZ t)) ∧ Below w.heap.size w w' := by
 have HKW := hid (kind_word t (w.alloc (.cells (zC t) 109)))
 obtain ⟨d, n, x⟩ := t
 unfold zC at *
 dsimp only at *
 rcases Decidable.em (kindZ (d, n, x) = 0) with hk | hk
 · have HC : Hid (chkZ (d, n, x) = 60) := by show _ = _; unfold chkZ; rw [if_pos hk]
   rw [hk] at HKW
   clear hk
   go_enter Tryz.func128, Tryz.ntmps128
   go_wp2_with fail
   refine HKW.out.mono ?_
   rintro _ w1 ⟨rfl, hb1⟩
   have HB := hid (Bn (bel_allocZ w _) hb1)
   clear hb1 HKW
   go_wp2
   go_ret
   exact ⟨by rw [HC.out]; rfl, HB.out⟩
 · have HC : Hid (chkZ (d, n, x) = 0) := by show _ = _; unfold chkZ; rw [if_neg hk]
   have hkb : (kindZ (d, n, x) == 0) = false := by simpa using hk
   generalize kindZ (d, n, x) = k at *
   clear hk
   go_enter Tryz.func128, Tryz.ntmps128
   go_wp2_with fail
   refine HKW.out.mono ?_
   rintro _ w1 ⟨rfl, hb1⟩
   have HB := hid (Bn (bel_allocZ w _) hb1)
   clear hb1 HKW
   go_wp2
   go_ret
   exact ⟨by rw [HC.out]; rfl, HB.out⟩

theorem flt_kind (t : Tkz) : (kindZ t = 1 → t.1 = 0 ∧ t.2.1 = 1) ∧ (kindZ t = 2 → 1 ≤ t.1 ∧ t.1 ≤ 4096 ∧ 4 ≤ t.2.1 ∧ t.2.1 ≤ 258 ∧ t.2.2 = 0) := by
 obtain ⟨d, n, x⟩ := t
 unfold kindZ litB cpyB
 simp only [Bool.and_eq_true, decide_eq_true_eq, beq_iff_eq]
 constructor
 · intro h
   split at h
   · assumption
   · split at h <;> omega
 · intro h
   split at h
   · omega
   · split at h
     · assumption
     · omega

set_option maxHeartbeats 1600000 in
set_option maxRecDepth 100000 in
theorem fault_word (t : Tkz) m (w : World) (hm0 : 0 ≤ m) (hm : m ≤ 65536) : Calls Tryz.prog 143 #[.agg (zC t), .int .i64 m] w fun e w' => e = .returned (.int .i64 (fltZ t m)) ∧ Below w.heap.size w w' := by
 have HKW := hid (kind_word t (w.alloc (.cells (zC t) 109)))
 have hthree := kind_three t
 have hkind := flt_kind t
 have hflt : fltZ t m = if kindZ t = 0 then 60 else if kindZ t = 2 ∧ m < t.1 then 61 else if 65536 < m + t.2.1 then 2 else 0 := rfl
 obtain ⟨d, n, x⟩ := t
 unfold zC at *
 dsimp only at *
 have e0 : (w.alloc (.cells #[.int .i64 d, .int .i64 n, .int .u8 x] 109)).heap[w.heap.size]? = some (.cells #[.int .i64 d, .int .i64 n, .int .u8 x] 109 (0, 0)) := heap_newZ _ _
 have HE0 := hid e0
 have HF := hid hflt
 clear hflt e0
 rcases hthree with hk | hk | hk
 · skip
   rw [hk] at HKW
   have HC : Hid (fltZ (d, n, x) m = 60) := by show _ = _; rw [HF.out, hk]; rfl
   clear hk HF hkind
   go_enter Tryz.func143, Tryz.ntmps143
   go_wp2_with fail
   refine HKW.out.mono ?_
   rintro _ w1 ⟨rfl, hb1⟩
   have e1 := (hb1.block w.heap.size (by simp)).trans HE0.out
   have c0 := Joins.cell_of_block e1 0
   have c1 := Joins.cell_of_block e1 1
   simp only [List.getElem?_toArray, List.getElem?_cons_zero, List.getElem?_cons_succ] at c0 c1
   have HB := hid (Bn (bel_allocZ w _) hb1)
   clear hb1 HKW e1 HE0
   go_wp2
   go_ret
   exact ⟨by rw [HC.out]; rfl, HB.out⟩
 · obtain ⟨hd0, hn1⟩ := hkind.1 hk
   subst hd0
   subst hn1
   by_cases hl : 65536 < m + 1
   · skip
     rw [hk] at HKW
     have HC : Hid (fltZ (0, 1, x) m = 2) := by show _ = _; rw [HF.out, hk]; rw [if_neg (by decide), if_neg (by omega), if_pos hl]
     clear hk HF hkind
     go_enter Tryz.func143, Tryz.ntmps143
     go_wp2_with fail
     refine HKW.out.mono ?_
     rintro _ w1 ⟨rfl, hb1⟩
     have e1 := (hb1.block w.heap.size (by simp)).trans HE0.out
     have c0 := Joins.cell_of_block e1 0
     have c1 := Joins.cell_of_block e1 1
     simp only [List.getElem?_toArray, List.getElem?_cons_zero, List.getElem?_cons_succ] at c0 c1
     have HB := hid (Bn (bel_allocZ w _) hb1)
     clear hb1 HKW e1 HE0
     go_wp2
     go_ret
     exact ⟨by rw [HC.out]; rfl, HB.out⟩
   · skip
     rw [hk] at HKW
     have HC : Hid (fltZ (0, 1, x) m = 0) := by show _ = _; rw [HF.out, hk]; rw [if_neg (by decide), if_neg (by omega), if_neg hl]
     clear hk HF hkind
     go_enter Tryz.func143, Tryz.ntmps143
     go_wp2_with fail
     refine HKW.out.mono ?_
     rintro _ w1 ⟨rfl, hb1⟩
     have e1 := (hb1.block w.heap.size (by simp)).trans HE0.out
     have c0 := Joins.cell_of_block e1 0
     have c1 := Joins.cell_of_block e1 1
     simp only [List.getElem?_toArray, List.getElem?_cons_zero, List.getElem?_cons_succ] at c0 c1
     have HB := hid (Bn (bel_allocZ w _) hb1)
     clear hb1 HKW e1 HE0
     go_wp2
     go_ret
     exact ⟨by rw [HC.out]; rfl, HB.out⟩
 · obtain ⟨hd1, hd2, hn1, hn2, hx0⟩ := hkind.2 hk
   clear hx0
   by_cases hdm : m < d
   · skip
     rw [hk] at HKW
     have HC : Hid (fltZ (d, n, x) m = 61) := by show _ = _; rw [HF.out, hk]; rw [if_neg (by decide), if_pos ⟨rfl, hdm⟩]
     clear hk HF hkind
     go_enter Tryz.func143, Tryz.ntmps143
     go_wp2_with fail
     refine HKW.out.mono ?_
     rintro _ w1 ⟨rfl, hb1⟩
     have e1 := (hb1.block w.heap.size (by simp)).trans HE0.out
     have c0 := Joins.cell_of_block e1 0
     have c1 := Joins.cell_of_block e1 1
     simp only [List.getElem?_toArray, List.getElem?_cons_zero, List.getElem?_cons_succ] at c0 c1
     have HB := hid (Bn (bel_allocZ w _) hb1)
     clear hb1 HKW e1 HE0
     go_wp2
     go_ret
     exact ⟨by rw [HC.out]; rfl, HB.out⟩
   · by_cases hl : 65536 < m + n
     · skip
       rw [hk] at HKW
       have HC : Hid (fltZ (d, n, x) m = 2) := by show _ = _; rw [HF.out, hk]; rw [if_neg (by decide), if_neg (fun h => hdm h.2), if_pos hl]
       clear hk HF hkind
       go_enter Tryz.func143, Tryz.ntmps143
       go_wp2_with fail
       refine HKW.out.mono ?_
       rintro _ w1 ⟨rfl, hb1⟩
       have e1 := (hb1.block w.heap.size (by simp)).trans HE0.out
       have c0 := Joins.cell_of_block e1 0
       have c1 := Joins.cell_of_block e1 1
       simp only [List.getElem?_toArray, List.getElem?_cons_zero, List.getElem?_cons_succ] at c0 c1
       have HB := hid (Bn (bel_allocZ w _) hb1)
       clear hb1 HKW e1 HE0
       go_wp2
       go_ret
       exact ⟨by rw [HC.out]; rfl, HB.out⟩
     · skip
       rw [hk] at HKW
       have HC : Hid (fltZ (d, n, x) m = 0) := by show _ = _; rw [HF.out, hk]; rw [if_neg (by decide), if_neg (fun h => hdm h.2), if_neg hl]
       clear hk HF hkind
       go_enter Tryz.func143, Tryz.ntmps143
       go_wp2_with fail
       refine HKW.out.mono ?_
       rintro _ w1 ⟨rfl, hb1⟩
       have e1 := (hb1.block w.heap.size (by simp)).trans HE0.out
       have c0 := Joins.cell_of_block e1 0
       have c1 := Joins.cell_of_block e1 1
       simp only [List.getElem?_toArray, List.getElem?_cons_zero, List.getElem?_cons_succ] at c0 c1
       have HB := hid (Bn (bel_allocZ w _) hb1)
       clear hb1 HKW e1 HE0
       go_wp2
       go_ret
       exact ⟨by rw [HC.out]; rfl, HB.out⟩
end Go.Proofs.YtibjlbcnapoblaaGreatDoor
/-
 The contract of the document's Check.
-/
namespace Go.Proofs.YtibjlbcnapoblaaGreatDoor
open Go.RowKit Lz

end Go.Proofs.YtibjlbcnapoblaaGreatDoor
/-
 A row of tokens as an argument of type []api.Token: what it reads as, in which worlds.
-/
namespace Go.Proofs.YtibjlbcnapoblaaGreatDoor
open Go.ChangeShapes Go.WideShapes Go.ChangeAt Go.RowKit Go.Deep Lz

def tk0 : Tkz := (0, 0, 0)
structure Rt (w : World) (a : Option Addr) (cap : Nat) (l : List Tkz) : Prop where
 room : l.length ≤ cap
 most : cap ≤ maxLen
 cells : 0 < l.length → ∃ b off, a = some ⟨b, off, none⟩ ∧ b < w.heap.size ∧ ∀ j, j < l.length → w.cell? ⟨b, off + j * 3, none⟩ = some (.int .i64 (l.getD j tk0).1) ∧ w.cell? ⟨b, off + j * 3 + 1, none⟩ = some (.int .i64 (l.getD j tk0).2.1) ∧ w.cell? ⟨b, off + j * 3 + 2, none⟩ = some (.int .u8 (l.getD j tk0).2.2)
 fits : ∀ j, j < l.length → (Lit.int .i64 (l.getD j tk0).1).wf = true ∧ (Lit.int .i64 (l.getD j tk0).2.1).wf = true ∧ (Lit.int .u8 (l.getD j tk0).2.2).wf = true

theorem Rt.later {w w' : World} {a : Option Addr} {cap : Nat} {l : List Tkz} (h : Rt w a cap l) (hb : Below w.heap.size w w') : Rt w' a cap l := by
 refine ⟨h.room, h.most, fun h0 => ?_, h.fits⟩
 obtain ⟨b, off, ha, hbw, hc⟩ := h.cells h0
 refine ⟨b, off, ha, Nat.lt_of_lt_of_le hbw hb.size, fun j hj => ?_⟩
 obtain ⟨c0, c1, c2⟩ := hc j hj
 exact ⟨(hb.cell (p := ⟨b, off + j * 3, none⟩) hbw).trans c0, (hb.cell (p := ⟨b, off + j * 3 + 1, none⟩) hbw).trans c1, (hb.cell (p := ⟨b, off + j * 3 + 2, none⟩) hbw).trans c2⟩

theorem Rt.take {w : World} {a : Option Addr} {cap : Nat} {l : List Tkz} (h : Rt w a cap l) (n : Nat) : Rt w a cap (l.take n) := by
 have hr := h.room
 have hle : (l.take n).length ≤ l.length := by simp; omega
 have e : ∀ j, j < (l.take n).length → (l.take n).getD j tk0 = l.getD j tk0 := fun j hj => by
   have : j < n := by simp at hj; omega
   simp [List.getD, List.getElem?_take_of_lt this]
 refine ⟨by omega, h.most, fun h0 => ?_, fun j hj => by rw [e j hj]; exact h.fits j (by omega)⟩
 obtain ⟨b, off, ha, hbw, hc⟩ := h.cells (by omega)
 exact ⟨b, off, ha, hbw, fun j hj => by rw [e j hj]; exact hc j (by omega)⟩

def toZ (t : Tok) : Tkz := ((t.1 : Int), (t.2.1 : Int), t.2.2)
theorem flat_get (l : List Tok) : ∀ j, j < l.length → (l.flatMap tokC)[j * 3]? = some (.int .i64 ((l.map toZ).getD j tk0).1) ∧ (l.flatMap tokC)[j * 3 + 1]? = some (.int .i64 ((l.map toZ).getD j tk0).2.1) ∧ (l.flatMap tokC)[j * 3 + 2]? = some (.int .u8 ((l.map toZ).getD j tk0).2.2) := by
 induction l with
 | nil => intro j hj; simp at hj
 | cons t l ih =>
   intro j hj
   rw [List.flatMap_cons]
   cases j with
   | zero => exact ⟨rfl, rfl, rfl⟩
   | succ j =>
     have hl : (tokC t).length = 3 := rfl
     obtain ⟨h0, h1, h2⟩ := ih j (by simp at hj; omega)
     have e : ∀ i, (tokC t ++ l.flatMap tokC)[(j + 1) * 3 + i]? = (l.flatMap tokC)[j * 3 + i]? := fun i => by
       rw [List.getElem?_append_right (by omega), hl]
       congr 1
       omega
     have eg : ((t :: l).map toZ).getD (j + 1) tk0 = (l.map toZ).getD j tk0 := rfl
     rw [eg]
     refine ⟨?_, ?_, ?_⟩
     · rw [← h0]; exact e 0
     · rw [← h1]; exact e 1
     · rw [← h2]; exact e 2

theorem Rt.own {w : World} {base : Nat} {v : Value} {l : List Tok} (h : w.ownsRow base 109 3 v l.length (l.flatMap tokC)) (hf : ∀ t ∈ l, t.1 ≤ 65536 ∧ t.2.1 ≤ 65536 ∧ (Lit.int .u8 t.2.2).wf = true) :
   ∃ a cap, v = .slice a l.length cap ∧ Rt w a cap (l.map toZ) := by
 have hfit : ∀ j, j < (l.map toZ).length → (Lit.int .i64 ((l.map toZ).getD j tk0).1).wf = true ∧ (Lit.int .i64 ((l.map toZ).getD j tk0).2.1).wf = true ∧ (Lit.int .u8 ((l.map toZ).getD j tk0).2.2).wf = true := fun j hj => by
   have hj' : j < l.length := by simpa using hj
   have e : (l.map toZ).getD j tk0 = toZ l[j] := by simp [List.getD, hj']
   obtain ⟨f0, f1, f2⟩ := hf l[j] (List.getElem_mem hj')
   rw [e]
   exact ⟨wf_mk_i64 (by simp only [toZ]; omega) (by simp only [toZ]; omega), wf_mk_i64 (by simp only [toZ]; omega) (by simp only [toZ]; omega), f2⟩
 obtain ⟨hl, hn | ⟨g, cap, cur, rfl, hb, hg, hnc, hcm, hcur, htk⟩⟩ := id h
 · obtain ⟨rfl, h0⟩ := hn
   refine ⟨none, 0, by rw [h0], by simp [h0], by unfold maxLen; omega, fun h1 => by simp [h0] at h1, hfit⟩
 · refine ⟨some ⟨g, 0, none⟩, cap, rfl, by simpa using hnc, hcm, fun h0 => ⟨g, 0, rfl, (Array.getElem?_eq_some_iff.1 hg).1, fun j hj => ?_⟩, hfit⟩
   have hj' : j < l.length := by simpa using hj
   obtain ⟨h0, h1, h2⟩ := flat_get l j hj'
   simp only [Nat.zero_add]
   exact ⟨(h.cellAt _ (by omega)).trans h0, (h.cellAt _ (by omega)).trans h1, (h.cellAt _ (by omega)).trans h2⟩

end Go.Proofs.YtibjlbcnapoblaaGreatDoor
/-
 How many bytes tokens make: the contracts of lz's Size and of the document's.
-/
namespace Go.Proofs.YtibjlbcnapoblaaGreatDoor
open Go.RowKit Lz

def sumZ : List Tkz → Int
 | [] => 0
 | t :: l => t.2.1 + sumZ l
def allB (l : List Tkz) : Bool := l.all fun t => chkZ t == 0
def sizeO (l : List Tkz) : Int × Int := if allB l = true then (if 65536 < sumZ l then (0, 2) else (sumZ l, 0)) else (0, 60)

theorem sumZ_append (a b : List Tkz) : sumZ (a ++ b) = sumZ a + sumZ b := by
 induction a with
 | nil => simp [sumZ]
 | cons t a ih => simp only [List.cons_append, sumZ, ih]; omega
theorem chk_or (t : Tkz) : chkZ t = 0 ∨ chkZ t = 60 := by unfold chkZ; split <;> simp
theorem chk_len {t : Tkz} (h : chkZ t = 0) : 1 ≤ t.2.1 ∧ t.2.1 ≤ 258 := by
 have hk : kindZ t ≠ 0 := fun e => by unfold chkZ at h; rw [if_pos e] at h; omega
 have hf := flt_kind t
 rcases kind_three t with k | k | k
 · exact absurd k hk
 · have := hf.1 k; omega
 · have := hf.2 k; omega
theorem take_getD (l : List Tkz) (k : Nat) (h : k < l.length) : l.take (k + 1) = l.take k ++ [l.getD k tk0] := by
 rw [List.take_succ_eq_append_getElem h]
 simp [List.getD, h]
theorem sum_bound (l : List Tkz) (h : ∀ t ∈ l, chkZ t = 0) : 0 ≤ sumZ l ∧ sumZ l ≤ 258 * l.length := by
 induction l with
 | nil => simp [sumZ]
 | cons t l ih =>
   have h1 := chk_len (h t (by simp))
   have h2 := ih (fun x hx => h x (by simp [hx]))
   simp only [sumZ, List.length_cons]
   omega
theorem getD_memZ (l : List Tkz) (k : Nat) (h : k < l.length) : l.getD k tk0 ∈ l := by
 simp only [List.getD, List.getElem?_eq_getElem h, Option.getD_some]
 exact List.getElem_mem h
theorem all_of {l : List Tkz} (h : ∀ j, j < l.length → chkZ (l.getD j tk0) = 0) : allB l = true := by
 unfold allB
 rw [List.all_eq_true]
 intro t ht
 obtain ⟨j, hj, rfl⟩ := List.getElem_of_mem ht
 have := h j hj
 simp only [List.getD, List.getElem?_eq_getElem hj, Option.getD_some] at this
 simpa using this
theorem all_not {l : List Tkz} {k : Nat} (hk : k < l.length) (h : chkZ (l.getD k tk0) ≠ 0) : allB l = false := by
 rw [Bool.eq_false_iff]
 intro ha
 unfold allB at ha
 rw [List.all_eq_true] at ha
 exact h (by simpa using ha _ (getD_memZ l k hk))
set_option maxHeartbeats 1600000 in
set_option maxRecDepth 100000 in
theorem size_word (a : Option Addr) (cap : Nat) (l : List Tkz) (w : World) (hr : Rt w a cap l) (hn : l.length ≤ 100000) :
   Calls Tryz.prog 100 #[.slice a l.length cap] w fun e w' => e = .returned (.tuple #[.int .i64 (sizeO l).1, .int .i64 (sizeO l).2]) ∧ Below w.heap.size w w' := by
 have hroom := hr.room
 have hmost := hr.most
 unfold maxLen at hmost
 have HR := hid hr
 obtain ⟨len, hle⟩ : ∃ n, n = l.length := ⟨_, rfl⟩
 have HL := hid hle
 rw [← hle] at hn hroom ⊢
 clear hr hle
 go_enter Tryz.func100, Tryz.ntmps100
 go_wp2
 go_loopw [4, 10] (fun x4 x10 wr => ∃ k : Nat, k ≤ len ∧ x10 = .int .i64 (k : Int) ∧ x4 = .int .i64 (sumZ (l.take k)) ∧ Below w.heap.size w wr ∧ Hid (∀ j, j < k → chkZ (l.getD j tk0) = 0)) (fun _ x10 _ => len - (intOf x10).toNat)
 case atStart => exact ⟨0, by omega, rfl, rfl, Below.refl _ _, fun j hj => absurd hj (by omega)⟩
 case round =>
   obtain ⟨k, hk, rfl, rfl, hbel, HA⟩ := hrel
   have hsb : 0 ≤ sumZ (l.take k) ∧ sumZ (l.take k) ≤ 258 * 100000 := by
     have h := sum_bound (l.take k) (fun t ht => by
       obtain ⟨j, hj, rfl⟩ := List.getElem_of_mem ht
       have hj' : j < k := by simp at hj; omega
       have := HA.out j hj'
       simp only [List.getElem_take]
       rw [List.getD, List.getElem?_eq_getElem (by rw [← HL.out]; omega)] at this
       exact this)
     have : ((l.take k).length : Int) ≤ 100000 := by simp; omega
     omega
   by_cases hlt : k < len
   · have hkz : (k : Int) < (len : Int) := by omega
     obtain ⟨b, off, rfl, hbw, hc⟩ := HR.out.cells (by rw [← HL.out]; omega)
     obtain ⟨c0, c1, c2⟩ := hc k (by rw [← HL.out]; exact hlt)
     have d0 := (hbel.cell (p := ⟨b, off + k * 3, none⟩) hbw).trans c0
     have d1 := (hbel.cell (p := ⟨b, off + k * 3 + 1, none⟩) hbw).trans c1
     have d2 := (hbel.cell (p := ⟨b, off + k * 3 + 2, none⟩) hbw).trans c2
     have HCK := hid (check_word (l.getD k tk0) (wr.alloc (.cells (zC (l.getD k tk0)) 109)))
     have HTK := hid (take_getD l k (by rw [← HL.out]; exact hlt))
     have HNOT := hid (fun h => all_not (l := l) (k := k) (by rw [← HL.out]; exact hlt) h)
     have HLEN := hid (fun h => chk_len (t := l.getD k tk0) h)
     have hor := chk_or (l.getD k tk0)
     have HAK : Hid (chkZ (l.getD k tk0) = 0 → ∀ j, j < k + 1 → chkZ (l.getD j tk0) = 0) := fun h j hj => by
       by_cases e : j = k
       · subst e; exact h
       · exact HA.out j (by omega)
     have HS : Hid (sumZ (l.take (k + 1)) = sumZ (l.take k) + (l.getD k tk0).2.1) := by
       show _ = _
       rw [HTK.out, sumZ_append]
       simp [sumZ]
     generalize sumZ (l.take k) = s at *
     clear hc c0 c1 c2
     generalize l.getD k tk0 = t at *
     obtain ⟨d, n, x⟩ := t
     unfold zC at HCK
     dsimp only at *
     have hB1 := bel_allocZ wr (.cells #[.int .i64 d, .int .i64 n, .int .u8 x] 109)
     have HB1 := hid (Bn hbel hB1)
     have e0 : (wr.alloc (.cells #[.int .i64 d, .int .i64 n, .int .u8 x] 109)).heap[wr.heap.size]? = some (.cells #[.int .i64 d, .int .i64 n, .int .u8 x] 109 (0, 0)) := heap_newZ _ _
     have HE0 := hid e0
     clear hB1 e0 hbel
     go_wp2_with fail
     refine HCK.out.mono ?_
     rintro _ w2 ⟨rfl, hb2⟩
     have e2 := (hb2.block wr.heap.size (by simp)).trans HE0.out
     have m1 := Joins.cell_of_block e2 1
     simp only [List.getElem?_toArray, List.getElem?_cons_zero, List.getElem?_cons_succ] at m1
     have HB2 := hid (Bn HB1.out hb2)
     clear hb2 HB1 HCK e2 HE0
     rcases hor with hor | hor
     · obtain ⟨hn1, hn2⟩ := HLEN.out hor
       have HAK2 := hid (HAK.out hor)
       rw [hor]
       clear hor HNOT
       go_wp2
       exact ⟨⟨k + 1, by omega, by go_num, by rw [HS.out], HB2.out, HAK2⟩, by simp [intOf]; omega⟩
     · have HO : Hid (sizeO l = (0, 60)) := by
         show _ = _
         unfold sizeO
         rw [HNOT.out (by omega), if_neg (by simp)]
       rw [hor]
       clear hor HNOT
       go_wp2
       go_ret2
       exact ⟨by rw [HO.out]; rfl, HB2.out⟩
   · obtain rfl : k = len := by omega
     have hkz : ¬ (k : Int) < (k : Int) := by omega
     have HT : Hid (l.take k = l) := List.take_of_length_le (by rw [← HL.out]; omega)
     have HAL : Hid (allB l = true) := all_of (fun j hj => HA.out j (by rw [HL.out]; exact hj))
     rw [HT.out] at hsb ⊢
     have HO : Hid (sizeO l = if 65536 < sumZ l then (0, 2) else (sumZ l, 0)) := by show _ = _; unfold sizeO; rw [HAL.out, if_pos rfl]
     generalize sumZ l = s at *
     by_cases hs : 65536 < s
     · rw [if_pos hs] at HO
       go_wp2
       go_ret2
       exact ⟨by rw [HO.out]; rfl, hbel⟩
     · rw [if_neg hs] at HO
       go_wp2
       go_ret2
       exact ⟨by rw [HO.out]; rfl, hbel⟩
end Go.Proofs.YtibjlbcnapoblaaGreatDoor
/-
 The contract of the document's Size.
-/
namespace Go.Proofs.YtibjlbcnapoblaaGreatDoor
open Go.RowKit Lz

end Go.Proofs.YtibjlbcnapoblaaGreatDoor
