/-
  The contracts of the document's longest and Longest.
-/
import Derived.Test.YtgdlmhgjhmcilaaCom
import Derived.Lib.SmallJoins
namespace Go.Proofs.Ytgdlmhgjhmcilaa
open Go.RowKit Lz

theorem bel_alloc (w : World) (o : Obj) : Below w.heap.size w (w.alloc o) := (Below.refl _ _).alloc (Nat.le_refl _) o
theorem heap_new (w : World) (o : Obj) : (w.alloc o).heap[w.heap.size]? = some o := by
  show (w.heap.push o)[w.heap.size]? = _
  simp
theorem heap_old (w : World) (o : Obj) {i : Nat} {x : Obj} (h : w.heap[i]? = some x) : (w.alloc o).heap[i]? = some x := (Below.heap_alloc w o i (Array.getElem?_eq_some_iff.1 h).1).trans h

def tokV (t : Tok) : Array Value := #[.int .i64 (t.1 : Int), .int .i64 (t.2.1 : Int), .int .u8 t.2.2]
/-- Block B is a token. -/
def Tb (W : World) (B : Nat) (t : Tok) : Prop := W.heap[B]? = some (.cells (tokV t) 23 (0, 0))
theorem Tb.c0 {W : World} {B : Nat} {t : Tok} (h : Tb W B t) : W.cell? ⟨B, 0, none⟩ = some (.int .i64 (t.1 : Int)) := Joins.cell_of_block h 0
theorem Tb.c1 {W : World} {B : Nat} {t : Tok} (h : Tb W B t) : W.cell? ⟨B, 1, none⟩ = some (.int .i64 (t.2.1 : Int)) := Joins.cell_of_block h 1
theorem Tb.c2 {W : World} {B : Nat} {t : Tok} (h : Tb W B t) : W.cell? ⟨B, 2, none⟩ = some (.int .u8 t.2.2) := Joins.cell_of_block h 2
theorem Tb.f {W : World} {B : Nat} {t : Tok} (h : Tb W B t) (i : Nat) : W.frozen? ⟨B, i, none⟩ = false := Joins.unfrozen_of_block h i

theorem heap_put_other {w : World} {g k i : Nat} {cs : Array Value} {t : TypeId} {fr : Nat × Nat} (h : w.heap[g]? = some (.cells cs t fr)) (hk : k ≠ g) (v : Value) : (w.setCell ⟨g, i, none⟩ v).heap[k]? = w.heap[k]? := by
  rw [setCell_eq_setRow w g i cs t fr v h]
  exact setRow_other w g k _ hk

def put3 (W : World) (B : Nat) (t : Tok) : World := ((W.setCell ⟨B, 0, none⟩ (.int .i64 (t.1 : Int))).setCell ⟨B, 1, none⟩ (.int .i64 (t.2.1 : Int))).setCell ⟨B, 2, none⟩ (.int .u8 t.2.2)
theorem Tb.set {W : World} {B : Nat} {t : Tok} (h : Tb W B t) (t' : Tok) : Tb (put3 W B t') B t' := by
  unfold Tb put3
  rw [Joins.block_setCell (Joins.block_setCell (Joins.block_setCell h _) _) _]
  rfl
theorem Tb.other {W : World} {B B' : Nat} {t t' : Tok} (h : Tb W B t) (hne : B' ≠ B) {o : Option Obj} (h2 : W.heap[B']? = o) : (put3 W B t').heap[B']? = o := by
  have h1 := Joins.block_setCell (i := 0) h (.int .i64 (t'.1 : Int))
  have h3 := Joins.block_setCell (i := 1) h1 (.int .i64 (t'.2.1 : Int))
  unfold put3
  rw [heap_put_other h3 hne, heap_put_other h1 hne, heap_put_other h hne, h2]
theorem Tb.bel {W w : World} {B n : Nat} {t : Tok} (_h : Tb W B t) (hb : Below n w W) (hn : n ≤ B) (t' : Tok) : Below n w (put3 W B t') := by
  unfold put3
  exact ((hb.setCell (p := ⟨B, 0, none⟩) hn _).setCell (p := ⟨B, 1, none⟩) hn _).setCell (p := ⟨B, 2, none⟩) hn _

theorem ahead_take {q d : Nat} (h1 : d < q) (h2 : d < 4096) : (aheadL q).take (d + 1) = (aheadL q).take d ++ [q - (d + 1)] := by
  have hl : d < (aheadL q).length := by simp [aheadL]; omega
  rw [List.take_succ_eq_append_getElem hl]
  congr 2
  simp [aheadL]; omega

set_option maxHeartbeats 400000 in
set_option maxRecDepth 100000 in
theorem longest_ref (bs : List Int) (q g off cap : Nat) (w : World) (hq : q < bs.length) (hL : bs.length ≤ 65536) (hg : g < w.heap.size)
    (hc : ∀ j, j < bs.length → w.cell? ⟨g, off + j, none⟩ = some (.int .u8 (bs.getD j 0))) :
    Calls Try.prog 26 #[.slice (some ⟨g, off, none⟩) bs.length cap, .int .i64 (q : Int)] w fun e w' => e = .returned (.agg (tokV (longT bs q))) ∧ Below w.heap.size w w' := by
  have HR : Hid (∀ d, 1 ≤ d → d ≤ q → ∀ W, Below w.heap.size w W → Calls Try.prog 35 #[.slice (some ⟨g, off, none⟩) bs.length cap, .int .i64 (q : Int), .int .i64 (d : Int)] W fun e w' => e = .returned (.int .i64 ((com bs (q - d) q (most bs q) : Nat) : Int)) ∧ ∃ m, w' = W.drewN m) :=
    fun d h1 h2 W hW => reach_ref bs q d g off cap W hq hL h1 h2 (fun j hj => (hW.cell (p := ⟨g, off + j, none⟩) hg).trans (hc j hj))
  have cq := hc q hq
  have HZ : Hid (∀ s : Nat × Nat, tokOf bs q s = if s.1 = 0 then (0, 1, bs.getD q 0) else (s.1, s.2, 0)) := fun _ => rfl
  generalize bs.getD q 0 = z at *
  obtain ⟨L, hLe⟩ : ∃ L, L = bs.length := ⟨_, rfl⟩
  have HL := hid hLe
  have HM : Hid (most bs q ≤ 258) := by show _ ≤ _; unfold most; omega
  have HLT : Hid (longT bs q = tokOf bs q (best bs q (most bs q) (aheadL q))) := rfl
  rw [← hLe] at hq hL ⊢
  rw [← hLe] at HR
  clear hc hLe
  go_enter Try.func26, Try.ntmps26
  go_wp2_with fail
  go_loopw [6] (fun y wr => ∃ e d : Nat, Hid (e = d + 1) ∧ e ≤ q + 1 ∧ e ≤ 4097 ∧ y = .int .i64 (e : Int) ∧ Below w.heap.size w wr ∧ Tb wr w.heap.size (0, 0, 0) ∧ Tb wr (w.heap.size + 1) (tokOf bs q (best bs q (most bs q) ((aheadL q).take d)))) (fun y _ => q + 1 - (intOf y).toNat)
  case atStart =>
    refine ⟨1, 0, rfl, by omega, by omega, rfl, Bn (bel_alloc _ _) (bel_alloc _ _), heap_old _ _ (heap_new _ _), ?_⟩
    have := heap_new (w.alloc (.cells #[.int .i64 0, .int .i64 0, .int .u8 0] 23)) (.cells #[.int .i64 0, .int .i64 1, .int .u8 z] 23)
    simp only [World.size_alloc] at this
    rw [HZ.out]
    exact this
  case round =>
    obtain ⟨e, d, HE, hd1, hd2, rfl, hbel, h0, h1⟩ := hrel
    by_cases hlt : e ≤ q ∧ e ≤ 4096
    · obtain ⟨hlt1, hlt2⟩ := hlt
      have hz1 : (e : Int) ≤ (q : Int) := by omega
      have hz2 : (e : Int) ≤ 4096 := by omega
      have HC := hid (HR.out e (by have := HE.out; omega) hlt1 wr hbel)
      have HB := hid (best_snoc bs q (most bs q) ((aheadL q).take d) (q - e))
      rw [HE.out, ← ahead_take (by have := HE.out; omega) (by have := HE.out; omega), ← HE.out] at HB
      have HG := hid (good_best (bs := bs) (q := q) (k := most bs q) (ps := (aheadL q).take d) (fun p hp => (mem_aheadL (List.mem_of_mem_take hp)).1))
      have HCL := hid (com_le bs (most bs q) (q - e) q)
      have HP := hid (List.take_prefix e (aheadL q))
      have HBF := hid (fun h => best_full (bs := bs) (q := q) (k := most bs q) (ps := (aheadL q).take e) (qs := aheadL q) h HP.out)
      obtain ⟨n, hn⟩ : ∃ n, n = com bs (q - e) q (most bs q) := ⟨_, rfl⟩
      have HN : Hid (com bs (q - e) q (most bs q) = n) := hn.symm
      rw [HN.out] at HC HCL
      clear hn
      generalize best bs q (most bs q) ((aheadL q).take d) = s at *
      go_wp2_with fail
      refine HC.out.mono ?_
      rintro _ w2 ⟨rfl, m, rfl⟩
      have h0' : Tb (wr.drewN m) w.heap.size (0, 0, 0) := h0
      have h1' : Tb (wr.drewN m) (w.heap.size + 1) (tokOf bs q s) := h1
      have hbel' := bel_drewN hbel m
      clear h0 h1 hbel HC HR
      generalize wr.drewN m = W at *
      by_cases hhit : s.2 < n
      · have HBt : Hid (tokOf bs q (best bs q (most bs q) ((aheadL q).take e)) = (e, n, 0)) := by
          show _ = _
          rw [HB.out, better, if_pos (by rw [HN.out]; exact hhit)]
          have := HE.out
          rw [HZ.out, if_neg (by simp; omega)]
          rw [← HN.out]
          congr 1
          simp; omega
        have hn4 : 4 ≤ n := by rcases HG.out with ⟨_, h⟩ | ⟨_, _, h, _⟩ <;> omega
        have hn4z : (4 : Int) ≤ (n : Int) := by omega
        obtain ⟨ln, hln⟩ : ∃ ln : Nat, ln = (tokOf bs q s).2.1 := ⟨_, rfl⟩
        have hlnn : ln < n := by
          rw [hln, HZ.out]
          split
          · simp; omega
          · simpa using hhit
        have hlnz : (ln : Int) < (n : Int) := by omega
        have h1 := h1'
        have h0 := h0'
        clear h0' h1'
        have f00 := h0.f 0
        have f01 := h0.f 1
        have f02 := h0.f 2
        have f10 := h1.f 0
        have f11 := h1.f 1
        have f12 := h1.f 2
        have k00 := h0.c0
        have k01 := h0.c1
        have k02 := h0.c2
        have k10 := h1.c0
        have k11 := h1.c1
        have k12 := h1.c2
        rw [← hln] at k11
        generalize (tokOf bs q s).1 = x0 at *
        generalize (tokOf bs q s).2.2 = x2 at *
        have HH0 := hid h0
        have HH1 := hid h1
        clear h0 h1 hln
        have HT := hid (HH1.out.set (e, n, 0))
        have HT0 : Hid (Tb (put3 W (w.heap.size + 1) (e, n, 0)) w.heap.size (0, 0, 0)) := HH1.out.other (by omega) HH0.out
        have HTB := hid (HH1.out.bel hbel' (by omega) (e, n, 0))
        by_cases h258 : n = 258
        · have hnz : ((n : Int) == 258) = true := by simp; omega
          have HF : Hid (longT bs q = (e, n, 0)) := by
            show _ = _
            rw [HLT.out, HBF.out, HBt.out]
            rw [HB.out]
            have h1 := better_ge bs q (most bs q) s (q - e)
            have h2 := HM.out
            have h3 : (better bs q (most bs q) s (q - e)).2 = n := by rw [better, HN.out, if_pos hhit]
            omega
          have HX := hid (HT0.out.set (e, n, 0))
          have HXB := hid (HT0.out.bel HTB.out (Nat.le_refl _) (e, n, 0))
          clear h258
          go_wp2
          refine bodyPost_ret (results_cell_row (ty := 23) rfl _ _ _ _ _ _ _ rfl HX.out Try.underlying23 rfl (by kernel_rfl)) rfl ?_
          exact ⟨by rw [HF.out], HXB.out⟩
        · have hnz : ((n : Int) == 258) = false := by simp; omega
          go_wp2
          exact ⟨⟨e + 1, e, rfl, by omega, by omega, by go_num, HTB.out, HT0.out, by rw [HBt.out]; exact HT.out⟩, by simp [intOf]; omega⟩
      · have HBt : Hid (best bs q (most bs q) ((aheadL q).take e) = s) := by
          show _ = _
          rw [HB.out, better, if_neg (by rw [HN.out]; exact hhit)]
        obtain ⟨⟨x0, ln, x2⟩, ht⟩ : ∃ t, tokOf bs q s = t := ⟨_, rfl⟩
        have HTT := hid ht
        have hlnn : n < 4 ∨ n ≤ ln := by
          have hln : (tokOf bs q s).2.1 = ln := by rw [ht]
          rw [HZ.out] at hln
          rcases HG.out with ⟨h1, h2⟩ | ⟨h1, h2, h3, h4⟩
          · left; omega
          · right; rw [if_neg (by omega)] at hln; simp at hln; omega
        rw [ht] at h1'
        have h1 := h1'
        have h0 := h0'
        clear h0' h1' ht
        have f00 := h0.f 0
        have f01 := h0.f 1
        have f02 := h0.f 2
        have f10 := h1.f 0
        have f11 := h1.f 1
        have f12 := h1.f 2
        have k00 := h0.c0
        have k01 := h0.c1
        have k02 := h0.c2
        have k10 := h1.c0
        have k11 := h1.c1
        have k12 := h1.c2
        have HH0 := hid h0
        have HH1 := hid h1
        clear h0 h1
        dsimp only at k10 k11 k12
        have HX := hid (HH0.out.set (x0, ln, x2))
        have HXB := hid (HH0.out.bel hbel' (Nat.le_refl _) (x0, ln, x2))
        by_cases h258 : n = 258
        · have HF : Hid (longT bs q = (x0, ln, x2)) := by
            show _ = _
            rw [HLT.out, HBF.out, HBt.out, HTT.out]
            rw [HBt.out]
            have h2 := HM.out
            omega
          have hnz : ((n : Int) == 258) = true := by simp; omega
          clear h258
          rcases hlnn with hl4 | hln
          · have hl4z : ¬ (4 : Int) ≤ (n : Int) := by omega
            go_wp2
            refine bodyPost_ret (results_cell_row (ty := 23) rfl _ _ _ _ _ _ _ rfl HX.out Try.underlying23 rfl (by kernel_rfl)) rfl ?_
            exact ⟨by rw [HF.out], HXB.out⟩
          · by_cases hl4 : 4 ≤ n
            · have hl4z : (4 : Int) ≤ (n : Int) := by omega
              have hlz : ¬ (ln : Int) < (n : Int) := by omega
              go_wp2
              refine bodyPost_ret (results_cell_row (ty := 23) rfl _ _ _ _ _ _ _ rfl HX.out Try.underlying23 rfl (by kernel_rfl)) rfl ?_
              exact ⟨by rw [HF.out], HXB.out⟩
            · have hl4z : ¬ (4 : Int) ≤ (n : Int) := by omega
              go_wp2
              refine bodyPost_ret (results_cell_row (ty := 23) rfl _ _ _ _ _ _ _ rfl HX.out Try.underlying23 rfl (by kernel_rfl)) rfl ?_
              exact ⟨by rw [HF.out], HXB.out⟩
        · have hnz : ((n : Int) == 258) = false := by simp; omega
          rcases hlnn with hl4 | hln
          · have hl4z : ¬ (4 : Int) ≤ (n : Int) := by omega
            go_wp2
            exact ⟨⟨e + 1, e, rfl, by omega, by omega, by go_num, hbel', HH0.out, by rw [HBt.out, HTT.out]; exact HH1.out⟩, by simp [intOf]; omega⟩
          · by_cases hl4 : 4 ≤ n
            · have hl4z : (4 : Int) ≤ (n : Int) := by omega
              have hlz : ¬ (ln : Int) < (n : Int) := by omega
              go_wp2
              exact ⟨⟨e + 1, e, rfl, by omega, by omega, by go_num, hbel', HH0.out, by rw [HBt.out, HTT.out]; exact HH1.out⟩, by simp [intOf]; omega⟩
            · have hl4z : ¬ (4 : Int) ≤ (n : Int) := by omega
              go_wp2
              exact ⟨⟨e + 1, e, rfl, by omega, by omega, by go_num, hbel', HH0.out, by rw [HBt.out, HTT.out]; exact HH1.out⟩, by simp [intOf]; omega⟩
    · have HF : Hid ((aheadL q).take d = aheadL q) := by
        refine List.take_of_length_le ?_
        have := HE.out
        simp [aheadL]; omega
      rw [HF.out] at h1
      obtain ⟨⟨x0, x1, x2⟩, ht⟩ : ∃ t, tokOf bs q (best bs q (most bs q) (aheadL q)) = t := ⟨_, rfl⟩
      have HTT := hid ht
      rw [ht] at h1
      clear ht
      have f00 := h0.f 0
      have f01 := h0.f 1
      have f02 := h0.f 2
      have f10 := h1.f 0
      have f11 := h1.f 1
      have f12 := h1.f 2
      have k00 := h0.c0
      have k01 := h0.c1
      have k02 := h0.c2
      have k10 := h1.c0
      have k11 := h1.c1
      have k12 := h1.c2
      dsimp only at k10 k11 k12
      have HX := hid (h0.set (x0, x1, x2))
      have HXB := hid (h0.bel hbel (Nat.le_refl _) (x0, x1, x2))
      clear h0 h1
      by_cases hlt1 : e ≤ q
      · have hz1 : (e : Int) ≤ (q : Int) := by omega
        have hz2 : ¬ (e : Int) ≤ 4096 := by omega
        go_wp2
        refine bodyPost_ret (results_cell_row (ty := 23) rfl _ _ _ _ _ _ _ rfl HX.out Try.underlying23 rfl (by kernel_rfl)) rfl ?_
        exact ⟨by rw [HLT.out, HTT.out], HXB.out⟩
      · have hz1 : ¬ (e : Int) ≤ (q : Int) := by omega
        go_wp2
        refine bodyPost_ret (results_cell_row (ty := 23) rfl _ _ _ _ _ _ _ rfl HX.out Try.underlying23 rfl (by kernel_rfl)) rfl ?_
        exact ⟨by rw [HLT.out, HTT.out], HXB.out⟩
end Go.Proofs.Ytgdlmhgjhmcilaa
