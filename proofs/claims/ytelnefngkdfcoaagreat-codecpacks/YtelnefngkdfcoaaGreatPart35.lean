/-
  The document's counts.
-/
import Derived.Test.YtelnefngkdfcoaaGreatPart34
import Derived.Test.YtelnefngkdfcoaaGreatPart29
import Derived.Test.YtelnefngkdfcoaaGreatPart28
import Derived.Test.YtelnefngkdfcoaaGreatPart17
import Derived.Test.YtelnefngkdfcoaaGreatPart19
namespace Go.Proofs.YtelnefngkdfcoaaGreat
open Go.RowKit Lz

theorem Tryz.info3D : (Tryz.prog.info? 3).map (fun i => (i.zero, i.size, i.bytes)) = some (some (.int .i64 0), 1, 8) := by kernel_rfl
set_option maxRecDepth 100000 in
theorem wp_makeD (w : World) {o : Oper} {ac : Act} {K : Act → World → Prop} {Q : Exit → Act → World → Prop} (l c : Operand) (n : Nat) (ho : o.op = .makeSlice 51 l c) (hl : ac.eval l = .int .i64 (n : Int)) (hc : ac.eval c = .int .i64 (n : Int)) (hn : n ≤ 1000)
    (h : ∀ w', w'.heap[w.heap.size]? = some (.cells (arr .i64 (List.replicate n 0)) 3 (0, 0)) → Below w.heap.size w w' → K (ac.put o.dst (.slice (some ⟨w.heap.size, 0, none⟩) n n)) w') : o.wp Tryz.prog ac w K Q := by
  obtain ⟨i0, hi, hz0, hz1, hz2⟩ := info_parts Tryz.info3D
  obtain ⟨w', hrun, r1, r2⟩ := run_make_full (P := Tryz.prog) w w.heap.size 51 3 i0 (.int .i64 0) 1 Tryz.underlying51 hi hz0 hz1 .i64 .i64 n (by rw [hz2]; omega) (by unfold maxLen; omega) (Nat.le_refl _)
  unfold Oper.wp
  simp [execOp, ho, hl, hc, hrun, Result.andThen]
  refine h w' ?_ ((Below.refl _ _).grown r2 (Nat.le_refl _) (fun k hk => by cases hk))
  obtain ⟨_, h1 | ⟨g, cap, cur, hv, _, hg, _, _, hsz, htk⟩⟩ := r1
  · exact absurd h1.1 (by simp)
  · injection hv with e1 e2 e3
    subst e3
    injection e1 with e1
    injection e1 with e1
    subst e1
    rw [hg]
    have htk : cur.toList.take (n * 1) = (madeCells #[Value.int .i64 0] (n * 1)).toList := htk
    rw [toList_madeCells_one, List.take_of_length_le (by rw [Array.length_toList, hsz]; exact Nat.le_refl _)] at htk
    have : cur = arr .i64 (List.replicate n 0) := by
      apply Array.toList_inj.1
      rw [htk]
      simp [arr]
    rw [this]

structure MemD (w : World) (ga gd : Nat) (wr : World) (K D : List Nat) : Prop where
  ks : wr.heap[ga]? = some (.cells (arr .i64 K) 3 (0, 0))
  ds : wr.heap[gd]? = some (.cells (arr .i64 D) 3 (0, 0))
  ne : ga ≠ gd
  ba : w.heap.size ≤ ga
  bd : w.heap.size ≤ gd
  bel : Below w.heap.size w wr
theorem MemD.later {w wr w' : World} {ga gd : Nat} {K D : List Nat} (h : MemD w ga gd wr K D) (hb : Below wr.heap.size wr w') : MemD w ga gd w' K D := by
  have hlt : ∀ {g : Nat} {o : Obj}, wr.heap[g]? = some o → g < wr.heap.size := fun {g o} e => by
    by_cases c : g < wr.heap.size
    · exact c
    · rw [Array.getElem?_eq_none (by omega)] at e; cases e
  exact ⟨(hb.block _ (hlt h.ks)).trans h.ks, (hb.block _ (hlt h.ds)).trans h.ds, h.ne, h.ba, h.bd, Bn h.bel hb⟩
theorem MemD.putK {w wr : World} {ga gd : Nat} {K D : List Nat} (h : MemD w ga gd wr K D) (i v : Nat) : MemD w ga gd (wr.setCell ⟨ga, i, none⟩ (.int .i64 (v : Int))) (K.set i v) D := by
  refine ⟨?_, ?_, h.ne, h.ba, h.bd, h.bel.setCell h.ba _⟩
  · rw [Joins.block_setCell h.ks, arr_set]
  · rw [heap_put_other h.ks (Ne.symm h.ne)]; exact h.ds
theorem MemD.putD {w wr : World} {ga gd : Nat} {K D : List Nat} (h : MemD w ga gd wr K D) (i v : Nat) : MemD w ga gd (wr.setCell ⟨gd, i, none⟩ (.int .i64 (v : Int))) K (D.set i v) := by
  refine ⟨?_, ?_, h.ne, h.ba, h.bd, h.bel.setCell h.bd _⟩
  · rw [heap_put_other h.ds h.ne]; exact h.ks
  · rw [Joins.block_setCell h.ds, arr_set]

def Mz (B : Nat) (W : World) (u : Value) (n : Nat) : Prop := ∃ g, u = .slice (some ⟨g, 0, none⟩) n n ∧ B ≤ g ∧ W.heap[g]? = some (.cells (arr .i64 (List.replicate n 0)) 3 (0, 0))
theorem Mz.lt {B : Nat} {W : World} {u : Value} {n : Nat} (h : Mz B W u n) : ∃ g, u = .slice (some ⟨g, 0, none⟩) n n ∧ g < W.heap.size := by
  obtain ⟨g, h1, _, h3⟩ := h
  refine ⟨g, h1, ?_⟩
  by_cases c : g < W.heap.size
  · exact c
  · rw [Array.getElem?_eq_none (by omega)] at h3; cases h3
theorem Mz.later {B : Nat} {W W' : World} {u : Value} {n : Nat} (h : Mz B W u n) (hb : Below W.heap.size W W') : Mz B W' u n := by
  obtain ⟨g, h1, h2, h3⟩ := h
  have hg : g < W.heap.size := by
    by_cases c : g < W.heap.size
    · exact c
    · rw [Array.getElem?_eq_none (by omega)] at h3; cases h3
  exact ⟨g, h1, h2, (hb.block _ hg).trans h3⟩
def T1 (s u4 u5 u9 u10 : Value) : Array Value := #[s, undef, .slice none 0 0, .slice none 0 0, u4, u5, undef, undef, undef, u9, u10, undef, undef, undef, undef, undef, undef, undef, undef, undef, undef, undef, undef, undef, undef, undef, undef, undef, undef, undef, undef, undef, undef, undef, undef, undef, undef, undef, undef, undef, undef, undef, undef, undef, undef, undef, undef, undef, undef, undef, undef, undef]
structure I1 (s : Value) (w : World) (l : Array Bool) (a : Act) (W : World) : Prop where
  size : l.size = 4
  bel : Below w.heap.size w W
  fr : ∃ u4 u5 u9 u10, a = ⟨T1 s u4 u5 u9 u10, []⟩ ∧ (l.getD 0 false = true → Mz w.heap.size W u9 511) ∧ (l.getD 1 false = true → Mz w.heap.size W u10 13) ∧ (l.getD 0 false = true → l.getD 1 false = true → u9.ownBlock ≠ u10.ownBlock) ∧
    (l.getD 2 false = true → l.getD 0 false = true ∧ u4 = u9) ∧ (l.getD 3 false = true → l.getD 1 false = true ∧ u5 = u10)

set_option maxHeartbeats 3200000 in
set_option maxRecDepth 100000 in
theorem rcounts_ref (a : Option Addr) (cap : Nat) (l : List Tkz) (w : World) (hr : Rt w a cap l) (hn : l.length ≤ 100000) (hall : ∀ j, j < l.length → chkZ (l.getD j tk0) = 0) :
    Calls Tryz.prog 29 #[.slice a l.length cap] w fun e w' => ∃ ga gd, e = .returned (.tuple #[.slice (some ⟨ga, 0, none⟩) 511 511, .slice (some ⟨gd, 0, none⟩) 13 13]) ∧ Ri w' .i64 (some ⟨ga, 0, none⟩) 511 (intL (kindsN l l.length)) ∧ Ri w' .i64 (some ⟨gd, 0, none⟩) 13 (intL (distsN l l.length)) ∧ Below w.heap.size w w' := by
  have hroom := hr.room
  have hmost := hr.most
  unfold maxLen at hmost
  have HR := hid hr
  have HALL := hid hall
  obtain ⟨len, hle⟩ : ∃ n, n = l.length := ⟨_, rfl⟩
  have HL := hid hle
  rw [← hle] at hn hroom ⊢
  clear hr hle hall
  go_enter Tryz.func29, Tryz.ntmps29
  go_wp2_with fail
  refine Inv.region (I1 (.slice a len cap) w) (by kernel_rfl) ?start ?step ?fin
  case start =>
    refine ⟨rfl, (Below.refl _ _).drew, undef, undef, undef, undef, rfl, ?_, ?_, ?_, ?_, ?_⟩ <;> intro h <;> cases h
  case step =>
    intro l1 a1 W hI i o ho hl hdep
    obtain ⟨hsz, hbl, u4, u5, u9, u10, rfl, f0, f1, f01, f2, f3⟩ := hI
    have hlt := Inv.lt_of hl
    have hi4 : i = 0 ∨ i = 1 ∨ i = 2 ∨ i = 3 := by omega
    have hb := fun j => Inv.bit_set (l := l1) (i := i) j hlt
    have hs2 : (l1.setIfInBounds i true).size = 4 := by rw [Inv.set_len]; exact hsz
    rcases hi4 with rfl | rfl | rfl | rfl
    · injection ho with ho
      subst ho
      have hno := bit_no hl
      refine wpOp_step rfl (fun K' hK => ?_)
      rw [if_pos (by rfl)]
      refine wp_makeD W _ _ 511 rfl rfl rfl (by omega) (fun W' h1 h2 => hK _ _ ⟨hs2, Bn hbl h2, u4, u5, _, u10, rfl, fun _ => ⟨W.heap.size, rfl, hbl.size, h1⟩, (fun h => (f1 (Inv.gg hb h)).later h2), (fun _ h => ?_), (fun h => ?_), (fun h => ?_)⟩)
      · obtain ⟨g, hg, hg2⟩ := (f1 (Inv.gg hb h)).lt
        subst hg
        intro e
        injection e with e
        simp at e
        omega
      · have := (f2 (Inv.gg hb h)).1
        rw [hno] at this; cases this
      · have := f3 (Inv.gg hb h)
        exact ⟨by rw [hb, if_neg (by decide)]; exact this.1, this.2⟩
    · injection ho with ho
      subst ho
      have hno := bit_no hl
      refine wpOp_step rfl (fun K' hK => ?_)
      rw [if_pos (by rfl)]
      refine wp_makeD W _ _ 13 rfl rfl rfl (by omega) (fun W' h1 h2 => hK _ _ ⟨hs2, Bn hbl h2, u4, u5, u9, _, rfl, (fun h => (f0 (Inv.gg hb h)).later h2), fun _ => ⟨W.heap.size, rfl, hbl.size, h1⟩, (fun h _ => ?_), (fun h => ?_), (fun h => ?_)⟩)
      · obtain ⟨g, hg, hg2⟩ := (f0 (Inv.gg hb h)).lt
        subst hg
        intro e
        injection e with e
        simp at e
        omega
      · have := f2 (Inv.gg hb h)
        exact ⟨by rw [hb, if_neg (by decide)]; exact this.1, this.2⟩
      · have := (f3 (Inv.gg hb h)).1
        rw [hno] at this; cases this
    · injection ho with ho
      subst ho
      refine wpOp_step rfl (fun K' hK => ?_)
      rw [if_pos (by rfl)]
      have d0 := hdep { on := 0, ground := .data } (by simp) (by rfl)
      go_simp
      exact hK _ _ ⟨hs2, hbl, _, u5, u9, u10, rfl, (fun h => f0 d0), (fun h => f1 (Inv.gg hb h)), (fun _ h => f01 d0 (Inv.gg hb h)), (fun _ => ⟨by rw [hb, if_neg (by decide)]; exact d0, rfl⟩), (fun h => by have := f3 (Inv.gg hb h); exact ⟨by rw [hb, if_neg (by decide)]; exact this.1, this.2⟩)⟩
    · injection ho with ho
      subst ho
      refine wpOp_step rfl (fun K' hK => ?_)
      rw [if_pos (by rfl)]
      have d1 := hdep { on := 1, ground := .data } (by simp) (by rfl)
      go_simp
      exact hK _ _ ⟨hs2, hbl, u4, _, u9, u10, rfl, (fun h => f0 (Inv.gg hb h)), (fun h => f1 d1), (fun h _ => f01 (Inv.gg hb h) d1), (fun h => by have := f2 (Inv.gg hb h); exact ⟨by rw [hb, if_neg (by decide)]; exact this.1, this.2⟩), (fun _ => ⟨by rw [hb, if_neg (by decide)]; exact d1, rfl⟩)⟩
  case fin =>
    intro l1 a1 W hI hready
    obtain ⟨hsz, hbl, u4, u5, u9, u10, rfl, f0, f1, f01, f2, f3⟩ := hI
    have d0 := Inv.done (j := 0) hready rfl (by omega) (by simp)
    have d1 := Inv.done (j := 1) hready rfl (by omega) (by simp)
    have d2 := Inv.done (j := 2) hready rfl (by omega) (fun e he _ => by simp at he; (repeat (rcases he with rfl | he; · assumption)); all_goals (subst he; assumption))
    have d3 := Inv.done (j := 3) hready rfl (by omega) (fun e he _ => by simp at he; (repeat (rcases he with rfl | he; · assumption)); all_goals (subst he; assumption))
    obtain ⟨ga, rfl, hga, hka⟩ := f0 d0
    obtain ⟨gd, rfl, hgd, hkd⟩ := f1 d1
    obtain ⟨_, rfl⟩ := f2 d2
    obtain ⟨_, rfl⟩ := f3 d3
    have hne : ga ≠ gd := fun e => f01 d0 d1 (by subst e; rfl)
    have HM : Hid (MemD w ga gd W (kindsN l 0) (distsN l 0)) := ⟨hka, hkd, hne, hga, hgd, hbl⟩
    clear f0 f1 f01 f2 f3 d0 d1 d2 d3 hka hkd hready hsz hbl
    show Exit.then _ _ Exit.normal ⟨#[.slice a len cap, undef, .slice none 0 0, .slice none 0 0, .slice (some ⟨ga, 0, none⟩) 511 511, .slice (some ⟨gd, 0, none⟩) 13 13, undef, undef, undef, .slice (some ⟨ga, 0, none⟩) 511 511, .slice (some ⟨gd, 0, none⟩) 13 13, undef, undef, undef, undef, undef, undef, undef, undef, undef, undef, undef, undef, undef, undef, undef, undef, undef, undef, undef, undef, undef, undef, undef, undef, undef, undef, undef, undef, undef, undef, undef, undef, undef, undef, undef, undef, undef, undef, undef, undef, undef], []⟩ W
    go_wp2_with fail
    go_loopw [6] (fun x wr => ∃ k : Nat, k ≤ len ∧ x = .int .i64 (k : Int) ∧ Hid (MemD w ga gd wr (kindsN l k) (distsN l k))) (fun x _ => len - (intOf x).toNat)
    case atStart => exact ⟨0, by omega, rfl, HM.out⟩
    case round =>
      obtain ⟨k, hk, rfl, HMK⟩ := hrel
      clear HM
      by_cases hlt : k < len
      · have hkz : (k : Int) < (len : Int) := by omega
        have hbel := HMK.out.bel
        obtain ⟨b, off, rfl, hbw, hc⟩ := HR.out.cells (by rw [← HL.out]; omega)
        obtain ⟨c0, c1, c2⟩ := hc k (by rw [← HL.out]; exact hlt)
        have d0 := (hbel.cell (p := ⟨b, off + k * 3, none⟩) hbw).trans c0
        have d1 := (hbel.cell (p := ⟨b, off + k * 3 + 1, none⟩) hbw).trans c1
        have d2 := (hbel.cell (p := ⟨b, off + k * 3 + 2, none⟩) hbw).trans c2
        have h8 := wf_u8 (HR.out.fits k (by rw [← HL.out]; exact hlt)).2.2
        have htwo := chk_two (HALL.out k (by rw [← HL.out]; exact hlt)) h8
        have HKN : Hid (kindsN l (k + 1) = upL (kindsN l k) (symZ (l.getD k tk0)).toNat) := rfl
        have HDN : Hid (distsN l (k + 1) = if 0 < (l.getD k tk0).1 then upL (distsN l k) (dstZ (l.getD k tk0).1).toNat else distsN l k) := rfl
        have HKL := hid (kinds_length l k)
        have HDL := hid (dists_length l k)
        have HKE := hid (kinds_le l k)
        have HDE := hid (dists_le l k)
        have HCK := hid (rsymbol_ref (l.getD k tk0) wr (by rcases htwo with h | h; exact Or.inl h.1; exact Or.inr ⟨h.2.2.1, h.2.2.2.1⟩) h8)
        generalize kindsN l k = KK at *
        generalize distsN l k = DD at *
        obtain ⟨KK1, hk1⟩ : ∃ x, x = kindsN l (k + 1) := ⟨_, rfl⟩
        obtain ⟨DD1, hd1⟩ : ∃ x, x = distsN l (k + 1) := ⟨_, rfl⟩
        rw [← hk1] at HKN
        rw [← hd1] at HDN
        have HK1 := hid hk1
        have HDD1 := hid hd1
        clear hk1 hd1
        clear hc c0 c1 c2 h8
        generalize l.getD k tk0 = t at *
        have hsr : 0 ≤ symZ t ∧ symZ t < 511 := by rcases htwo with h | h; exact h.2; exact h.2.2.2.2
        obtain ⟨s, hs⟩ := Int.eq_ofNat_of_zero_le hsr.1
        rw [hs] at HCK HKN
        rw [Int.toNat_natCast] at HKN
        have hs511 : (s : Int) < 511 := by omega
        have hd : t.1 = 0 ∨ (1 ≤ t.1 ∧ t.1 ≤ 4096) := by rcases htwo with h | h; exact Or.inl h.1; exact Or.inr ⟨h.1, h.2.1⟩
        clear htwo hs hsr
        obtain ⟨d, n, x⟩ := t
        unfold zC at HCK
        dsimp only at *
        have HCB : Hid (∀ V, Below wr.heap.size wr V → V.cell? ⟨b, off + k * 3, none⟩ = some (.int .i64 d)) := fun V hV => (hV.cell (p := ⟨b, off + k * 3, none⟩) (Nat.lt_of_lt_of_le hbw hbel.size)).trans d0
        have HM0 := HMK
        clear hbel HMK
        go_wp2_with fail
        refine HCK.out.mono ?_
        rintro _ w2 ⟨rfl, hb2⟩
        have HM2 := hid (HM0.out.later hb2)
        have HBA := hid HM2.out.ba
        have e2 := HCB.out w2 hb2
        have HE2 := hid e2
        clear hb2 HCK HM0 d0 d1 d2 e2
        have ck := (Joins.cell_of_block HM2.out.ks s).trans (arr_get .i64 _ s (by rw [HKL.out]; omega))
        have fk := Joins.unfrozen_of_block HM2.out.ks s
        have hv := HKE.out s
        have HM3 := hid (HM2.out.putK s (KK.getD s 0 + 1))
        have HE3 : Hid ((w2.setCell ⟨ga, s, none⟩ (.int .i64 ((KK.getD s 0 + 1 : Nat) : Int))).cell? ⟨b, off + k * 3, none⟩ = some (.int .i64 d)) := by
          show _ = _
          rw [cell_congr (heap_put_other HM2.out.ks (by have := HBA.out; omega) _)]; exact HE2.out
        have hup : KK.set s (KK.getD s 0 + 1) = KK1 := by rw [HKN.out]; rfl
        rw [hup] at HM3
        clear hup
        generalize KK.getD s 0 = v at *
        have hv1 : ((v + 1 : Nat) : Int) = (v : Int) + 1 := by omega
        rw [hv1] at HM3 HE3
        clear hv1 HM2 HE2 HCB
        have m0 := HE3.out
        rcases hd with hd | hd
        · subst hd
          have HD1 : Hid (DD1 = DD) := by show _ = _; rw [HDN.out, if_neg (by omega)]
          rw [← HD1.out] at HM3
          clear HD1 HDN HDE HDL HE3
          go_wp2
          exact ⟨⟨k + 1, by omega, by go_num, by rw [← HK1.out, ← HDD1.out]; exact HM3.out⟩, by simp [intOf]; omega⟩
        · obtain ⟨hd1, hd2⟩ := hd
          have hdr := dst_rng hd1 hd2
          obtain ⟨q, hq⟩ := Int.eq_ofNat_of_zero_le hdr.1
          have hq13 : (q : Int) < 13 := by omega
          have hpos : 0 < d := by omega
          have HDW := hid (rdist_ref d (w2.setCell ⟨ga, s, none⟩ (.int .i64 ((v : Int) + 1))) hd1 hd2)
          rw [hq] at HDW
          have HDN2 : Hid (DD1 = upL DD q) := by show _ = _; rw [HDN.out, if_pos hpos, hq]; rfl
          clear HDN hdr hq HE3
          go_wp2_with fail
          go_at_call 36
          refine HDW.out.mono ?_
          rintro _ w4 ⟨rfl, hw⟩
          obtain rfl := hw.symm
          clear hw HDW m0 ck fk
          generalize w2.setCell ⟨ga, s, none⟩ (.int .i64 ((v : Int) + 1)) = W3 at *
          have cd := (Joins.cell_of_block HM3.out.ds q).trans (arr_get .i64 _ q (by rw [HDL.out]; omega))
          have fd := Joins.unfrozen_of_block HM3.out.ds q
          have hu := HDE.out q
          have HM4 := hid (HM3.out.putD q (DD.getD q 0 + 1))
          have hup : DD.set q (DD.getD q 0 + 1) = DD1 := by rw [HDN2.out]; rfl
          rw [hup] at HM4
          clear hup HDN2 HM3
          generalize DD.getD q 0 = u at *
          have hu1 : ((u + 1 : Nat) : Int) = (u : Int) + 1 := by omega
          rw [hu1] at HM4
          clear hu1
          go_wp2
          exact ⟨⟨k + 1, by omega, by go_num, by rw [← HK1.out, ← HDD1.out]; exact HM4.out⟩, by simp [intOf]; omega⟩
      · obtain rfl : k = len := by omega
        have HK2 := hid (kinds_length l k)
        have HD2 := hid (dists_length l k)
        have HKE := hid (kinds_le l k)
        have HDE := hid (dists_le l k)
        have HRA := hid (ri_arr HMK.out.ks (by rw [HK2.out]; omega) (fun j => by have := HKE.out j; omega))
        have HRD := hid (ri_arr HMK.out.ds (by rw [HD2.out]; omega) (fun j => by have := HDE.out j; omega))
        rw [HK2.out] at HRA
        rw [HD2.out] at HRD
        go_wp2
        go_ret2
        exact ⟨ga, gd, rfl, HRA.out, HRD.out, HMK.out.bel⟩
end Go.Proofs.YtelnefngkdfcoaaGreat
/-
  The contract of the document's least.
-/
namespace Go.Proofs.YtelnefngkdfcoaaGreat
open Go.RowKit Hf

namespace Hf
def lstK (wt inn : Nat → Int) (no : Int) : Nat → Int
  | 0 => -1
  | k + 1 => if (k : Int) ≠ no ∧ inn k < 0 ∧ (lstK wt inn no k < 0 ∨ wt k < wt (lstK wt inn no k).toNat) then (k : Int) else lstK wt inn no k
theorem lstK_rng (wt inn : Nat → Int) (no : Int) : ∀ k, -1 ≤ lstK wt inn no k ∧ lstK wt inn no k < (k : Int) ∨ (k = 0 ∧ lstK wt inn no k = -1)
  | 0 => Or.inr ⟨rfl, rfl⟩
  | k + 1 => by
    left
    rw [lstK]
    have := lstK_rng wt inn no k
    split <;> omega
end Hf

set_option maxHeartbeats 3200000 in
set_option maxRecDepth 100000 in
theorem least_ref (g n cap : Nat) (no : Int) (wt inn : Nat → Int) (w : World) (hn : n ≤ 100000) (hg : g < w.heap.size)
    (hc : ∀ i, i < n → w.cell? ⟨g, i * 3, none⟩ = some (.int .i64 (wt i)) ∧ w.cell? ⟨g, i * 3 + 1, none⟩ = some (.int .i64 (inn i))) :
    Calls Tryz.prog 96 #[.slice (some ⟨g, 0, none⟩) n cap, .int .i64 no] w fun e w' => e = .returned (.int .i64 (lstK wt inn no n)) ∧ Below w.heap.size w w' := by
  have HC := hid hc
  clear hc
  go_enter Tryz.func96, Tryz.ntmps96
  go_wp2
  go_loopw [5, 6] (fun x y wr => ∃ k : Nat, k ≤ n ∧ x = .int .i64 (lstK wt inn no k) ∧ y = .int .i64 k ∧ Hid (Below w.heap.size w wr)) (fun _ y _ => n - (intOf y).toNat)
  case atStart => exact ⟨0, by omega, rfl, rfl, Below.refl _ _⟩
  case round =>
    obtain ⟨k, hk, rfl, rfl, HB⟩ := hrel
    by_cases hlt : k < n
    · have hkz : (k : Int) < (n : Int) := by omega
      have HL := hid (show lstK wt inn no (k + 1) = if (k : Int) ≠ no ∧ inn k < 0 ∧ (lstK wt inn no k < 0 ∨ wt k < wt (lstK wt inn no k).toNat) then (k : Int) else lstK wt inn no k from rfl)
      have hr := lstK_rng wt inn no k
      have c1 : wr.cell? ⟨g, k * 3, none⟩ = some (.int .i64 (wt k)) := (HB.out.cell (p := ⟨g, k * 3, none⟩) hg).trans (HC.out k hlt).1
      have c2 : wr.cell? ⟨g, k * 3 + 1, none⟩ = some (.int .i64 (inn k)) := (HB.out.cell (p := ⟨g, k * 3 + 1, none⟩) hg).trans (HC.out k hlt).2
      by_cases h1 : (k : Int) = no
      · have e1 : ((k : Int) != no) = false := by simp [h1]
        rw [if_neg (fun h => h.1 h1)] at HL
        clear h1
        generalize lstK wt inn no k = best at *
        go_wp2_with fail
        go_big_quiet (fail)
        have HB2 := hid (bel_drewN HB.out nq)
        clear c1 c2 HB
        generalize wr.drewN nq = W at *
        go_wp2
        exact ⟨⟨k + 1, by omega, by rw [HL.out], by go_num, HB2⟩, by simp [intOf]; omega⟩
      · have e1 : ((k : Int) != no) = true := by simp [h1]
        by_cases h2 : inn k < 0
        · by_cases h3 : lstK wt inn no k < 0
          · rw [if_pos ⟨h1, h2, Or.inl h3⟩] at HL
            clear h1
            generalize lstK wt inn no k = best at *
            generalize inn k = y at *
            generalize wt k = x at *
            go_wp2_with fail
            go_big_quiet (fail)
            have HB2 := hid (bel_drewN HB.out nq)
            clear c1 c2 HB
            generalize wr.drewN nq = W at *
            go_wp2
            exact ⟨⟨k + 1, by omega, by rw [HL.out], by go_num, HB2⟩, by simp [intOf]; omega⟩
          · obtain ⟨q, hq⟩ : ∃ q : Nat, lstK wt inn no k = (q : Int) := ⟨(lstK wt inn no k).toNat, by omega⟩
            rw [hq, Int.toNat_natCast] at HL
            have hqk : q < k := by omega
            have hqn : (q : Int) < (n : Int) := by omega
            have c3 : wr.cell? ⟨g, q * 3, none⟩ = some (.int .i64 (wt q)) := (HB.out.cell (p := ⟨g, q * 3, none⟩) hg).trans (HC.out q (by omega)).1
            have h3' : ¬ (q : Int) < 0 := by omega
            have h3d : decide ((q : Int) < 0) = false := decide_eq_false h3'
            by_cases h4 : wt k < wt q
            · rw [if_pos ⟨h1, h2, Or.inr h4⟩] at HL
              rw [hq]
              clear h1 h3 hr hq
              generalize inn k = y at *
              generalize wt k = x at *
              generalize wt q = z at *
              go_wp2_with fail
              go_big_quiet (fail)
              have HB2 := hid (bel_drewN HB.out nq)
              clear c1 c2 c3 HB
              generalize wr.drewN nq = W at *
              go_wp2
              exact ⟨⟨k + 1, by omega, by rw [HL.out], by go_num, HB2⟩, by simp [intOf]; omega⟩
            · rw [if_neg (fun h => by rcases h.2.2 with h | h; exact h3' h; exact h4 h)] at HL
              have h4d : decide (wt k < wt q) = false := decide_eq_false h4
              rw [hq]
              clear h1 h3 hr hq
              generalize inn k = y at *
              generalize wt k = x at *
              generalize wt q = z at *
              go_wp2_with fail
              go_big_quiet (fail)
              have HB2 := hid (bel_drewN HB.out nq)
              clear c1 c2 c3 HB
              generalize wr.drewN nq = W at *
              go_wp2
              exact ⟨⟨k + 1, by omega, by rw [HL.out], by go_num, HB2⟩, by simp [intOf]; omega⟩
        · rw [if_neg (fun h => h2 h.2.1)] at HL
          have h2d : decide (inn k < 0) = false := decide_eq_false h2
          clear h1
          generalize lstK wt inn no k = best at *
          generalize inn k = y at *
          generalize wt k = x at *
          go_wp2_with fail
          go_big_quiet (fail)
          have HB2 := hid (bel_drewN HB.out nq)
          clear c1 c2 HB
          generalize wr.drewN nq = W at *
          go_wp2
          exact ⟨⟨k + 1, by omega, by rw [HL.out], by go_num, HB2⟩, by simp [intOf]; omega⟩
    · have hkz : ¬ (k : Int) < (n : Int) := by omega
      obtain rfl : k = n := by omega
      go_wp2
      go_ret
      exact ⟨rfl, HB.out⟩
end Go.Proofs.YtelnefngkdfcoaaGreat
/-
  Plain facts: the document's tree of counts is the code's, its symbols in another order.
-/
namespace Go.Proofs.YtelnefngkdfcoaaGreat
namespace Hf

theorem lstK_some {wt inn : Nat → Int} {no : Int} {x : Nat} (h1 : (x : Int) ≠ no) (h2 : inn x < 0) :
    ∀ n : Nat, (∀ y : Nat, y < n → (y : Int) ≠ no → inn y < 0 → y ≠ x → wt x < wt y ∨ (wt x = wt y ∧ x < y)) → (n ≤ x → lstK wt inn no n = -1 ∨ ∃ y : Nat, lstK wt inn no n = (y : Int) ∧ y < n ∧ (y : Int) ≠ no ∧ inn y < 0) ∧ (x < n → lstK wt inn no n = (x : Int))
  | 0, _ => ⟨fun _ => Or.inl rfl, fun h => by omega⟩
  | n + 1, h => by
    have ih := lstK_some h1 h2 n (fun y hy => h y (by omega))
    refine ⟨fun hx => ?_, fun hx => ?_⟩
    · rw [lstK]
      split
      · rename_i hc
        exact Or.inr ⟨n, rfl, by omega, hc.1, hc.2.1⟩
      · rcases ih.1 (by omega) with e | ⟨y, e, hy, hn, hi⟩
        · exact Or.inl e
        · exact Or.inr ⟨y, e, by omega, hn, hi⟩
    · by_cases e : n = x
      · subst e
        rw [lstK, if_pos]
        refine ⟨h1, h2, ?_⟩
        rcases ih.1 (Nat.le_refl _) with e | ⟨y, e, hy, hn, hi⟩
        · left; omega
        · right
          rw [e, Int.toNat_natCast]
          have := h y (by omega) hn hi (by omega)
          omega
      · rw [lstK, ih.2 (by omega), if_neg]
        intro hc
        rw [Int.toNat_natCast] at hc
        have := h n (by omega) hc.1 hc.2.1 e
        omega
theorem lstK_none {wt inn : Nat → Int} {no : Int} : ∀ n : Nat, (∀ y : Nat, y < n → (y : Int) = no ∨ ¬ inn y < 0) → lstK wt inn no n = -1
  | 0, _ => rfl
  | n + 1, h => by
    rw [lstK, if_neg, lstK_none n (fun y hy => h y (by omega))]
    intro hc
    rcases h n (by omega) with e | e
    · exact hc.1 e
    · exact e hc.2.1

structure DS where
  W : List Int
  I : List Int
def lstD (d : DS) (no : Int) : Int := lstK (fun i => d.W.getD i 0) (fun i => d.I.getD i 0) no d.W.length
def stepD (d : DS) : DS :=
  ⟨d.W ++ [d.W.getD (lstD d (-1)).toNat 0 + d.W.getD (lstD d (lstD d (-1))).toNat 0],
   ((d.I.set (lstD d (-1)).toNat (d.W.length : Int)).set (lstD d (lstD d (-1))).toNat (d.W.length : Int)) ++ [-1]⟩
def startD (cs : List Int) : DS := ⟨(nz cs cs.length).map (key cs), List.replicate (nz cs cs.length).length (-1)⟩
def runD (cs : List Int) : Nat → DS
  | 0 => startD cs
  | t + 1 => stepD (runD cs t)

structure Pi (m : Nat) (N : Nodes) (f : Nat → Nat) : Prop where
  low : ∀ j, j < m → f j < m
  high : ∀ j, m ≤ j → f j = j
  inj : ∀ i j, i < m → j < m → f i = f j → i = j
  sur : ∀ i, i < m → ∃ j, j < m ∧ f j = i
  ord : ∀ i j, i < j → j < m → wt N i < wt N j ∨ (wt N i = wt N j ∧ f i < f j)
theorem Pi.inj' {m : Nat} {N : Nodes} {f : Nat → Nat} (h : Pi m N f) {i j : Nat} (e : f i = f j) : i = j := by
  by_cases hi : i < m <;> by_cases hj : j < m
  · exact h.inj i j hi hj e
  · have := h.low i hi; rw [h.high j (by omega)] at e; omega
  · have := h.low j hj; rw [h.high i (by omega)] at e; omega
  · rw [h.high i (by omega), h.high j (by omega)] at e; exact e
theorem Pi.sur' {m : Nat} {N : Nodes} {f : Nat → Nat} (h : Pi m N f) (i : Nat) : ∃ j, f j = i ∧ (i < m → j < m) ∧ (m ≤ i → j = i) := by
  by_cases hi : i < m
  · obtain ⟨j, hj, e⟩ := h.sur i hi
    exact ⟨j, e, fun _ => hj, fun h => by omega⟩
  · exact ⟨i, h.high i (by omega), fun h => by omega, fun _ => rfl⟩

theorem take_lex {n : Nat} {N : Nodes} {f : Nat → Nat} {l p : Nat} (hf : Pi n N f) (hp : ∀ i j, n ≤ i → i ≤ j → j < N.length → wt N i ≤ wt N j) (ln : l ≤ n) (np : n ≤ p) (pl : p ≤ N.length) (hfree : 0 < (n - l) + (N.length - p)) :
    ∀ j, ((l ≤ j ∧ j < n) ∨ (p ≤ j ∧ j < N.length)) → j ≠ takeA n N l p → wt N (takeA n N l p) < wt N j ∨ (wt N (takeA n N l p) = wt N j ∧ f (takeA n N l p) < f j) := by
  intro j hj hne
  have h1 := take_one (n := n) (N := N) ln np pl hfree
  unfold takeA at hne ⊢
  cases hu : useLeaf n N l p with
  | true =>
    rw [hu] at hne
    simp only [if_true] at hne ⊢
    have hl : l < n := by
      unfold useLeaf at hu
      rw [Bool.or_eq_true, beq_iff_eq, Bool.and_eq_true, decide_eq_true_eq] at hu
      omega
    rcases hj with hj | hj
    · exact hf.ord l j (by omega) hj.2
    · unfold useLeaf at hu
      rw [Bool.or_eq_true, beq_iff_eq, Bool.and_eq_true, decide_eq_true_eq, decide_eq_true_eq] at hu
      have h2 := hp p j np hj.1 hj.2
      have h3 := hf.low l hl
      rw [hf.high j (by omega)]
      omega
  | false =>
    rw [hu] at hne
    simp only [Bool.false_eq_true, if_false] at hne ⊢
    unfold useLeaf at hu
    rw [Bool.or_eq_false_iff, Bool.and_eq_false_iff, decide_eq_false_iff_not, decide_eq_false_iff_not] at hu
    rcases hj with hj | hj
    · left
      have h2 : ¬ wt N l ≤ wt N p := by
        rcases hu.2 with h | h
        · omega
        · exact h
      by_cases e : l = j
      · subst e; omega
      · have := hf.ord l j (by omega) hj.2; omega
    · have h2 := hp p j np hj.1 hj.2
      rw [hf.high p np, hf.high j (by omega)]
      omega
structure PS (n t : Nat) (s : TS) : Prop where
  pair : ∀ i j, n ≤ i → i ≤ j → j < n + t → wt s.N i ≤ wt s.N j
  last : 0 < t → ∀ i j, i ≠ j → ((s.l ≤ i ∧ i < n) ∨ (s.p ≤ i ∧ i < n + t)) → ((s.l ≤ j ∧ j < n) ∨ (s.p ≤ j ∧ j < n + t)) → wt s.N (n + t - 1) ≤ wt s.N i + wt s.N j
theorem PS.step {n : Nat} {C : Int} {t : Nat} {s : TS} (h : TI n C t s) (hl : ∀ i j, i ≤ j → j < n → wt s.N i ≤ wt s.N j) (hP : PS n t s) (ht : t + 2 ≤ n) : PS n (t + 1) (stepH n s) := by
  have hlen := h.len
  have hln := h.ln
  have hnp := h.np
  have hpl := h.pl
  have hcnt := h.cnt
  have hpos := h.pos
  obtain ⟨_, _, _, s4, s5⟩ := step_inn h ht
  obtain ⟨a1, a2, a3, a4, a5, _, a7⟩ := take_one (n := n) (N := s.N) (l := s.l) (p := s.p) h.ln h.np (by omega) (by omega)
  obtain ⟨b1, b2, b3, b4, b5, _, b7⟩ := take_one (n := n) (N := s.N) (l := takeL n s.N s.l s.p) (p := takeP n s.N s.l s.p) a2 a3 a4 (by omega)
  have m1 := take_min (n := n) (N := s.N) (l := s.l) (p := s.p) hl (by rw [hlen]; exact hP.pair) h.np
  have m2 := take_min (n := n) (N := s.N) (l := takeL n s.N s.l s.p) (p := takeP n s.N s.l s.p) hl (by rw [hlen]; exact hP.pair) a3
  have hA : oneA n s = takeA n s.N s.l s.p := rfl
  have hB : oneB n s = takeA n s.N (takeL n s.N s.l s.p) (takeP n s.N s.l s.p) := rfl
  rw [← hA] at a1 a7 m1
  rw [← hB] at b1 b7 m2
  have hl2 : (stepH n s).l = takeL n s.N (takeL n s.N s.l s.p) (takeP n s.N s.l s.p) := rfl
  have hp2 : (stepH n s).p = takeP n s.N (takeL n s.N s.l s.p) (takeP n s.N s.l s.p) := rfl
  rw [← hl2, ← hp2] at b5 b7
  rw [← hl2] at b2
  rw [← hp2] at b3 b4
  rw [hlen] at a1 a4 a7 b1 b4 b7 m1 m2 s4 s5
  have hlast := hP.last
  clear hA hB hl2 hp2
  generalize oneA n s = A at *
  generalize oneB n s = B at *
  generalize takeL n s.N s.l s.p = l1 at *
  generalize takeP n s.N s.l s.p = p1 at *
  have fA : (s.l ≤ A ∧ A < n) ∨ (s.p ≤ A ∧ A < n + t) := by omega
  have fB : (s.l ≤ B ∧ B < n) ∨ (s.p ≤ B ∧ B < n + t) := by omega
  have hab := m1 B fB
  refine ⟨fun i j e1 e2 e3 => ?_, fun _ i j hne e1 e2 => ?_⟩
  · by_cases c1 : j < n + t
    · rw [s4 i (by omega), s4 j c1]; exact hP.pair i j e1 e2 c1
    · obtain rfl : j = n + t := by omega
      by_cases c2 : i = n + t
      · rw [c2]; omega
      · rw [s4 i (by omega), s5]
        have h1 := hP.pair i (n + t - 1) e1 (by omega) (by omega)
        have h2 := hlast (by omega) A B (by omega) fA fB
        omega
  · rw [show n + (t + 1) - 1 = n + t from by omega, s5]
    have hge : ∀ x, x < n + t → (((stepH n s).l ≤ x ∧ x < n) ∨ ((stepH n s).p ≤ x ∧ x < n + (t + 1))) → wt s.N B ≤ wt s.N x := fun x hx hfx => m2 x (by omega)
    by_cases c1 : i < n + t
    · have h1 := hge i c1 e1
      rw [s4 i c1]
      by_cases c2 : j < n + t
      · have h2 := hge j c2 e2
        rw [s4 j c2]; omega
      · obtain rfl : j = n + t := by omega
        rw [s5]
        have := hpos i
        omega
    · obtain rfl : i = n + t := by omega
      rw [s5]
      have := hpos j
      rw [s4 j (by omega)]; omega
theorem wt_tree (ws : List Int) (h : ∀ i, 0 ≤ ws.getD i 0) : ∀ t, t + 1 ≤ ws.length → ∀ i, i < ws.length → wt (treeT ws t).N i = ws.getD i 0
  | 0, _, i, _ => wt_start ws i
  | t + 1, ht, i, hi => by
    have hI := TI.run ws h t (by omega)
    have hs := (step_inn hI (by omega)).2.2.2.1 i (by rw [hI.len]; omega)
    have e : treeT ws (t + 1) = stepH ws.length (treeT ws t) := rfl
    rw [e, hs]
    exact wt_tree ws h t (by omega) i hi
theorem PS.run (ws : List Int) (h : ∀ i, 0 ≤ ws.getD i 0) (hs : ∀ i j, i ≤ j → j < ws.length → ws.getD i 0 ≤ ws.getD j 0) : ∀ t, t + 1 ≤ ws.length → PS ws.length t (treeT ws t)
  | 0, _ => ⟨fun i j a b c => by omega, fun h => by omega⟩
  | t + 1, ht => PS.step (TI.run ws h t (by omega)) (fun i j a b => by rw [wt_tree ws h t (by omega) i (by omega), wt_tree ws h t (by omega) j b]; exact hs i j a b) (PS.run ws h hs t (by omega)) (by omega)
end Hf
end Go.Proofs.YtelnefngkdfcoaaGreat
