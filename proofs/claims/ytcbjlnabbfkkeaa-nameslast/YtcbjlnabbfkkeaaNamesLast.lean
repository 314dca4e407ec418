/-
  NamesLast is proved for every input: a path has the file of its last record, and a record changes no other one's; no condition.
-/
import Derived.Test.YtcbjlnabbfkkeaaNmZ
import Derived.Test.YtcbjlnabbfkkeaaRcQa
namespace Go.Proofs.Ytcbjlnabbfkkeaa.namesLast
open Go.ChangeShapes Go.WideShapes Go.ChangeAt Go.RowKit Go.Deep Go.Lib

theorem own : ownKnob Try.prog.godebug = none := by kernel_rfl
set_option maxRecDepth 100000 in
/-- Behind the region that joins the rows. -/
def AftL (W1 : World) (N : Nat) (rc : List Value) (s : ByteArray) (L : List Rec) (ex : Exit) (A : Act) (V : World) : Prop :=
  ex = .normal ∧ ∃ (a : Option Addr) (n cap : Nat), n = L.length ∧ Rr V a cap L ∧ (∀ b off, a = some ⟨b, off, none⟩ → W1.heap.size ≤ b) ∧ Below W1.heap.size W1 V ∧ ∃ (u : Nat → Value), A = ⟨#[.slice a n cap, .agg rc.toArray, .string s, u 3, .pointer (some ⟨N, 0, none⟩), u 5, .bool false, u 7, u 8, u 9, u 10, u 11, u 12, u 13, u 14, u 15, u 16, u 17, u 18, u 19, u 20, u 21, u 22, u 23, u 24, u 25, u 26, u 27, u 28, u 29, u 30, u 31, u 32, u 33, u 34, u 35, u 36, u 37, u 38, u 39, u 40, u 41, u 42, u 43, u 44, u 45, u 46, u 47, u 48, u 49, u 50, u 51, u 52, u 53, u 54, u 55, u 56, u 57, u 58, u 59, u 60, u 61, u 62, u 63, u 64, u 65, u 66, u 67, u 68, u 69, u 70, u 71, u 72, u 73, u 74, u 75, u 76, u 77, u 78, u 79, u 80, u 81, u 82, u 83, u 84, u 85, u 86, u 87, u 88, u 89, u 90, u 91, u 92, u 93, u 94, u 95, u 96, u 97, u 98, u 99, u 100, u 101, u 102, u 103, u 104, u 105, u 106, u 107, u 108, u 109, u 110, u 111, u 112, u 113, u 114, u 115, u 116, u 117, u 118, u 119, u 120, u 121, u 122, u 123, u 124, u 125, u 126, u 127, u 128, u 129, u 130, u 131, u 132, u 133, u 134, u 135, u 136, u 137, u 138, u 139, u 140, u 141, u 142, u 143, u 144, u 145, u 146], []⟩
set_option maxRecDepth 100000 in
theorem aftL_mk {W1 : World} {N : Nat} {rc : List Value} {s : ByteArray} {L : List Rec} {V : World} (a : Option Addr) (n cap : Nat) (ts : Array Value) (h1 : n = L.length) (h2 : Rr V a cap L) (h3 : ∀ b off, a = some ⟨b, off, none⟩ → W1.heap.size ≤ b) (h4 : Below W1.heap.size W1 V)
    (hts : ts = #[.slice a n cap, .agg rc.toArray, .string s, ts.getD 3 undef, .pointer (some ⟨N, 0, none⟩), ts.getD 5 undef, .bool false, ts.getD 7 undef, ts.getD 8 undef, ts.getD 9 undef, ts.getD 10 undef, ts.getD 11 undef, ts.getD 12 undef, ts.getD 13 undef, ts.getD 14 undef, ts.getD 15 undef, ts.getD 16 undef, ts.getD 17 undef, ts.getD 18 undef, ts.getD 19 undef, ts.getD 20 undef, ts.getD 21 undef, ts.getD 22 undef, ts.getD 23 undef, ts.getD 24 undef, ts.getD 25 undef, ts.getD 26 undef, ts.getD 27 undef, ts.getD 28 undef, ts.getD 29 undef, ts.getD 30 undef, ts.getD 31 undef, ts.getD 32 undef, ts.getD 33 undef, ts.getD 34 undef, ts.getD 35 undef, ts.getD 36 undef, ts.getD 37 undef, ts.getD 38 undef, ts.getD 39 undef, ts.getD 40 undef, ts.getD 41 undef, ts.getD 42 undef, ts.getD 43 undef, ts.getD 44 undef, ts.getD 45 undef, ts.getD 46 undef, ts.getD 47 undef, ts.getD 48 undef, ts.getD 49 undef, ts.getD 50 undef, ts.getD 51 undef, ts.getD 52 undef, ts.getD 53 undef, ts.getD 54 undef, ts.getD 55 undef, ts.getD 56 undef, ts.getD 57 undef, ts.getD 58 undef, ts.getD 59 undef, ts.getD 60 undef, ts.getD 61 undef, ts.getD 62 undef, ts.getD 63 undef, ts.getD 64 undef, ts.getD 65 undef, ts.getD 66 undef, ts.getD 67 undef, ts.getD 68 undef, ts.getD 69 undef, ts.getD 70 undef, ts.getD 71 undef, ts.getD 72 undef, ts.getD 73 undef, ts.getD 74 undef, ts.getD 75 undef, ts.getD 76 undef, ts.getD 77 undef, ts.getD 78 undef, ts.getD 79 undef, ts.getD 80 undef, ts.getD 81 undef, ts.getD 82 undef, ts.getD 83 undef, ts.getD 84 undef, ts.getD 85 undef, ts.getD 86 undef, ts.getD 87 undef, ts.getD 88 undef, ts.getD 89 undef, ts.getD 90 undef, ts.getD 91 undef, ts.getD 92 undef, ts.getD 93 undef, ts.getD 94 undef, ts.getD 95 undef, ts.getD 96 undef, ts.getD 97 undef, ts.getD 98 undef, ts.getD 99 undef, ts.getD 100 undef, ts.getD 101 undef, ts.getD 102 undef, ts.getD 103 undef, ts.getD 104 undef, ts.getD 105 undef, ts.getD 106 undef, ts.getD 107 undef, ts.getD 108 undef, ts.getD 109 undef, ts.getD 110 undef, ts.getD 111 undef, ts.getD 112 undef, ts.getD 113 undef, ts.getD 114 undef, ts.getD 115 undef, ts.getD 116 undef, ts.getD 117 undef, ts.getD 118 undef, ts.getD 119 undef, ts.getD 120 undef, ts.getD 121 undef, ts.getD 122 undef, ts.getD 123 undef, ts.getD 124 undef, ts.getD 125 undef, ts.getD 126 undef, ts.getD 127 undef, ts.getD 128 undef, ts.getD 129 undef, ts.getD 130 undef, ts.getD 131 undef, ts.getD 132 undef, ts.getD 133 undef, ts.getD 134 undef, ts.getD 135 undef, ts.getD 136 undef, ts.getD 137 undef, ts.getD 138 undef, ts.getD 139 undef, ts.getD 140 undef, ts.getD 141 undef, ts.getD 142 undef, ts.getD 143 undef, ts.getD 144 undef, ts.getD 145 undef, ts.getD 146 undef]) : AftL W1 N rc s L .normal ⟨ts, []⟩ V :=
  ⟨rfl, a, n, cap, h1, h2, h3, h4, fun i => ts.getD i undef, congrArg (fun x => (⟨x, []⟩ : Act)) hts⟩
theorem aftL_no {W1 : World} {N : Nat} {rc : List Value} {s : ByteArray} {L : List Rec} {c : List PanicEntry} {a : Act} {w : World} (h : AftL W1 N rc s L (.panic c) a w) : False := by
  cases h.1
set_option maxHeartbeats 12800000 in
set_option maxRecDepth 100000 in
theorem walk (a : Option Addr) (cap : Nat) (l : List Rec) (r : Rec) (s : ByteArray) (w : World) (hr : Rr w a cap l) (hR : Rv w r) (hs : s.size ≤ maxLen) (hreach : l.length * 104 ≤ 140737488351232) :
    Calls Try.prog 7 #[.slice a l.length cap, .agg r.cs.toArray, .string s] w fun e w' => e = .returned (.bool true) ∧ Below w.heap.size w w' := by
  obtain ⟨i0, hi, hz0, hz1, hz2⟩ := info_parts Try.info36
  have HLL := hid (Rec.cs_len hR.len)
  have hB0 := bel_alc w (.cells r.cs.toArray 36)
  obtain ⟨W1, hW1⟩ : ∃ W1, W1 = w.alloc (.cells r.cs.toArray 36) := ⟨_, rfl⟩
  have HW1 := hid hW1
  rw [← hW1] at hB0
  have hbn : W1.heap[w.heap.size]? = some (.cells r.cs.toArray 36) := by rw [hW1]; exact heap_alc w _
  have HBX := hid (fun X (hX : Below W1.heap.size W1 X) => blk_later hbn hX)
  have HB0 := hid hB0
  have HR1 := hid (hr.later hB0)
  have HSL := hid hs
  obtain ⟨LL, hLL⟩ : ∃ LL, LL = l ++ [r] := ⟨_, rfl⟩
  have HRVL : Hid (∀ x ∈ LL, Rv W1 x) := fun x hx => by
    rw [hLL, List.mem_append] at hx
    rcases hx with hx | hx
    · exact (hr.fits x hx).later hB0
    · rw [List.mem_singleton.1 hx]; exact hR.later hB0
  have HLE := hid hLL
  have hpos : 1 ≤ (fewL LL).length := by rw [hLL]; simp [fewL]; omega
  have hle := fewL_len LL
  have HFV : Hid (∀ y ∈ fewL LL, Rv w y) := fun y hy => by
    unfold fewL at hy
    obtain ⟨x, hx, rfl⟩ := List.mem_map.1 hy
    have hx := List.mem_of_mem_take hx
    rw [hLL, List.mem_append] at hx
    refine cut_rv ?_
    rcases hx with hx | hx
    · exact hr.fits x hx
    · rw [List.mem_singleton.1 hx]; exact hR
  clear hLL hr hR hB0 hW1 hbn hs
  go_enter Try.func7, Try.ntmps7
  go_wp2
  rw [← HW1.out]
  refine Code.wp_mono (Q := AftL W1 w.heap.size r.cs s (fewL LL)) ?_ ?_
  · intro ex A V hq
    obtain ⟨rfl, a6, n, cap6, hn, hr6, hf6, hb6, u, rfl⟩ := hq
    obtain ⟨L, hL⟩ : ∃ L, L = fewL LL := ⟨_, rfl⟩
    rw [← hL] at hn hr6 hpos hle HFV
    have hsw : W1.heap.size = w.heap.size + 1 := by rw [HW1.out]; simp
    obtain ⟨m, hm⟩ : ∃ m, n = m + 1 := ⟨n - 1, by omega⟩
    have HML : Hid (L.length = m + 1) := by show _ = _; omega
    have hm25 : m < 25 := by omega
    clear hL
    obtain ⟨b, off, rfl, hbw, hc⟩ := hr6.cells (by omega)
    have hfb : W1.heap.size ≤ b := hf6 b off rfl
    have hrg := hc m (by omega)
    have hRv := hr6.get (j := m) (by omega)
    have HR6 := hid hr6
    have HBV := hid hb6
    have HBW := hid (HBX.out V hb6)
    obtain ⟨R, hRd⟩ : ∃ R, R = L.getD m recZ := ⟨_, rfl⟩
    rw [← hRd] at hrg hRv
    have HRG := hid hrg
    have HRw : Hid (Rv w R) := by rw [hRd]; exact HFV.out _ (by simp [List.getD, List.getElem?_eq_getElem (show m < L.length by omega)])
    have HCC := hid hc
    have HRL := hid hr6.none0
    have HRM := hid hr6.most
    have HRO := hid hr6.room
    have HRV := hid hRv
    have HLR := hid (Rec.cs_len hRv.len)
    have HSR := hid (size_recs hRv.len)
    have HSZ : Hid (r.cs.toArray.size = R.cs.toArray.size) := by show _ = _; rw [List.size_toArray, List.size_toArray, HLL.out, HLR.out]
    have hn0 : ¬ (n : Int) = 0 := by omega
    have hn1 : (n : Int) - 1 = (m : Int) := by omega
    have hmn : (m : Int) < (n : Int) := by omega
    clear hrg hRv hr6 hf6 hb6 hc hRd hn hpos hle
    go_wp2_with (first | refine wpList_load_P rfl 36 _ rfl b (off + m * 38) rfl R.cs _ HRG.out Try.underlying36 rfl (by rw [HLR.out]; exact Try.size36) ?_ | refine wpList_store_W rfl 36 _ _ rfl rfl w.heap.size R.cs.toArray rfl rfl 36 _ HBW.out HSR.out HSZ.out (all_oneCell_toArray (Rec.cs_one _)) ?_ | fail)
    intro W3 HG3 HB3 HS3
    clear HBX HRVL HLE HR1 HLL HRG HSR HSZ HBW hn1 hmn i0 hi hz0 hz1 hz2
    have HXw : Hid (Below w.heap.size w W3) := (Bn HB0.out HBV.out).trans (bel_grown HB3.out (Nat.le_refl _) (Bn HB0.out HBV.out).size)
    have HC3 : Hid (∀ k, k < m → W3.rangeAt b (off + k * 38) (L.getD k recZ).cs) := fun k hk j v hv => (World.cell?_of_block (w' := W3) (w := V) (a := ⟨b, off + k * 38 + j, none⟩) (HB3.out.block b hbw (fun e => by injection e with e; omega))).trans (HCC.out k (by rw [HML.out]; omega) j v hv)
    have HBL : Hid (b < W3.heap.size) := by show _ < _; rw [HS3.out]; exact hbw
    have HRK : Hid (∀ k, k < m → Rv w (L.getD k recZ)) := fun k hk => HFV.out _ (by simp [List.getD, List.getElem?_eq_getElem (show k < L.length by rw [HML.out]; omega)])
    clear HB3 HS3 HCC HRL HRM HRO HR6 HBV HB0 HW1 hsw hfb hbw hn0 HFV HML HRV
    generalize hLG : (fun k => L.getD k recZ) = LG at *
    have HLG := hid (fun k => congrFun hLG k)
    clear hLG
    go_wp2_with fail
    refine (new_word W3.heap.size W3).mono ?_
    rintro _ W4 ⟨rfl, hn4, hb4⟩
    have HB4 := hid hb4
    obtain ⟨G, hG⟩ : ∃ G, G = W3.heap.size := ⟨_, rfl⟩
    have HGW := hid hG
    rw [← hG] at hn4 ⊢
    have HN4 := hid hn4
    clear hn4 hb4 hG
    go_wp2
    go_loopw [8] (fun x8 wr => ∃ (k : Nat) (M : List Fl), k ≤ m ∧ x8 = .int .i64 (k : Int) ∧ Hid (Nm G wr (G + 1) G M) ∧ Hid (Below W3.heap.size W3 wr)) (fun x8 _ => m - (intOf x8).toNat)
    case atStart => exact ⟨0, [], by omega, rfl, HN4.out, HB4.out⟩
    case round =>
      obtain ⟨k, M, hk, rfl, HN, HB⟩ := hrel
      have hn1 : ((m + 1 : Nat) : Int) - 1 = (m : Int) := by omega
      by_cases hkm : k < m
      · have hkz : (k : Int) < (m : Int) := by omega
        have hk1 : (k : Int) < ((m + 1 : Nat) : Int) := by omega
        have hrg := HC3.out k hkm
        have hRv := HRK.out k hkm
        rw [HLG.out k] at hrg hRv
        generalize LG k = X at *
        have HRG : Hid (wr.rangeAt b (off + k * 38) X.cs) := fun j v hv => (HB.out.cell (p := ⟨b, off + k * 38 + j, none⟩) HBL.out).trans (hrg j v hv)
        have HRX : Hid (Rv wr X) := hRv.later (HXw.out.trans (HB.out.mono HXw.out.size))
        have HLX := hid (Rec.cs_len hRv.len)
        clear hrg hRv
        go_wp2_with (first | refine wpList_load_P rfl 36 _ rfl b (off + k * 38) rfl X.cs _ HRG.out Try.underlying36 rfl (by rw [HLX.out]; exact Try.size36) ?_ | fail)
        refine (apply_word wr (G + 1) G M G HN.out X HRX.out (by rw [HGW.out]; exact HB.out.size)).mono ?_
        rintro _ W5 ⟨rfl, M', hn5, _, hg5⟩
        have HN5 := hid hn5
        have HB5 : Hid (Below W3.heap.size W3 W5) := HB.out.trans (bel_grown hg5 (by rw [HGW.out]; exact Nat.le_refl _) HB.out.size)
        clear hn5 hg5
        go_wp2
        go_round
        case rel => exact ⟨k + 1, M', by omega, by go_num, HN5.out, HB5.out⟩
        case measure => simp [intOf]; omega
      · have hke : k = m := by omega
        subst hke
        have HXr : Hid (Below w.heap.size w wr) := HXw.out.trans (HB.out.mono HXw.out.size)
        have HGw : Hid (w.heap.size ≤ G) := by rw [HGW.out]; exact HXw.out.size
        have HBXr := hid (blk_later HG3.out HB.out)
        have HGr : Hid (G < wr.heap.size) := HN.out.lt.2
        have HY := hid Try.zero51
        clear HC3 HRK HLG HG3 HBL HB HN4 HB4 HXw HGW
        go_wp2_with fail
        refine (stat_st wr (G + 1) G M G HN.out s HSL.out).mono ?_
        rintro _ W5 ⟨was, e, rfl, hst, hrp, hfar, hb5⟩
        have HST := hid hst
        have HRP5 := hid hrp
        have HB5 := hid hb5
        clear hst hrp hfar hb5
        go_wp2_with (first | refine wpList_alloc_W rfl 51 rfl (some 9) rfl _ HY.out W5.heap.size rfl ?_ | fail)
        intro W6 HG6 HB6 HS6
        go_wp2_with (first | refine wpList_store_W rfl 51 _ _ rfl rfl W5.heap.size was.cs.toArray rfl rfl 51 _ HG6.out Try.size51 rfl (Fi.one _) ?_ | fail)
        intro W7 HG7 HB7 HS7
        have HX57 : Hid (Below W5.heap.size W5 W7) := HB6.out.trans (bel_grown HB7.out (Nat.le_refl _) HB6.out.size)
        have HBX7 := hid (blk_later (blk_later HBXr.out HB5.out) HX57.out)
        have HN7 := hid ((HN.out.later HB5.out).later HX57.out)
        have HRP7 := hid (HRP5.out.later HX57.out)
        have HX7 := hid (Bn (Bn HXr.out HB5.out) HX57.out)
        have HN7l : Hid (G < W7.heap.size) := HN7.out.lt.2
        clear HG6 HB6 HS6 HB7 HS7 HX57 HB5 HRP5 HN HBXr HXr
        generalize W5.heap.size = t9 at *
        go_wp2_with fail
        refine (copy_word W7 (G + 1) G M G HN7.out).mono ?_
        rintro _ W8 ⟨n', g', Mc, rfl, hnc, hcpy, hb8, hg', hn'⟩
        have HNC8 := hid hnc
        have HCP := hid hcpy
        have HN8 := hid (HN7.out.later hb8)
        have HBX8 := hid (blk_later HBX7.out hb8)
        have HG8 := hid (blk_later HG7.out hb8)
        have HRP8 := hid (HRP7.out.later hb8)
        have HX8 := hid (Bn HX7.out hb8)
        have HGg : Hid (G < g') := Nat.lt_of_lt_of_le HN7l.out hg'
        have HGn : Hid (G < n') := Nat.lt_of_lt_of_le HN7l.out hn'
        clear hnc hcpy hb8 hg' hn' HN7 HBX7 HG7 HRP7 HX7
        go_wp2_with (first | refine wpList_load_P rfl 36 _ rfl w.heap.size 0 rfl R.cs _ (blk_range HBX8.out) Try.underlying36 rfl (by rw [HLR.out]; exact Try.size36) ?_ | fail)
        refine (apply_word W8 (G + 1) G M G HN8.out R (HRw.out.later HX8.out) (Nat.le_of_lt HN8.out.lt.2)).mono ?_
        rintro _ W9 ⟨rfl, M', hn9, hap, hg9⟩
        have HN9 := hid hn9
        have HAP := hid hap
        have HNC9 := hid (HNC8.out.grown hg9 (Nat.ne_of_lt HGn.out) (Nat.ne_of_lt HGg.out) HN7l.out)
        have HG9 := hid (HN8.out.keeps hg9 HG8.out)
        have HBX9 := hid (HN8.out.keeps hg9 HBX8.out)
        have HRP9 := hid (HN8.out.rp hg9 HRP8.out)
        have HX9 : Hid (Below w.heap.size w W9) := HX8.out.trans (bel_grown hg9 HGw.out HX8.out.size)
        obtain ⟨f, hf⟩ : ∃ f, f = mayE M R := ⟨_, rfl⟩
        rw [← hf]
        have HF := hid hf
        clear hn9 hap hg9 hf HN8 HNC8 HG8 HBX8 HRP8 HX8
        go_wp2_with fail
        refine (stat_st W9 (G + 1) G M' G HN9.out s HSL.out).mono ?_
        rintro _ W10 ⟨now, g, rfl, hst, hrp, hfar, hb10⟩
        have HSN := hid hst
        have HRPn := hid hrp
        have HB10 := hid hb10
        clear hst hrp hfar hb10
        go_wp2_with (first | refine wpList_alloc_W rfl 51 rfl (some 13) rfl _ HY.out W10.heap.size rfl ?_ | fail)
        intro W11 HG11 HB11 HS11
        go_wp2_with (first | refine wpList_store_W rfl 51 _ _ rfl rfl W10.heap.size now.cs.toArray rfl rfl 51 _ HG11.out Try.size51 rfl (Fi.one _) ?_ | fail)
        intro W12 HG12 HB12 HS12
        have HX1012 : Hid (Below W10.heap.size W10 W12) := HB11.out.trans (bel_grown HB12.out (Nat.le_refl _) HB11.out.size)
        have HX12w : Hid (Below W9.heap.size W9 W12) := Bn HB10.out HX1012.out
        have HBX12 := hid (blk_later HBX9.out HX12w.out)
        have HW12 := hid (blk_later HG9.out HX12w.out)
        have HNC12 := hid (HNC9.out.later HX12w.out)
        have HRPw12 := hid (HRP9.out.later HX12w.out)
        have HRPn12 := hid (HRPn.out.later HX1012.out)
        have HX12 := hid (Bn HX9.out HX12w.out)
        clear HG11 HB11 HS11 HB12 HS12 HX1012 HX12w HB10 HRPn HN9 HNC9 HG9 HBX9 HRP9 HX9
        generalize W10.heap.size = t13 at *
        go_wp2_with fail
        refine (stat_st W12 n' g' Mc W7.heap.size HNC12.out s HSL.out).mono ?_
        rintro _ W13 ⟨old, h, rfl, hst, hrp, hfar, hb13⟩
        obtain ⟨hsm, rfl⟩ := st_cpy HST.out hst HCP.out
        have HSM := hid hsm
        have HRPo := hid hrp
        have HB13 := hid hb13
        clear hst hrp hfar hb13 hsm
        go_wp2_with (first | refine wpList_alloc_W rfl 51 rfl (some 15) rfl _ HY.out W13.heap.size rfl ?_ | fail)
        intro W14 HG14 HB14 HS14
        go_wp2_with (first | refine wpList_store_W rfl 51 _ _ rfl rfl W13.heap.size old.cs.toArray rfl rfl 51 _ HG14.out Try.size51 rfl (Fi.one _) ?_ | fail)
        intro W15 HG15 HB15 HS15
        have HX1315 : Hid (Below W13.heap.size W13 W15) := HB14.out.trans (bel_grown HB15.out (Nat.le_refl _) HB14.out.size)
        have HX15w : Hid (Below W12.heap.size W12 W15) := Bn HB13.out HX1315.out
        have HBX15 := hid (blk_later HBX12.out HX15w.out)
        have HWAS := hid (blk_later HW12.out HX15w.out)
        have HNOW := hid (blk_later HG12.out HX15w.out)
        have HRPw := hid (HRPw12.out.later HX15w.out)
        have HRPn := hid (HRPn12.out.later HX15w.out)
        have HRPo2 := hid (HRPo.out.later HX1315.out)
        have HX15 := hid (Bn HX12.out HX15w.out)
        clear HG14 HB14 HS14 HB15 HS15 HX1315 HX15w HB13 HRPo HNC12 HW12 HG12 HBX12 HRPw12 HRPn12 HX12 HCP HY HGg HGn HN7l
        generalize W13.heap.size = t15 at *
        obtain ⟨i1, hi1, hy0, hy1, hy2⟩ := info_parts Try.info51
        go_wp2_with (first | refine wpList_load_P rfl 51 _ rfl t9 0 rfl was.cs _ (blk_range HWAS.out) Try.underlying51 rfl Try.size51 ?_ | refine wpList_buildOne rfl 27 51 _ rfl (some 76) rfl was.cs.toArray i1 _ Try.underlying27 hi1 hy0 (hy1.trans rfl) (show 0 < 4 from by decide) (show 4 ≤ 1000 from by decide) rfl ?_ | refine wpList_load_P rfl 51 _ rfl t15 0 rfl old.cs _ (blk_range (heap_old _ _ HG15.out)) Try.underlying51 rfl Try.size51 ?_ | refine wpList_buildOne rfl 27 51 _ rfl (some 78) rfl old.cs.toArray i1 _ Try.underlying27 hi1 hy0 (hy1.trans rfl) (show 0 < 4 from by decide) (show 4 ≤ 1000 from by decide) rfl ?_ | fail)
        refine (same_two W15 was old HRPw.out HRPo2.out HSM.out).mono ?_
        rintro _ W16 ⟨rfl, hb16⟩
        have HX16 := hid (Bn HX15.out hb16)
        have HBX16 := hid (blk_later HBX15.out hb16)
        have HWAS16 := hid (blk_later HWAS.out hb16)
        have HNOW16 := hid (blk_later HNOW.out hb16)
        have HRPw16 := hid (HRPw.out.later hb16)
        have HRPn16 := hid (HRPn.out.later hb16)
        clear hb16 HSM HBX15 HWAS HNOW HRPw HRPn HRPo2 HX15 HG15
        have HWAS := HWAS16
        have HNOW := HNOW16
        have HRPw := HRPw16
        have HRPn := HRPn16
        clear HWAS16 HNOW16 HRPw16 HRPn16
        have hbx : Bx W16 w.heap.size R := ⟨HBX16.out, HRw.out.len⟩
        have c34 := hbx.c34
        have c36 := hbx.c36
        have HBXX := hid hbx
        clear hbx
        by_cases hf0 : f = 0
        · have HK := hid (may_kind (HF.out.symm.trans hf0))
          by_cases hk1 : R.kind = 1
          · skip
            have he : fnd M' s = fnd M s := app_other HAP.out (by rw [← HF.out]; exact .inr (.inl hk1))
            obtain ⟨hsm, rfl⟩ := st_same HST.out HSN.out he
            have HSM := hid hsm
            clear he hsm
            go_wp2_with (first | refine wpList_load_P rfl 51 _ rfl t9 0 rfl was.cs _ (blk_range HWAS.out) Try.underlying51 rfl Try.size51 ?_ | refine wpList_buildOne rfl 27 51 _ rfl (some 100) rfl was.cs.toArray i1 _ Try.underlying27 hi1 hy0 (hy1.trans rfl) (show 0 < 4 from by decide) (show 4 ≤ 1000 from by decide) rfl ?_ | refine wpList_load_P rfl 51 _ rfl t13 0 rfl now.cs _ (blk_range (heap_old _ _ HNOW.out)) Try.underlying51 rfl Try.size51 ?_ | refine wpList_buildOne rfl 27 51 _ rfl (some 102) rfl now.cs.toArray i1 _ Try.underlying27 hi1 hy0 (hy1.trans rfl) (show 0 < 4 from by decide) (show 4 ≤ 1000 from by decide) rfl ?_ | fail)
            refine (same_two W16 was now HRPw.out HRPn.out HSM.out).mono ?_
            rintro _ W17 ⟨rfl, hb17⟩
            have HX17 := hid (Bn HX16.out hb17)
            clear hb17
            go_wp2_with fail
            refine (alive_word _).mono ?_
            rintro _ W18 ⟨rfl, hb18⟩
            have HX18 := hid (Bn HX17.out hb18)
            clear hb18
            go_wp2
            go_ret
            exact ⟨rfl, HX18.out⟩
          · by_cases hp : R.path = s
            · have c0 := HBXX.out.c0
              have c37 := HBXX.out.c37
              by_cases hk3 : R.kind = 3
              · have hg := st_none HSN.out (by rw [← hp]; exact app_del HAP.out (HF.out.symm.trans hf0) hk3)
                subst hg
                have hpl : R.path.toList = s.toList := by rw [hp]
                clear c0 c37
                go_wp2_with fail
                refine (alive_word _).mono ?_
                rintro _ W18 ⟨rfl, hb18⟩
                have HX18 := hid (Bn HX16.out hb18)
                clear hb18
                go_wp2
                go_ret
                exact ⟨rfl, HX18.out⟩
              · have hk2 : R.kind = 2 := by
                  rcases HK.out with h | h | h
                  · exact absurd h hk1
                  · exact h
                  · exact absurd h hk3
                obtain ⟨f2, h1, h2, h3, h4⟩ := app_put HAP.out (HF.out.symm.trans hf0) hk2
                rw [hp] at h1
                obtain ⟨hg, g1, g2, g3⟩ := st_some HSN.out h1
                subst hg
                have n0 : W16.cell? ⟨t13, 0, none⟩ = some (.string s) := (Joins.cell_of_block HNOW.out 0).trans (by show some (Value.string now.path) = _; rw [g1, h2, hp])
                have n2 : W16.cell? ⟨t13, 2, none⟩ = some (.int .i64 R.seq) := (Joins.cell_of_block HNOW.out 2).trans (by show some (Value.int .i64 now.seq) = _; rw [g2, h3])
                have n3 : W16.cell? ⟨t13, 3, none⟩ = some (.slice now.a R.ps.length now.cap) := (Joins.cell_of_block HNOW.out 3).trans (by show some (Value.slice now.a now.ps.length now.cap) = _; rw [g3, h4])
                have hpl : R.path.toList = s.toList := by rw [hp]
                clear h1 h2 h3 h4 g1 g2 g3
                go_wp2_with fail
                refine (alive_word _).mono ?_
                rintro _ W18 ⟨rfl, hb18⟩
                have HX18 := hid (Bn HX16.out hb18)
                clear hb18
                go_wp2
                go_ret
                exact ⟨rfl, HX18.out⟩
            · have hpl : (R.path.toList == s.toList) = false := beq_eq_false_iff_ne.2 (fun e => hp (ba_inj e))
              have HP := hid hp
              clear hp
              have he : fnd M' s = fnd M s := app_other HAP.out (by rw [← HF.out]; exact .inr (.inr HP.out))
              obtain ⟨hsm, rfl⟩ := st_same HST.out HSN.out he
              have HSM := hid hsm
              clear he hsm
              go_wp2_with (first | refine wpList_load_P rfl 51 _ rfl t9 0 rfl was.cs _ (blk_range HWAS.out) Try.underlying51 rfl Try.size51 ?_ | refine wpList_buildOne rfl 27 51 _ rfl (some 100) rfl was.cs.toArray i1 _ Try.underlying27 hi1 hy0 (hy1.trans rfl) (show 0 < 4 from by decide) (show 4 ≤ 1000 from by decide) rfl ?_ | refine wpList_load_P rfl 51 _ rfl t13 0 rfl now.cs _ (blk_range (heap_old _ _ HNOW.out)) Try.underlying51 rfl Try.size51 ?_ | refine wpList_buildOne rfl 27 51 _ rfl (some 102) rfl now.cs.toArray i1 _ Try.underlying27 hi1 hy0 (hy1.trans rfl) (show 0 < 4 from by decide) (show 4 ≤ 1000 from by decide) rfl ?_ | fail)
              refine (same_two W16 was now HRPw.out HRPn.out HSM.out).mono ?_
              rintro _ W17 ⟨rfl, hb17⟩
              have HX17 := hid (Bn HX16.out hb17)
              clear hb17
              go_wp2_with fail
              refine (alive_word _).mono ?_
              rintro _ W18 ⟨rfl, hb18⟩
              have HX18 := hid (Bn HX17.out hb18)
              clear hb18
              go_wp2
              go_ret
              exact ⟨rfl, HX18.out⟩
        · have he : fnd M' s = fnd M s := app_other HAP.out (by rw [← HF.out]; exact .inl hf0)
          obtain ⟨hsm, rfl⟩ := st_same HST.out HSN.out he
          have HSM := hid hsm
          clear he hsm
          go_wp2_with (first | refine wpList_load_P rfl 51 _ rfl t9 0 rfl was.cs _ (blk_range HWAS.out) Try.underlying51 rfl Try.size51 ?_ | refine wpList_buildOne rfl 27 51 _ rfl (some 100) rfl was.cs.toArray i1 _ Try.underlying27 hi1 hy0 (hy1.trans rfl) (show 0 < 4 from by decide) (show 4 ≤ 1000 from by decide) rfl ?_ | refine wpList_load_P rfl 51 _ rfl t13 0 rfl now.cs _ (blk_range (heap_old _ _ HNOW.out)) Try.underlying51 rfl Try.size51 ?_ | refine wpList_buildOne rfl 27 51 _ rfl (some 102) rfl now.cs.toArray i1 _ Try.underlying27 hi1 hy0 (hy1.trans rfl) (show 0 < 4 from by decide) (show 4 ≤ 1000 from by decide) rfl ?_ | fail)
          refine (same_two W16 was now HRPw.out HRPn.out HSM.out).mono ?_
          rintro _ W17 ⟨rfl, hb17⟩
          have HX17 := hid (Bn HX16.out hb17)
          clear hb17
          go_wp2_with fail
          refine (alive_word _).mono ?_
          rintro _ W18 ⟨rfl, hb18⟩
          have HX18 := hid (Bn HX17.out hb18)
          clear hb18
          go_wp2
          go_ret
          exact ⟨rfl, HX18.out⟩
  · refine wp_region_held_drew (S := fun X => Below W1.heap.size W1 X) (by kernel_rfl) (Below.refl _ _).drew (fun hS_v0 => ?_)
    generalize W1.drew = v0 at *
    simp only [List.size_toArray, List.length_cons, List.length_nil, Nat.reduceAdd]
    refine Ord.take (i := 1) (d := 18) (v := ?vA1) rfl rfl (by as_aux_lemma => kernel_rfl) (by as_aux_lemma => kernel_rfl) (by as_aux_lemma => kernel_rfl) (fun _ _ _ h => (aftL_no h).elim) (by rfl) ?hA1 (by assumption) ?_
    case hA1 => intro wx hSw; go_simp; try with_reducible rfl
    simp only [List.setIfInBounds_toArray, List.set_cons_zero, List.set_cons_succ]
    refine Ord.take (i := 3) (d := 20) (v := .agg r.cs.toArray) rfl rfl (by as_aux_lemma => kernel_rfl) (by as_aux_lemma => kernel_rfl) (by as_aux_lemma => kernel_rfl) (fun _ _ _ h => (aftL_no h).elim) (by rfl) ?hA3 (by assumption) ?_
    case hA3 => intro wx hSw; exact exec_load 36 (.tmp 4) rfl w.heap.size 0 rfl (run_loadVar_row (P := Try.prog) wx w.heap.size 36 36 r.cs.toArray (0, 0) _ (HBX.out _ hSw) Try.underlying36 rfl (by rw [List.size_toArray, HLL.out]; exact Try.size36))
    simp only [List.setIfInBounds_toArray, List.set_cons_zero, List.set_cons_succ]
    refine wpAnyH_ready (rs := [0, 4]) (by as_aux_lemma => kernel_rfl) (by simp) (AllReadyH.cons rfl (fun K hK => ?_) (AllReadyH.cons rfl (fun K hK => ?_) (AllReadyH.nil)))
    · rw [if_pos (by rfl)]
      refine wp_buildEmpty rfl W1.heap.size v0.heap.size hS_v0.size rfl (fun va HOE_va HBE_va => ?_)
      have hS_va : Below W1.heap.size W1 va := Bn hS_v0 HBE_va.out
      refine hK.out _ _ hS_va (fun _ => ?_)
      clear hK K
      try simp only [List.setIfInBounds_toArray, List.set_cons_zero, List.set_cons_succ]
      refine wpAnyH_ready (rs := [2, 4]) (by as_aux_lemma => kernel_rfl) (by simp) (AllReadyH.cons rfl (fun K hK => ?_) (AllReadyH.cons rfl (fun K hK => ?_) (AllReadyH.nil)))
      · rw [if_pos (by rfl)]
        refine wp_append_rr _ _ rfl W1.heap.size _ 0 [] rfl HOE_va.out a cap l rfl (HR1.out.later hS_va) (by omega) hS_va.size (fun v19 vb HP_vb HB_vb => ?_)
        have HO_vb : Hid (vb.ownsRow W1.heap.size 36 38 v19 l.length (l.flatMap Rec.cs)) := by
          show World.ownsRow _ _ _ _ _ _ _
          simpa using HP_vb.out
        have hS_vb : Below W1.heap.size W1 vb := hS_va.trans ((Below.refl _ _).grown HB_vb.out hS_va.size (fun j hj => (HOE_va.out.lt j hj).1))
        refine hK.out _ _ hS_vb (fun _ => ?_)
        clear hK K
        try simp only [List.setIfInBounds_toArray, List.set_cons_zero, List.set_cons_succ]
        refine wpAnyH_ready (rs := [4]) (by as_aux_lemma => kernel_rfl) (by simp) (AllReadyH.cons rfl (fun K hK => ?_) (AllReadyH.nil))
        rw [if_pos (by rfl)]
        refine wp_buildOne_W 22 36 _ rfl r.cs.toArray i0 _ Try.underlying22 hi hz0 (by rw [hz1, List.size_toArray, HLL.out]) (by rw [List.size_toArray, HLL.out]; decide) (by rw [List.size_toArray, HLL.out]; decide) rfl vb.heap.size rfl ?_
        intro vc HG_vc HB_vc
        have hS_vc : Below W1.heap.size W1 vc := Bn hS_vb HB_vc.out
        refine hK.out _ _ hS_vc (fun _ => ?_)
        clear hK K
        try simp only [List.setIfInBounds_toArray, List.set_cons_zero, List.set_cons_succ]
        refine wpAnyH_ready (rs := [5]) (by as_aux_lemma => kernel_rfl) (by simp) (AllReadyH.cons rfl (fun K hK => ?_) (AllReadyH.nil))
        rw [if_pos (by rfl)]
        refine wp_append_own _ _ _ 22 rfl W1.heap.size 36 i0 _ 38 104 Try.underlying22 hi hz0 hz1 hz2 rfl (by decide) _ l.length _ rfl (own_later HO_vb.out HB_vc.out) ⟨vb.heap.size, 0, none⟩ 1 1 r.cs rfl (by rw [HLL.out]) (fun j u hu => (by rw [add_plain, Nat.zero_add]; exact (Joins.cell_of_block HG_vc.out j).trans (by rw [List.getElem?_toArray]; exact hu))) (Rec.cs_one _) (by unfold maxLen; omega) (by omega) hS_vc.size (fun v22 vy ho5 hg5 _ => ?_)
        have hS_vy : Below W1.heap.size W1 vy := hS_vc.trans ((Below.refl _ _).grown hg5 hS_vc.size (fun j hj => ((own_later HO_vb.out HB_vc.out).lt j hj).1))
        have hown : vy.ownsRow W1.heap.size 36 38 v22 LL.length (LL.flatMap Rec.cs) := by
          rw [HLE.out, List.length_append, List.flatMap_append]
          simpa using ho5
        obtain ⟨a5, cap5, hv5, hr5⟩ := Rr.own hown (fun x hx => (HRVL.out x hx).later hS_vy)
        subst hv5
        have HR5 := hid hr5
        clear ho5 hg5 hown hr5
        refine hK.out _ _ hS_vy (fun _ => ?_)
        clear hK K
        try simp only [List.setIfInBounds_toArray, List.set_cons_zero, List.set_cons_succ]
        refine wpAnyH_ready (rs := [6]) (by as_aux_lemma => kernel_rfl) (by simp) (AllReadyH.cons rfl (fun K hK => ?_) (AllReadyH.nil))
        go_simp
        refine (few_word a5 cap5 LL vy HR5.out).mono ?_
        rintro _ vz ⟨a6, cap6, rfl, hr6, hf6, hb6⟩
        have hS_vz := Bn hS_vy hb6
        have HR6 := hid hr6
        have HF6 : Hid (∀ b off, a6 = some ⟨b, off, none⟩ → W1.heap.size ≤ b) := fun b off e => Nat.le_trans hS_vy.size (hf6 b off e)
        clear hr6 hf6 hb6
        refine hK.out _ _ hS_vz (fun _ => ?_)
        clear hK K
        try simp only [List.setIfInBounds_toArray, List.set_cons_zero, List.set_cons_succ]
        refine Ord.take (i := 7) (d := 0) (v := ?vB7) rfl rfl (by as_aux_lemma => kernel_rfl) (by as_aux_lemma => kernel_rfl) (by as_aux_lemma => kernel_rfl) (fun _ _ _ h => (aftL_no h).elim) (by rfl) ?hB7 (by assumption) ?_
        case hB7 => intro wx hSw; go_simp; try with_reducible rfl
        simp only [List.setIfInBounds_toArray, List.set_cons_zero]
        refine wpAnyH_done (by as_aux_lemma => kernel_rfl) ?_ _
        exact aftL_mk a6 _ cap6 _ rfl HR6.out HF6.out hS_vz (by kernel_rfl)
      · rw [if_pos (by rfl)]
        refine wp_buildOne_W 22 36 _ rfl r.cs.toArray i0 _ Try.underlying22 hi hz0 (by rw [hz1, List.size_toArray, HLL.out]) (by rw [List.size_toArray, HLL.out]; decide) (by rw [List.size_toArray, HLL.out]; decide) rfl va.heap.size rfl ?_
        intro vb HG_vb HB_vb
        have hS_vb : Below W1.heap.size W1 vb := Bn hS_va HB_vb.out
        refine hK.out _ _ hS_vb (fun _ => ?_)
        clear hK K
        try simp only [List.setIfInBounds_toArray, List.set_cons_zero, List.set_cons_succ]
        refine wpAnyH_ready (rs := [2]) (by as_aux_lemma => kernel_rfl) (by simp) (AllReadyH.cons rfl (fun K hK => ?_) (AllReadyH.nil))
        rw [if_pos (by rfl)]
        refine wp_append_rr _ _ rfl W1.heap.size _ 0 [] rfl (own_later HOE_va.out HB_vb.out) a cap l rfl (HR1.out.later hS_vb) (by omega) hS_vb.size (fun v19 vc HP_vc HB_vc => ?_)
        have HO_vc : Hid (vc.ownsRow W1.heap.size 36 38 v19 l.length (l.flatMap Rec.cs)) := by
          show World.ownsRow _ _ _ _ _ _ _
          simpa using HP_vc.out
        have hS_vc : Below W1.heap.size W1 vc := hS_vb.trans ((Below.refl _ _).grown HB_vc.out hS_vb.size (fun j hj => ((own_later HOE_va.out HB_vb.out).lt j hj).1))
        refine hK.out _ _ hS_vc (fun _ => ?_)
        clear hK K
        try simp only [List.setIfInBounds_toArray, List.set_cons_zero, List.set_cons_succ]
        have hne : v0.heap.size < va.heap.size := (HOE_va.out.lt _ rfl).2
        have HGc : Hid (vc.heap[va.heap.size]? = some (.cells r.cs.toArray 36)) := (HB_vc.out.block _ (Array.getElem?_eq_some_iff.1 HG_vb.out).1 (fun e => by injection e with e; exact Nat.ne_of_gt hne e)).trans HG_vb.out
        refine wpAnyH_ready (rs := [5]) (by as_aux_lemma => kernel_rfl) (by simp) (AllReadyH.cons rfl (fun K hK => ?_) (AllReadyH.nil))
        rw [if_pos (by rfl)]
        refine wp_append_own _ _ _ 22 rfl W1.heap.size 36 i0 _ 38 104 Try.underlying22 hi hz0 hz1 hz2 rfl (by decide) _ l.length _ rfl HO_vc.out ⟨va.heap.size, 0, none⟩ 1 1 r.cs rfl (by rw [HLL.out]) (fun j u hu => (by rw [add_plain, Nat.zero_add]; exact (Joins.cell_of_block HGc.out j).trans (by rw [List.getElem?_toArray]; exact hu))) (Rec.cs_one _) (by unfold maxLen; omega) (by omega) hS_vc.size (fun v22 vy ho5 hg5 _ => ?_)
        have hS_vy : Below W1.heap.size W1 vy := hS_vc.trans ((Below.refl _ _).grown hg5 hS_vc.size (fun j hj => (HO_vc.out.lt j hj).1))
        have hown : vy.ownsRow W1.heap.size 36 38 v22 LL.length (LL.flatMap Rec.cs) := by
          rw [HLE.out, List.length_append, List.flatMap_append]
          simpa using ho5
        obtain ⟨a5, cap5, hv5, hr5⟩ := Rr.own hown (fun x hx => (HRVL.out x hx).later hS_vy)
        subst hv5
        have HR5 := hid hr5
        clear ho5 hg5 hown hr5
        refine hK.out _ _ hS_vy (fun _ => ?_)
        clear hK K
        try simp only [List.setIfInBounds_toArray, List.set_cons_zero, List.set_cons_succ]
        refine wpAnyH_ready (rs := [6]) (by as_aux_lemma => kernel_rfl) (by simp) (AllReadyH.cons rfl (fun K hK => ?_) (AllReadyH.nil))
        go_simp
        refine (few_word a5 cap5 LL vy HR5.out).mono ?_
        rintro _ vz ⟨a6, cap6, rfl, hr6, hf6, hb6⟩
        have hS_vz := Bn hS_vy hb6
        have HR6 := hid hr6
        have HF6 : Hid (∀ b off, a6 = some ⟨b, off, none⟩ → W1.heap.size ≤ b) := fun b off e => Nat.le_trans hS_vy.size (hf6 b off e)
        clear hr6 hf6 hb6
        refine hK.out _ _ hS_vz (fun _ => ?_)
        clear hK K
        try simp only [List.setIfInBounds_toArray, List.set_cons_zero, List.set_cons_succ]
        refine Ord.take (i := 7) (d := 0) (v := ?vC7) rfl rfl (by as_aux_lemma => kernel_rfl) (by as_aux_lemma => kernel_rfl) (by as_aux_lemma => kernel_rfl) (fun _ _ _ h => (aftL_no h).elim) (by rfl) ?hC7 (by assumption) ?_
        case hC7 => intro wx hSw; go_simp; try with_reducible rfl
        simp only [List.setIfInBounds_toArray, List.set_cons_zero]
        refine wpAnyH_done (by as_aux_lemma => kernel_rfl) ?_ _
        exact aftL_mk a6 _ cap6 _ rfl HR6.out HF6.out hS_vz (by kernel_rfl)
    · rw [if_pos (by rfl)]
      refine wp_buildOne_W 22 36 _ rfl r.cs.toArray i0 _ Try.underlying22 hi hz0 (by rw [hz1, List.size_toArray, HLL.out]) (by rw [List.size_toArray, HLL.out]; decide) (by rw [List.size_toArray, HLL.out]; decide) rfl v0.heap.size rfl ?_
      intro va HG_va HB_va
      have hS_va : Below W1.heap.size W1 va := Bn hS_v0 HB_va.out
      refine hK.out _ _ hS_va (fun _ => ?_)
      clear hK K
      try simp only [List.setIfInBounds_toArray, List.set_cons_zero, List.set_cons_succ]
      refine wpAnyH_ready (rs := [0]) (by as_aux_lemma => kernel_rfl) (by simp) (AllReadyH.cons rfl (fun K hK => ?_) (AllReadyH.nil))
      rw [if_pos (by rfl)]
      refine wp_buildEmpty rfl W1.heap.size va.heap.size hS_va.size rfl (fun vb HOE_vb HBE_vb => ?_)
      have hS_vb : Below W1.heap.size W1 vb := Bn hS_va HBE_vb.out
      refine hK.out _ _ hS_vb (fun _ => ?_)
      clear hK K
      try simp only [List.setIfInBounds_toArray, List.set_cons_zero, List.set_cons_succ]
      refine wpAnyH_ready (rs := [2]) (by as_aux_lemma => kernel_rfl) (by simp) (AllReadyH.cons rfl (fun K hK => ?_) (AllReadyH.nil))
      rw [if_pos (by rfl)]
      refine wp_append_rr _ _ rfl W1.heap.size _ 0 [] rfl HOE_vb.out a cap l rfl (HR1.out.later hS_vb) (by omega) hS_vb.size (fun v19 vc HP_vc HB_vc => ?_)
      have HO_vc : Hid (vc.ownsRow W1.heap.size 36 38 v19 l.length (l.flatMap Rec.cs)) := by
        show World.ownsRow _ _ _ _ _ _ _
        simpa using HP_vc.out
      have hS_vc : Below W1.heap.size W1 vc := hS_vb.trans ((Below.refl _ _).grown HB_vc.out hS_vb.size (fun j hj => (HOE_vb.out.lt j hj).1))
      refine hK.out _ _ hS_vc (fun _ => ?_)
      clear hK K
      try simp only [List.setIfInBounds_toArray, List.set_cons_zero, List.set_cons_succ]
      have hne : v0.heap.size < va.heap.size := (Array.getElem?_eq_some_iff.1 HG_va.out).1
      have HGb : Hid (vb.heap[v0.heap.size]? = some (.cells r.cs.toArray 36)) := (HBE_vb.out.block _ hne).trans HG_va.out
      have HGc : Hid (vc.heap[v0.heap.size]? = some (.cells r.cs.toArray 36)) := (HB_vc.out.block _ (Array.getElem?_eq_some_iff.1 HGb.out).1 (fun e => by injection e with e; exact Nat.ne_of_lt hne e)).trans HGb.out
      refine wpAnyH_ready (rs := [5]) (by as_aux_lemma => kernel_rfl) (by simp) (AllReadyH.cons rfl (fun K hK => ?_) (AllReadyH.nil))
      rw [if_pos (by rfl)]
      refine wp_append_own _ _ _ 22 rfl W1.heap.size 36 i0 _ 38 104 Try.underlying22 hi hz0 hz1 hz2 rfl (by decide) _ l.length _ rfl HO_vc.out ⟨v0.heap.size, 0, none⟩ 1 1 r.cs rfl (by rw [HLL.out]) (fun j u hu => (by rw [add_plain, Nat.zero_add]; exact (Joins.cell_of_block HGc.out j).trans (by rw [List.getElem?_toArray]; exact hu))) (Rec.cs_one _) (by unfold maxLen; omega) (by omega) hS_vc.size (fun v22 vy ho5 hg5 _ => ?_)
      have hS_vy : Below W1.heap.size W1 vy := hS_vc.trans ((Below.refl _ _).grown hg5 hS_vc.size (fun j hj => (HO_vc.out.lt j hj).1))
      have hown : vy.ownsRow W1.heap.size 36 38 v22 LL.length (LL.flatMap Rec.cs) := by
        rw [HLE.out, List.length_append, List.flatMap_append]
        simpa using ho5
      obtain ⟨a5, cap5, hv5, hr5⟩ := Rr.own hown (fun x hx => (HRVL.out x hx).later hS_vy)
      subst hv5
      have HR5 := hid hr5
      clear ho5 hg5 hown hr5
      refine hK.out _ _ hS_vy (fun _ => ?_)
      clear hK K
      try simp only [List.setIfInBounds_toArray, List.set_cons_zero, List.set_cons_succ]
      refine wpAnyH_ready (rs := [6]) (by as_aux_lemma => kernel_rfl) (by simp) (AllReadyH.cons rfl (fun K hK => ?_) (AllReadyH.nil))
      go_simp
      refine (few_word a5 cap5 LL vy HR5.out).mono ?_
      rintro _ vz ⟨a6, cap6, rfl, hr6, hf6, hb6⟩
      have hS_vz := Bn hS_vy hb6
      have HR6 := hid hr6
      have HF6 : Hid (∀ b off, a6 = some ⟨b, off, none⟩ → W1.heap.size ≤ b) := fun b off e => Nat.le_trans hS_vy.size (hf6 b off e)
      clear hr6 hf6 hb6
      refine hK.out _ _ hS_vz (fun _ => ?_)
      clear hK K
      try simp only [List.setIfInBounds_toArray, List.set_cons_zero, List.set_cons_succ]
      refine Ord.take (i := 7) (d := 0) (v := ?vD7) rfl rfl (by as_aux_lemma => kernel_rfl) (by as_aux_lemma => kernel_rfl) (by as_aux_lemma => kernel_rfl) (fun _ _ _ h => (aftL_no h).elim) (by rfl) ?hD7 (by assumption) ?_
      case hD7 => intro wx hSw; go_simp; try with_reducible rfl
      simp only [List.setIfInBounds_toArray, List.set_cons_zero]
      refine wpAnyH_done (by as_aux_lemma => kernel_rfl) ?_ _
      exact aftL_mk a6 _ cap6 _ rfl HR6.out HF6.out hS_vz (by kernel_rfl)
set_option maxRecDepth 100000 in
theorem lifted (os : Os) (started : os.Started) (H : Type) (enc : TypeId × Value → H) :
    ReturnsInHanded {} Try.checked os 7 .any (Rows.namesLastSpec.pre6 enc Try.prog Try.f7 Rows.namesLastRow.domain false) (Rows.namesLastSpec.post enc Try.prog Try.f7 false true false false) := by
  refine returnsInHanded_of_change_sized (C := Try.checked) own started (by kernel_rfl) Try.func7
    (ChangeSpec.witness6 (enc := enc) (C := Try.checked) false ⟨#[], #[.slice none 0 0, .agg #[.int .i64 0, .int .i64 0, .int .u8 0, .int .u8 0, .int .u8 0, .int .u8 0, .int .u8 0, .int .u8 0, .int .u8 0, .int .u8 0, .int .u8 0, .int .u8 0, .int .u8 0, .int .u8 0, .int .u8 0, .int .u8 0, .int .u8 0, .int .u8 0, .int .u8 0, .int .u8 0, .int .u8 0, .int .u8 0, .int .u8 0, .int .u8 0, .int .u8 0, .int .u8 0, .int .u8 0, .int .u8 0, .int .u8 0, .int .u8 0, .int .u8 0, .int .u8 0, .int .u8 0, .int .u8 0, .int .i64 0, .int .i64 0, .string ⟨#[]⟩, .slice none 0 0], .string ⟨#[]⟩], []⟩ 8 (by kernel_rfl) (by kernel_rfl) (by kernel_rfl) (by kernel_rfl)) ?_
  intro W base args ds gs before hval0 hW _ hsz _
  have hval : ∀ (j : Nat) t v, Try.f7.params[j]? = some t → args[j]? = some v → Value.okWide Try.prog W .any base t v := hval0
  have hW' := hW
  obtain ⟨p, q, hA0, hV, rfl, _, _⟩ := hW
  have hA : DataW.TrodAll enc Try.prog W 0 (fun _ => true) true Try.f7.params.toList args.toList ds p := hA0
  rw [Try.params7] at hA hval
  obtain ⟨v0, vs0, d0, ds0, p0, q0, hargs, rfl, rfl, h0, r0⟩ := trodAll_cons hA
  obtain ⟨v1, vs1, d1, ds1, p1, q1, rfl, rfl, rfl, h1, r1⟩ := trodAll_cons r0
  obtain ⟨v2, vs2, d2, ds2, p2, q2, rfl, rfl, rfl, h2, r2⟩ := trodAll_cons r1
  obtain ⟨rfl, rfl, rfl⟩ := trodAll_nil r2
  obtain rfl : args = #[v0, v1, v2] := by cases args; simp_all
  obtain ⟨rfl, rfl⟩ := trodVars_none hV
  clear hA0
  simp only [List.append_nil] at hW'
  have hlt0 : ∀ x ∈ p0, x.block < W.heap.size := fun x hx => hW'.lt x (by simp [hx])
  have hk0 := h0
  obtain ⟨a0, cap0, l0, rfl, hr0⟩ := open_recs (hval 0 22 v0 rfl rfl) h0 hlt0
  have hlt1 : ∀ x ∈ p1, x.block < W.heap.size := fun x hx => hW'.lt x (by simp [hx])
  have hk1 := h1
  obtain ⟨x1, rfl, hr1⟩ := open_rec (hval 1 36 v1 rfl rfl) h1 hlt1
  have hlt2 : ∀ x ∈ p2, x.block < W.heap.size := fun x hx => hW'.lt x (by simp [hx])
  have hk2 := h2
  obtain ⟨x2, rfl, hr2⟩ := open_str (hval 2 9 v2 rfl rfl) h2
  clear hval0
  refine (walk a0 cap0 l0 x1 x2 W hr0 hr1 hr2 (recs_reach hk0 hsz (j := 0) rfl rfl)).mono fun e W' ⟨he, hb⟩ => ?_
  subst he
  exact ⟨_, rfl, _, _, _, [] ++ [], _, [], hW', trodAll_cons_mk (shut_bool Try.underlying4 _) trodAll_mk0, (trodAll_cons_mk (Below.trod Try.laidOut (by kernel_rfl) (of_decide_eq_true (by kernel_rfl)) hk0 hb hlt0) (trodAll_cons_mk (Below.trod Try.laidOut (by kernel_rfl) (of_decide_eq_true (by kernel_rfl)) hk1 hb hlt1) (trodAll_cons_mk (Below.trod Try.laidOut (by kernel_rfl) (of_decide_eq_true (by kernel_rfl)) hk2 hb hlt2) trodAll_mk0))), rfl, hb.frame _, fun h => by cases h⟩

theorem over : Rows.namesLastRow.holds Try.pinned (OpenSpec.ofChange Rows.namesLastSpec) :=
  OpenClaim.holds_of_wide 7 Try.f7 rfl rfl rfl rfl rfl rfl rfl ⟨rfl, rfl, rfl, rfl, rfl⟩ rfl rfl rfl rfl rfl (by kernel_rfl) Try.func7 (by kernel_rfl)
    (of_decide_eq_true (by kernel_rfl)) (by unfold Func.isWrapper; first | (rw [if_pos (by decide +kernel)]; kernel_rfl) | (rw [if_neg (by decide +kernel)]; exact ⟨rfl, rfl⟩))
    (fun os started H enc _ => lifted os started H enc)

end Go.Proofs.Ytcbjlnabbfkkeaa.namesLast
namespace Go.Proofs.Ytcbjlnabbfkkeaa
theorem namesLast_holds : Rows.NamesLastSaid := namesLast.over
#print axioms namesLast_holds
end Go.Proofs.Ytcbjlnabbfkkeaa
