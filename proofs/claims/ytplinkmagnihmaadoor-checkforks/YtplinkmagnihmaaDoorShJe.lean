/-
  The contract of the document's Derive. The contracts of mac.Derive and of the document's Of and Derive. The contracts of the document's Sum and Of, of MACs. The contracts of the document's block and xored. A row of bytes of one's own that a string was turned into: its mark lies behind it. What append makes of it.
-/
import Derived.Test.YtplinkmagnihmaaDoorShJd
import Derived.Lib.ConvBytes
import Derived.Test.YtplinkmagnihmaaDoorShJc
namespace Go.Proofs.YtplinkmagnihmaaDoor.Sh
open Go.RowKit Sha

/-- A row of bytes of one's own, marked behind its end, if at all. -/
def OwnM (w : World) (B : Nat) (v : Value) (n : Nat) (xs : List Value) : Prop :=
  xs.length = n ∧ ∃ g cap cur fz, v = .slice (some ⟨g, 0, none⟩) n cap ∧ B ≤ g ∧ w.heap[g]? = some (.cells cur 5 fz) ∧ (fz = (0, 0) ∨ cap ≤ fz.1) ∧ n ≤ cap ∧ cap ≤ maxLen ∧ cur.size = cap ∧ cur.toList.take n = xs

theorem OwnM.later {w w' : World} {B n : Nat} {v : Value} {xs : List Value} (h : OwnM w B v n xs) (hb : Below w.heap.size w w') : OwnM w' B v n xs := by
  obtain ⟨h1, g, cap, cur, fz, hv, hg, hh, hr⟩ := h
  exact ⟨h1, g, cap, cur, fz, hv, hg, (hb.block g (Array.getElem?_eq_some_iff.1 hh).1).trans hh, hr⟩
theorem OwnM.lt {w : World} {B n : Nat} {v : Value} {xs : List Value} (h : OwnM w B v n xs) : ∀ j, v.ownBlock = some j → B ≤ j := by
  obtain ⟨_, g, cap, cur, fz, rfl, hg, _⟩ := h
  intro j hj
  simp [Value.ownBlock] at hj
  omega
theorem OwnM.cellAt {w : World} {B n g cap : Nat} {xs : List Value} (h : OwnM w B (.slice (some ⟨g, 0, none⟩) n cap) n xs) (j : Nat) (hj : j < n) : w.cell? ⟨g, j, none⟩ = xs[j]? := by
  obtain ⟨_, g', cap', cur, fz, hv, _, hh, _, _, _, _, ht⟩ := h
  injection hv with h1 h2 h3
  injection h1 with h1
  injection h1 with h1
  subst h1
  rw [Joins.cell_of_block hh j, ← ht, List.getElem?_take, if_pos hj]
  simp
theorem rd_ownM {w : World} {B : Nat} {v : Value} {l : List Nat} (h : OwnM w B v l.length (V l)) (hz : ∀ j, l.getD j 0 < 256) :
    ∃ g cap, v = .slice (some ⟨g, 0, none⟩) l.length cap ∧ Rd w v (some ⟨g, 0, none⟩) cap l := by
  have h' := h
  obtain ⟨_, g, cap, cur, fz, rfl, _, hh, _, hn, hc, _, _⟩ := h
  refine ⟨g, cap, rfl, rfl, hn, hc, fun _ => ⟨g, 0, rfl, (Array.getElem?_eq_some_iff.1 hh).1, fun j hj => ?_⟩, hz, fun h => by cases h⟩
  rw [Nat.zero_add, h'.cellAt j hj]
  simp [V, List.getD, List.getElem?_eq_getElem hj]

theorem append_M (w : World) (B : Nat) (v : Value) (n : Nat) (xs : List Value) (h : OwnM w B v n xs) (ad : Addr) (u : Value) (h1 : u.oneCell' = true) (hu : w.cell? ad = some u) (hn : n ≤ 1000000) (hB : B ≤ w.heap.size) (ty : TypeId) :
    ∃ v' w', (Builtin.append_ #[22, 22] ty #[v, .slice (some ad) 1 1]).run Tryd.prog w = .ok v' w' ∧ OwnM w' B v' (n + 1) (xs ++ [u]) ∧ w.grownBy w' v.ownBlock := by
  obtain ⟨i0, hi, hz0, hz1, hz2⟩ := info_parts Tryd.info5
  have h' := h
  obtain ⟨hxl, g, cap, cur, fz, rfl, hBg, hh, hfz, hnc, hcm, hcs, htk⟩ := h
  have hf := run_firstCells_some (P := Tryd.prog) w 1 1 ad 1 1 [u] rfl (fun j x hx => by
    match j, hx with
    | 0, hx => simp at hx; subst hx; rw [add_plain']; exact hu)
  by_cases hroom : n + 1 ≤ cap
  · have hcell : w.cell? ⟨g, n, none⟩ = some cur[n] := by simp [World.cell?, hh, show n < cur.size from by omega]
    have hfro : w.frozen? ⟨g, n, none⟩ = false := by
      obtain ⟨lo, hi'⟩ := fz
      simp only [World.frozen?, hh, Bool.and_eq_false_iff, decide_eq_false_iff_not]
      rcases hfz with h | h
      · injection h with h2 h3
        right
        omega
      · left
        simp only at h
        omega
    have hst : (store ⟨g, n, none⟩ u).run Tryd.prog w = .ok () (w.setRow g (cur.setIfInBounds n u)) := by
      rw [run_store Tryd.prog w _ u _ h1, hcell]
      simp [hfro, setCell_eq_setRow w g n cur 5 fz u hh]
    have hadd : (⟨g, n, none⟩ : Addr).add 0 = ⟨g, n, none⟩ := add_plain' _
    have hsc : (storeCells ⟨g, n, none⟩ [u] 0).run Tryd.prog w = .ok () (w.setRow g (cur.setIfInBounds n u)) := by
      simp only [storeCells, Sem.run_bind, hadd, hst, Result.andThen_ok]
      rfl
    refine ⟨.slice (some ⟨g, 0, none⟩) (n + 1) cap, w.setRow g (cur.setIfInBounds n u), ?_, ⟨by simp [hxl], g, cap, _, fz, rfl, hBg, setRow_heap _ _ _ _ _ _ hh, hfz, hroom, hcm, by simp [hcs], ?_⟩, ?_⟩
    · simp [Builtin.append_, run_underlying Tryd.underlying22, sizeOf, typeInfo, hi, hz1, Builtin.lenOf, hroom, hf, Addr.add_lit, hsc]
    · rw [Array.toList_setIfInBounds, List.take_succ_eq_append_getElem (by simp; omega), List.take_set_of_le (Nat.le_refl _), htk]
      simp
    · exact grown_setRow _ _ _
  · have holds : ∀ j x, xs[j]? = some x → w.cell? ((⟨g, 0, none⟩ : Addr).add j) = some x := by
      intro j x hx
      have hj : j < n := by have := (List.getElem?_eq_some_iff.1 hx).1; omega
      rw [Go.WideShapes.add_plain, Nat.zero_add, h'.cellAt j hj, hx]
    have hr := run_append_grow (P := Tryd.prog) w 22 ty 5 i0 (.int .u8 0) Tryd.underlying22 hi hz0 ⟨g, 0, none⟩ n cap xs (by rw [hxl, hz1, Nat.mul_one]) holds ad 1 1 [u] (by rw [hz1]; rfl) (fun j x hx => by
      match j, hx with
      | 0, hx => simp at hx; subst hx; rw [add_plain']; exact hu) (by omega) (by omega) (growslice_fits (by omega) (by rw [hz2]; omega))
    have hge := grownCap_ge w (n + 1) cap 5
    have hcm2 : grownCap w (n + 1) cap 5 ≤ maxLen := grownCap_le_maxLen w (n + 1) cap 5 (by unfold maxLen; omega)
    refine ⟨_, _, hr, ⟨by simp [hxl], w.heap.size, _, _, (0, 0), rfl, hB, heap_alloc_new w.drew _, Or.inl rfl, hge, hcm2, ?_, ?_⟩, ⟨rfl, rfl, rfl, by simp, fun k hk _ => (bel_alloc w.drew _).block k hk⟩⟩
    · simp only [Array.size_append, List.size_toArray, size_zeroCells, Value.cells, hxl, List.length_singleton]
      simp
      omega
    · simp only [Array.toList_append, List.append_assoc]
      rw [← List.append_assoc, show n + 1 = (xs ++ [u]).length from by simp [hxl]]
      exact List.take_left
end Go.Proofs.YtplinkmagnihmaaDoor.Sh
namespace Go.Proofs.YtplinkmagnihmaaDoor.Sh
open Go.RowKit Sha

theorem xorL_take (x : Nat) (l : List Nat) (k : Nat) (h : k < l.length) : xorL x (l.take (k + 1)) = xorL x (l.take k) ++ [l.getD k 0 ^^^ x] := by
  have d : l.getD k 0 = l[k] := by rw [List.getD, List.getElem?_eq_getElem h, Option.getD_some]
  rw [List.take_succ_eq_append_getElem h, xorL, xorL, List.map_append, d]
  rfl

set_option maxHeartbeats 800000 in
theorem xored_ref (a : Option Addr) (cap : Nat) (l : List Nat) (x : Nat) (w : World) (hr : Rd w (.slice a l.length cap) a cap l) (hx : x < 256) (hbd : l.length ≤ 100000) :
    Calls Tryd.prog 91 #[.slice a l.length cap, .int .u8 (x : Int)] w fun e w' => ∃ v, e = .returned v ∧ w'.ownsRow w.heap.size 5 1 v l.length (V (xorL x l)) ∧ Below w.heap.size w w' := by
  obtain ⟨i0, hi, hz0, hz1, hz2⟩ := info_parts Tryd.info5
  have HR := hid hr
  have HX := hid (xorL_take x l)
  clear hr
  generalize hln : l.length = n at *
  have HLN := hid hln
  clear hln
  go_enter Tryd.func91, Tryd.ntmps91
  go_wp2_with fail
  go_loopw [5, 6] (fun v i wr => ∃ k : Nat, k ≤ n ∧ i = .int .i64 k ∧ wr.ownsRow w.heap.size 5 1 v k (V (xorL x (l.take k))) ∧ Below w.heap.size w wr) (fun _ i _ => n - (intOf i).toNat)
  case atStart => exact ⟨0, by omega, rfl, World.ownsRow_nil _ _ _ _, Below.refl _ _⟩
  case round =>
    obtain ⟨k, hk, rfl, hown, hbel⟩ := hrel
    have hsz := hbel.size
    by_cases hlt : k < n
    · have hkn : (k : Int) < (n : Int) := by omega
      obtain ⟨b, off, rfl, hbw, hc⟩ := HR.out.cells (by rw [HLN.out]; omega)
      have hck : wr.cell? ⟨b, off + k, none⟩ = some (.int .u8 ((l.getD k 0 : Nat) : Int)) := (hbel.cell (p := ⟨b, off + k, none⟩) hbw).trans (hc k (by rw [HLN.out]; exact hlt))
      have hy := HR.out.hi k
      have hxb := u8_xor_nat (l.getD k 0) x hy hx
      have HT := hid (HX.out k hlt)
      clear hc
      generalize l.getD k 0 = y at *
      go_wp2_with (at_builtin; refine wpList_append_own _ rfl _ _ 22 rfl w.heap.size 5 i0 (.int .u8 0) 1 1 Tryd.underlying22 hi hz0 hz1 hz2 rfl (by decide) _ _ _ rfl (hown.alloc _) ⟨wr.heap.size, 0, none⟩ 1 1 [.int .u8 ((y ^^^ x : Nat) : Int)] rfl rfl (one_new wr _) (one_cell _) (by unfold maxLen; omega) (by omega) (by simp; omega) ?_)
      intro v' w2 hown' hgrow _
      have hb2 := (hbel.alloc hsz _).grown hgrow (by simp; omega) (fun j hj => (hown.lt j hj).1)
      have R : w2.ownsRow w.heap.size 5 1 v' (k + 1) (V (xorL x (l.take (k + 1)))) := by
        rw [HT.out, ← V_snoc]
        exact hown'
      clear hown' hgrow hown
      go_wp2
      exact ⟨⟨k + 1, by omega, by go_num, R, hb2⟩, by simp [intOf]; omega⟩
    · obtain rfl : k = n := by omega
      have hkn : ¬ (k : Int) < (k : Int) := by omega
      have htk : l.take k = l := List.take_of_length_le (by rw [HLN.out]; exact Nat.le_refl _)
      rw [htk] at hown
      go_wp2
      go_ret
      exact ⟨_, rfl, hown, hbel⟩

/- block_ref -/
set_option maxHeartbeats 1600000 in
set_option maxRecDepth 100000 in
theorem block_ref (a : Option Addr) (cap : Nat) (zs : List Nat) (w : World) (hr : Rd w (.slice a zs.length cap) a cap zs) (hbd : zs.length ≤ 100000) :
    Calls Tryd.prog 90 #[.slice a zs.length cap] w fun e w' => ∃ v, e = .returned v ∧ w'.ownsRow w.heap.size 5 1 v 64 (V (blockL zs)) ∧ Below w.heap.size w w' := by
  obtain ⟨i0, hi, hz0, hz1, hz2⟩ := info_parts Tryd.info5
  have hown1 := World.ownsRow_lit (base := w.heap.size) (e := 5) (size := 1) w #[] 0 (Nat.le_refl _) (by unfold maxLen; omega) rfl
  have hb1 := bel_alloc w (.cells #[] 5)
  have s1 : (w.alloc (.cells #[] 5)).heap.size = w.heap.size + 1 := by simp
  have hr1 := hr.later hb1
  have hroom := hr.room
  have hmost := hr.most
  unfold maxLen at hmost
  have HR := hid hr
  clear hr
  go_enter Tryd.func90, Tryd.ntmps90
  go_wp2_with (at_builtin; refine app_any _ rfl _ _ rfl w.heap.size _ [] rfl hown1 a cap zs rfl hr1 (by simp; omega) (by omega) ?_)
  intro v2 w2 hown2 hgrow2
  have hz2' := hgrow2.size
  have hb2 : Below w.heap.size w w2 := hb1.grown hgrow2 (by omega) (fun j hj => (hown1.lt j hj).1)
  have HO := hid hown2
  have HB0 := hid hb2
  clear hown1 hgrow2 hown2 hb2 hr1 hb1
  by_cases h64 : 64 < zs.length
  · have h64' : (64 : Int) < (zs.length : Int) := by omega
    have hk : Sha.keyOf zs = digest zs := if_pos h64
    have HBL : Hid (blockL zs = digest zs ++ List.replicate (64 - (digest zs).length) 0) := by
      show _ = _
      rw [blockL, hk]
    have HOF := hid (of_ref a cap zs w2 (HR.out.later HB0.out) hbd)
    have hDl := digest_len zs
    have HDT := hid (digest_lt zs)
    clear hk HO
    generalize digest zs = K at *
    go_wp2_with fail
    go_at_call 37
    refine HOF.out.mono ?_
    rintro _ w3 ⟨rfl, hb3⟩
    obtain ⟨q4, f4, z4⟩ := put_new w3 K 24 w3.heap.size rfl
    have hn3 := heap_new w3 (.cells (arr .u8 z32) 24)
    have hB4 := Bn HB0.out (Bn hb3 q4)
    have hsd : (arr .u8 K).size = 32 := by rw [arr_size, hDl]
    have hrd := Rd.block 32 hDl f4 (by decide) HDT.out
    have hown5 := World.ownsRow_lit (base := w.heap.size) (e := 5) (size := 1) ((w3.alloc (.cells (arr .u8 z32) 24)).setRow w3.heap.size (arr .u8 K)) #[] 0 hB4.size (by unfold maxLen; omega) rfl
    rw [z4] at hown5
    have hb5 := bel_alloc ((w3.alloc (.cells (arr .u8 z32) 24)).setRow w3.heap.size (arr .u8 K)) (.cells #[] 5)
    have hr5 : Rd (((w3.alloc (.cells (arr .u8 z32) 24)).setRow w3.heap.size (arr .u8 K)).alloc (.cells #[] 5)) (.slice (some ⟨w3.heap.size, 0, none⟩) K.length 32) (some ⟨w3.heap.size, 0, none⟩) 32 K := by rw [hDl]; exact hrd.later hb5
    have hB5 := Bn hB4 hb5
    have hK : K.length ≤ 64 := by omega
    have hz5 := hB5.size
    have hz5b : (((w3.alloc (.cells (arr .u8 z32) 24)).setRow w3.heap.size (arr .u8 K)).alloc (.cells #[] 5)).heap.size = w3.heap.size + 1 + 1 := by simp
    clear hrd hb5 hB4 q4 f4 HOF hb3 HB0
    go_wp2_with (first
      | (refine wpList_alloc_at rfl 24 rfl (some 4) rfl (arr .u8 z32) Tryd.zero24 w3.heap.size rfl ?_)
      | (refine wpList_store_rowTo rfl 24 _ _ rfl rfl w3.heap.size (arr .u8 K) rfl rfl 24 _ hn3 (by rw [hsd]; exact Tryd.size24) (by rw [hsd]; rfl) (arr_one _ _) ?_)
      | (at_builtin; refine app_any _ rfl _ _ rfl w.heap.size _ [] rfl hown5 _ 32 K (by rw [hDl]; rfl) hr5 (by simp; omega) hz5 ?_))
    intro v6 w6 hown6 hgrow6
    have hb6 : Below w.heap.size w w6 := hB5.grown hgrow6 hz5 (fun j hj => (hown5.lt j hj).1)
    have HO : Hid (w6.ownsRow w.heap.size 5 1 v6 K.length (V K)) := by
      show _
      rw [hDl]; exact hown6
    have HB0 := hid hb6
    clear hown6 hgrow6 hown5 hr5 hb6 hB5 hDl hsd hn3
    go_wp2_with fail
    go_loopw [3] (fun v wr => ∃ z : Nat, K.length + z ≤ 64 ∧ wr.ownsRow w.heap.size 5 1 v (K.length + z) (V (K ++ List.replicate z 0)) ∧ Below w.heap.size w wr) (fun v _ => 64 - slen v)
    case atStart => exact ⟨0, hK, by rw [List.replicate_zero, List.append_nil]; exact HO.out, HB0.out⟩
    case round =>
      obtain ⟨q, hq, hown, hbel⟩ := hrel
      have hsz := hbel.size
      have hsl := slen_own hown
      obtain ⟨sa, sc, hsv⟩ := own_slice hown
      subst hsv
      by_cases hlt : K.length + q < 64
      · have hlt' : ((K.length : Int) + (q : Int)) < 64 := by omega
        go_wp2_with (at_builtin; refine wpList_append_own _ rfl _ _ 22 rfl w.heap.size 5 i0 (.int .u8 0) 1 1 Tryd.underlying22 hi hz0 hz1 hz2 rfl (by decide) _ _ _ rfl (hown.alloc _) ⟨wr.heap.size, 0, none⟩ 1 1 [.int .u8 0] rfl rfl (one_new wr _) (one_cell _) (by unfold maxLen; omega) (by omega) (by simp; omega) ?_)
        intro v' w2 hown' hgrow _
        have hb2 := (hbel.alloc hsz _).grown hgrow (by simp; omega) (fun j hj => (hown.lt j hj).1)
        have R : w2.ownsRow w.heap.size 5 1 v' (K.length + (q + 1)) (V (K ++ List.replicate (q + 1) 0)) := by
          rw [List.replicate_succ', ← List.append_assoc, ← V_snoc]
          exact hown'
        have hs1 := slen_own R
        clear hown' hgrow hown
        go_wp2
        refine ⟨⟨q + 1, by omega, R, hb2⟩, ?_⟩
        rw [hs1]
        show 64 - (K.length + (q + 1)) < 64 - (K.length + q)
        omega
      · have hlt' : ¬ ((K.length : Int) + (q : Int)) < 64 := by omega
        have R : wr.ownsRow w.heap.size 5 1 (.slice sa (K.length + q) sc) 64 (V (blockL zs)) := by
          rw [HBL.out, show 64 - K.length = q from by omega]
          have := hown
          rw [show K.length + q = 64 from by omega] at this ⊢
          exact this
        clear hown
        go_wp2
        go_ret
        exact ⟨_, rfl, R, hbel⟩
  · have h64' : ¬ (64 : Int) < (zs.length : Int) := by omega
    have hk : Sha.keyOf zs = zs := if_neg h64
    have HBL : Hid (blockL zs = zs ++ List.replicate (64 - zs.length) 0) := by
      show _ = _
      rw [blockL, hk]
    have hK : zs.length ≤ 64 := by omega
    clear hk
    go_wp2_with fail
    go_loopw [3] (fun v wr => ∃ z : Nat, zs.length + z ≤ 64 ∧ wr.ownsRow w.heap.size 5 1 v (zs.length + z) (V (zs ++ List.replicate z 0)) ∧ Below w.heap.size w wr) (fun v _ => 64 - slen v)
    case atStart => exact ⟨0, hK, by rw [List.replicate_zero, List.append_nil]; exact HO.out, HB0.out⟩
    case round =>
      obtain ⟨q, hq, hown, hbel⟩ := hrel
      have hsz := hbel.size
      have hsl := slen_own hown
      obtain ⟨sa, sc, hsv⟩ := own_slice hown
      subst hsv
      by_cases hlt : zs.length + q < 64
      · have hlt' : ((zs.length : Int) + (q : Int)) < 64 := by omega
        go_wp2_with (at_builtin; refine wpList_append_own _ rfl _ _ 22 rfl w.heap.size 5 i0 (.int .u8 0) 1 1 Tryd.underlying22 hi hz0 hz1 hz2 rfl (by decide) _ _ _ rfl (hown.alloc _) ⟨wr.heap.size, 0, none⟩ 1 1 [.int .u8 0] rfl rfl (one_new wr _) (one_cell _) (by unfold maxLen; omega) (by omega) (by simp; omega) ?_)
        intro v' w2 hown' hgrow _
        have hb2 := (hbel.alloc hsz _).grown hgrow (by simp; omega) (fun j hj => (hown.lt j hj).1)
        have R : w2.ownsRow w.heap.size 5 1 v' (zs.length + (q + 1)) (V (zs ++ List.replicate (q + 1) 0)) := by
          rw [List.replicate_succ', ← List.append_assoc, ← V_snoc]
          exact hown'
        have hs1 := slen_own R
        clear hown' hgrow hown
        go_wp2
        refine ⟨⟨q + 1, by omega, R, hb2⟩, ?_⟩
        rw [hs1]
        show 64 - (zs.length + (q + 1)) < 64 - (zs.length + q)
        omega
      · have hlt' : ¬ ((zs.length : Int) + (q : Int)) < 64 := by omega
        have R : wr.ownsRow w.heap.size 5 1 (.slice sa (zs.length + q) sc) 64 (V (blockL zs)) := by
          rw [HBL.out, show 64 - zs.length = q from by omega]
          have := hown
          rw [show zs.length + q = 64 from by omega] at this ⊢
          exact this
        clear hown
        go_wp2
        go_ret
        exact ⟨_, rfl, R, hbel⟩
end Go.Proofs.YtplinkmagnihmaaDoor.Sh
namespace Go.Proofs.YtplinkmagnihmaaDoor.Sh
open Go.RowKit Sha

theorem block_ref' (a : Option Addr) (cap : Nat) (zs : List Nat) (w : World) (hr : Rd w (.slice a zs.length cap) a cap zs) (hbd : zs.length ≤ 100000) :
    Calls Tryd.prog 90 #[.slice a zs.length cap] w fun e w' => ∃ g c, e = .returned (.slice (some ⟨g, 0, none⟩) 64 c) ∧ Rd w' (.slice (some ⟨g, 0, none⟩) 64 c) (some ⟨g, 0, none⟩) c (blockL zs) ∧ Below w.heap.size w w' := by
  refine (block_ref a cap zs w hr hbd).mono fun e w' ⟨v, he, hown, hb⟩ => ?_
  have hl := blockL_length zs
  rw [← hl] at hown
  obtain ⟨g, c, hv, _, hrd⟩ := rd_own hown (by omega) (blockL_lt zs hr.hi)
  rw [hv] at hrd he
  rw [hl] at hrd he
  exact ⟨g, c, he, hrd, hb⟩
theorem xored_ref' (a : Option Addr) (cap : Nat) (l : List Nat) (x : Nat) (w : World) (hr : Rd w (.slice a 64 cap) a cap l) (hl : l.length = 64) (hx : x < 256) :
    Calls Tryd.prog 91 #[.slice a 64 cap, .int .u8 (x : Int)] w fun e w' => ∃ g c, e = .returned (.slice (some ⟨g, 0, none⟩) 64 c) ∧ Rd w' (.slice (some ⟨g, 0, none⟩) 64 c) (some ⟨g, 0, none⟩) c (xorL x l) ∧ Below w.heap.size w w' := by
  have h := xored_ref a cap l x w (by rw [hl]; exact hr) hx (by omega)
  rw [hl] at h
  refine h.mono fun e w' ⟨v, he, hown, hb⟩ => ?_
  have hxl : (xorL x l).length = 64 := (xorL_length _ _).trans hl
  rw [show w'.ownsRow w.heap.size 5 1 v 64 (V (xorL x l)) = w'.ownsRow w.heap.size 5 1 v (xorL x l).length (V (xorL x l)) from by rw [hxl]] at hown
  obtain ⟨g, c, hv, _, hrd⟩ := rd_own hown (by omega) (xorL_lt x l hx hr.hi)
  rw [hv] at hrd he
  rw [hxl] at hrd he
  exact ⟨g, c, he, hrd, hb⟩

set_option maxHeartbeats 3200000 in
set_option maxRecDepth 100000 in
theorem macSum_ref (a : Option Addr) (cap : Nat) (key : List Nat) (ad : Addr) (c : Nat) (l : List (List Nat)) (w : World) (hr : Rd w (.slice a key.length cap) a cap key) (hk : key.length ≤ 100000)
    (hp : Ps w (some ad) c l) (h0 : 0 < l.length) (hn : l.length ≤ 1000) (hl : l.flatten.length ≤ 300000) :
    Calls Tryd.prog 76 #[.slice a key.length cap, .slice (some ad) l.length c] w fun e w' => e = .returned (.agg (arr .u8 (hmac key l.flatten))) ∧ Below w.heap.size w w' := by
  obtain ⟨i0, hi, hz0, hz1, hz2⟩ := info_parts Tryd.info22
  have b1 := bel_alloc w (.cells (arr .u8 z32) 25)
  have e1 := heap_new w (.cells (arr .u8 z32) 25)
  have s1 : (w.alloc (.cells (arr .u8 z32) 25)).heap.size = w.heap.size + 1 := by simp
  have HB1 := hid b1
  have HP1 := hid (hp.later b1)
  have HBO := hid (block_ref' a cap key _ (hr.later b1) hk)
  have HXL1 : Hid ((xorL 54 (blockL key)).length = 64) := (xorL_length _ _).trans (blockL_length key)
  have HX := hid (fun (x : Nat) (hx : x < 256) (g c : Nat) (W : World) (h : Rd W (.slice (some ⟨g, 0, none⟩) 64 c) (some ⟨g, 0, none⟩) c (blockL key)) => xored_ref' (some ⟨g, 0, none⟩) c (blockL key) x W h (blockL_length key) hx)
  have HX1 := hid (fun (g c : Nat) (W : World) (h : Rd W (.slice (some ⟨g, 0, none⟩) 64 c) (some ⟨g, 0, none⟩) c (blockL key)) => HX.out 54 (by decide) g c W h)
  have HX2 := hid (fun (g c : Nat) (W : World) (h : Rd W (.slice (some ⟨g, 0, none⟩) 64 c) (some ⟨g, 0, none⟩) c (blockL key)) => HX.out 92 (by decide) g c W h)
  have HXL2 : Hid ((xorL 92 (blockL key)).length = 64) := (xorL_length _ _).trans (blockL_length key)
  have HH : Hid (hmac key l.flatten = digest (xorL 92 (blockL key) ++ digest (xorL 54 (blockL key) ++ l.flatten))) := rfl
  clear hr hp HX
  generalize hmac key l.flatten = MM at *
  generalize xorL 54 (blockL key) = x1 at *
  generalize xorL 92 (blockL key) = x2 at *
  generalize blockL key = bk at *
  generalize hln : l.length = ln at *
  have HLN := hid hln
  clear hln b1
  go_enter Tryd.func76, Tryd.ntmps76
  go_wp2_with (refine wpList_alloc_at rfl 25 rfl (some 4) rfl (arr .u8 z32) Tryd.zero25 w.heap.size rfl ?_)
  generalize w.alloc (.cells (arr .u8 z32) 25) = w1 at *
  go_at_call 90
  refine HBO.out.mono ?_
  rintro _ w2 ⟨g2, c2, rfl, hr2, hb2⟩
  have HR2 := hid hr2
  have HB2 := hid hb2
  clear hr2 hb2
  go_wp2_with fail
  go_at_call 91
  refine (HX1.out g2 c2 w2 HR2.out).mono ?_
  rintro _ w3 ⟨g3, c3, rfl, hr3, hb3⟩
  have hB3 := Bn HB2.out hb3
  have HR23 := hid (HR2.out.later hb3)
  have b4 := bel_alloc w3 (.cells #[.slice (some ⟨g3, 0, none⟩) 64 c3] 22)
  have o4 := World.ownsRow_lit (base := w3.heap.size) (e := 22) (size := 1) w3 #[.slice (some ⟨g3, 0, none⟩) 64 c3] 1 (Nat.le_refl _) (by unfold maxLen; omega) rfl
  have s4 : (w3.alloc (.cells #[.slice (some ⟨g3, 0, none⟩) 64 c3] 22)).heap.size = w3.heap.size + 1 := by simp
  have hB4 := Bn hB3 b4
  have hps := HP1.out.later hB3
  obtain ⟨ab, ao, hab, habl, _⟩ := hps.cells (by rw [HLN.out]; exact h0)
  obtain ⟨vals, hV, hVc3, hV1⟩ := hps.vals
  have hVc : ∀ (j : Nat) (u : Value), vals[j]? = some u → (w3.alloc (.cells #[.slice (some ⟨g3, 0, none⟩) 64 c3] 22)).cell? (ad.add j) = some u := fun j u hu => (b4.cell (p := ad.add j) (by rw [add_block]; injection hab with hab; subst hab; exact habl)).trans (hVc3 j u hu)
  have hvl : vals.length = ln * 1 := by rw [Nat.mul_one]; exact hV.len.trans HLN.out
  have hV0 : Vals w3 [.slice (some ⟨g3, 0, none⟩) 64 c3] [x1] := ⟨rfl, fun j hj => by
    obtain rfl : j = 0 := by simp at hj; omega
    exact ⟨_, _, hr3⟩⟩
  have HV := hid (hV0.app hV)
  have hq3 : 1 + ln ≤ maxLen := by unfold maxLen; omega
  have hq4 : (1 + ln) * 24 ≤ 140737488355328 := by omega
  have hq5 : w3.heap.size ≤ (w3.alloc (.cells #[.slice (some ⟨g3, 0, none⟩) 64 c3] 22)).heap.size := by omega
  clear hps hV hV0 hr3 hVc3 hab habl
  go_wp2_with (at_builtin; refine wpList_append_own _ rfl _ _ 101 rfl w3.heap.size 22 i0 (.slice none 0 0) 1 24 Tryd.underlying101 hi hz0 hz1 hz2 rfl (by decide) _ _ _ rfl o4 ad ln c vals rfl hvl hVc hV1 hq3 hq4 hq5 ?_)
  intro v5 w5 hown5 hgrow5 _
  have hb5 := b4.grown hgrow5 hq5 (fun j hj => (o4.lt j hj).1)
  have hml : ([x1] ++ l).length = 1 + ln := by rw [List.length_append, HLN.out]; rfl
  have hfl : ([x1] ++ l).flatten = x1 ++ l.flatten := by simp
  obtain ⟨a5, c5, hv5, hps5⟩ := ps_own (v := v5) HV.out (by rw [hml]; exact hown5) hb5
  rw [hml] at hv5
  subst hv5
  have hsm := sum_ref a5 c5 ([x1] ++ l) w5 hps5 (by rw [hfl, List.length_append, HXL1.out]; omega)
  rw [hml, hfl] at hsm
  have HSM := hid hsm
  have hB5 := Bn hB3 hb5
  have HB5 := hid hB5
  have HR5 := hid (HR23.out.later hb5)
  have hDl := digest_len (x1 ++ l.flatten)
  have HDT := hid (digest_lt (x1 ++ l.flatten))
  have hr5 : w5.heap[w.heap.size]? = some (.cells (arr .u8 z32) 25 (0, 0)) := by rw [hB5.block _ (by omega)]; exact e1
  have hz5 := hB5.size
  clear hown5 hgrow5 hsm hps5 hb5 o4 b4 hVc hV1 hB4 hB5 hB3 hb3 e1 HV hvl
  generalize digest (x1 ++ l.flatten) = D1 at *
  go_wp2_with fail
  go_at_call 54
  refine HSM.out.mono ?_
  rintro _ w6 ⟨rfl, hb6⟩
  obtain ⟨q7, f7, z7⟩ := put_new w6 D1 24 w6.heap.size rfl
  have hn6 := heap_new w6 (.cells (arr .u8 z32) 24)
  have hsd : (arr .u8 D1).size = 32 := by rw [arr_size, hDl]
  have hz6 := hb6.size
  go_wp2_with (first
    | (refine wpList_alloc_at rfl 24 rfl (some 7) rfl (arr .u8 z32) Tryd.zero24 w6.heap.size rfl ?_)
    | (refine wpList_store_rowTo rfl 24 _ _ rfl rfl w6.heap.size (arr .u8 D1) rfl rfl 24 _ hn6 (by rw [hsd]; exact Tryd.size24) (by rw [hsd]; rfl) (arr_one _ _) ?_))
  generalize (w6.alloc (.cells (arr .u8 z32) 24)).setRow w6.heap.size (arr .u8 D1) = w7 at *
  have hrd7 := Rd.block 32 hDl f7 (by decide) HDT.out
  have hb57 := Bn hb6 q7
  have hS7 : Below w.heap.size w w7 := Bn HB1.out (Bn HB5.out hb57)
  have hres7 : w7.heap[w.heap.size]? = some (.cells (arr .u8 z32) 25 (0, 0)) := by rw [hb57.block _ (by omega)]; exact hr5
  have HR7 := hid (HR5.out.later hb57)
  refine wp_region_held_drew (S := fun w' => Below w.heap.size w w') (by as_aux_lemma => kernel_rfl) hS7.drew (fun hS => ?_)
  have hD := (Below.refl w7.heap.size w7).drew
  have hzD : w7.drew.heap.size = w7.heap.size := rfl
  generalize w7.drew = wD at *
  refine Ord.take (i := 0) (d := 17) (v := ?v0) rfl rfl (by as_aux_lemma => kernel_rfl) (by as_aux_lemma => kernel_rfl) (by as_aux_lemma => kernel_rfl) (fun _ _ _ h => h) (by rfl) ?h0 (by assumption) ?_
  case h0 => intro w hSw; go_simp; try with_reducible rfl
  simp only [List.setIfInBounds_toArray, List.set_cons_zero, List.set_cons_succ]
  refine Ord.take (i := 2) (d := 19) (v := .slice (some ⟨w6.heap.size, 0, none⟩) 32 32) rfl rfl (by as_aux_lemma => kernel_rfl) (by as_aux_lemma => kernel_rfl) (by as_aux_lemma => kernel_rfl) (fun _ _ _ h => h) (by rfl) ?h2 (by assumption) ?_
  case h2 => intro w hSw; go_simp; try with_reducible rfl
  simp only [List.setIfInBounds_toArray, List.set_cons_zero, List.set_cons_succ]
  refine wpAnyH_ready (rs := [1]) (by as_aux_lemma => kernel_rfl) (by simp) (AllReadyH.cons rfl (fun K hK => ?_) AllReadyH.nil)
  go_simp
  refine (HX2.out g2 c2 wD (HR7.out.later hD)).mono ?_
  rintro _ w8 ⟨g8, c8, rfl, hr8, hb8⟩
  have hS8 := Bn hS hb8
  have hB8 := Bn hD hb8
  refine hK.out _ _ hS8 (fun _ => ?_)
  clear hK K
  have b9 := bel_alloc w8 (.cells #[.slice (some ⟨g8, 0, none⟩) 64 c8, .slice (some ⟨w6.heap.size, 0, none⟩) 32 32] 22)
  have p9 := Ps.two hr8 (hrd7.later hB8) w8.heap.size rfl
  have hS9 := Bn hS8 b9
  have hB9 := Bn hB8 b9
  refine wpAnyH_ready (rs := [3]) (by as_aux_lemma => kernel_rfl) (by simp) (AllReadyH.cons rfl (fun K hK => ?_) AllReadyH.nil)
  go_simp
  refine hK.out _ _ hS9 (fun _ => ?_)
  clear hK K
  generalize hw9 : w8.alloc (.cells #[.slice (some ⟨g8, 0, none⟩) 64 c8, .slice (some ⟨w6.heap.size, 0, none⟩) 32 32] 22) = w9 at *
  have hs2 := sum_ref _ _ _ w9 p9 (by simp [HXL2.out, hDl])
  rw [show [x2, D1].flatten = x2 ++ D1 from by simp, ← HH.out] at hs2
  have HS2 := hid hs2
  have hsz : (arr .u8 MM).size = 32 := by rw [HH.out, arr_size, digest_len]
  clear hs2 p9 hrd7 hr8 hB8 hb8 hw9 b9
  refine wpAnyH_ready (rs := [4]) (by as_aux_lemma => kernel_rfl) (by simp) (AllReadyH.cons rfl (fun K hK => ?_) AllReadyH.nil)
  go_simp
  refine HS2.out.mono ?_
  rintro _ w10 ⟨rfl, hb10⟩
  have hS10 := Bn hS9 hb10
  have hB10 := Bn hB9 hb10
  refine hK.out _ _ hS10 (fun _ => ?_)
  clear hK K
  have hres10 : w10.heap[w.heap.size]? = some (.cells (arr .u8 z32) 25 (0, 0)) := by rw [hB10.block _ (by omega)]; exact hres7
  have hasz : (Tryd.prog.info? 25).map (·.size) = some (arr .u8 MM).size := by rw [hsz]; exact Tryd.size25'
  have hS11 : Below w.heap.size w (w10.setRow w.heap.size (arr .u8 MM)) := below_setRow hS10 (Nat.le_refl _) _
  refine wpAnyH_ready (rs := [5]) (by as_aux_lemma => kernel_rfl) (by simp) (AllReadyH.cons rfl (fun K hK => ?_) AllReadyH.nil)
  refine wp_store_row 25 (.tmp 4) (.tmp 21) rfl w.heap.size (arr .u8 MM) rfl rfl 25 _ hres10 hasz (by rw [hsz]; rfl) (arr_one _ _) ?_
  refine hK.out _ _ hS11 (fun _ => ?_)
  clear hK K
  refine wpAnyH_done (by as_aux_lemma => kernel_rfl) ?_ _
  have HS11 := hid hS11
  have hrr := setRow_heap _ _ _ (arr .u8 MM) _ _ hres10
  clear hS11 hS10 hS9 hS8 hS hres10 hres7 hb10 hB10 hB9 hD hS7 hb57 hb6 q7 f7
  generalize w10.setRow w.heap.size (arr .u8 MM) = w11 at *
  go_wp2
  refine bodyPost_ret (results_cell_row (ty := 25) rfl _ _ _ _ _ _ _ rfl hrr Tryd.underlying25 rfl hasz) rfl ?_
  exact ⟨rfl, HS11.out⟩
end Go.Proofs.YtplinkmagnihmaaDoor.Sh
namespace Go.Proofs.YtplinkmagnihmaaDoor.Sh
open Go.RowKit Sha

/-- The bytes of a string. -/
def strL (s : ByteArray) : List Nat := s.data.toList.map fun b => b.toNat
theorem strL_length (s : ByteArray) : (strL s).length = s.size := by simp [strL]
theorem strL_lt (s : ByteArray) (k : Nat) : (strL s).getD k 0 < 256 := by
  simp only [strL, List.getD, List.getElem?_map]
  cases s.data.toList[k]? with
  | none => decide
  | some b => exact b.toNat_lt

/-- A number's bytes, the highest first. -/
def beL (n j : Nat) : List Nat := (List.range j).map fun i => n / 256 ^ (7 - i) % 256
theorem beL_length (n j : Nat) : (beL n j).length = j := by simp [beL]
theorem beL_succ (n j : Nat) : beL n (j + 1) = beL n j ++ [n / 256 ^ (7 - j) % 256] := by rw [beL, List.range_succ, List.map_append]; rfl
theorem beL_lt (n j : Nat) : ∀ i, (beL n j).getD i 0 < 256 := by
  rw [all_lt]
  intro z hz
  rw [beL, List.mem_map] at hz
  obtain ⟨i, _, rfl⟩ := hz
  exact Nat.mod_lt _ (by decide)
theorem be_bytes (n : Nat) : Wd.bytesF 8 1 (n : Int) = ints (beL n 8) := by
  apply List.ext_getElem?
  intro j
  have h1 : (Wd.bytesF 8 1 (n : Int)).length = 8 := Wd.bytesF_length _ _ _
  have h2 : (ints (beL n 8)).length = 8 := by rw [ints_length, beL_length]
  by_cases hj : j < 8
  · have e1 := Wd.bytesF_getD 8 1 (n : Int) j hj
    have e2 := ints_getD (beL n 8) j
    rw [List.getD, List.getElem?_eq_getElem (by omega), Option.getD_some] at e1 e2
    rw [List.getElem?_eq_getElem (by omega), List.getElem?_eq_getElem (by omega), e1, e2]
    have e3 : (beL n 8).getD j 0 = n / 256 ^ (7 - j) % 256 := by
      simp [beL, List.getD, hj]
    rw [e3, Wd.shF, if_pos rfl, ← Wd.pow256]
    rw [show (256 : Int) ^ (8 - 1 - j) = ((256 ^ (7 - j) : Nat) : Int) from by simp, ← Int.natCast_ediv]
    congr 1
  · rw [List.getElem?_eq_none (by omega), List.getElem?_eq_none (by omega)]

/-- What a purpose's key is the MAC of. -/
def purposeL (s : ByteArray) (n : Nat) : List Nat := strL s ++ [0] ++ beL n 8

theorem conv_own (w : World) (s : ByteArray) (hs : s.size ≤ 1000000) : OwnM (Lib.bytesWorld w 5 s) w.heap.size (.slice (some ⟨w.heap.size, 0, none⟩) s.size (grownCap w s.size 0 5)) s.size (V (strL s)) := by
  have hge := grownCap_ge w s.size 0 5
  have hcm : grownCap w s.size 0 5 ≤ maxLen := grownCap_le_maxLen w s.size 0 5 (by unfold maxLen; omega)
  have hsz : (Lib.bytesCells w 5 s).size = grownCap w s.size 0 5 := by
    simp only [Lib.bytesCells, Array.size_append, Array.size_map, Array.size_replicate, ByteArray.size_data]
    omega
  refine ⟨by simp [V, strL_length], w.heap.size, _, _, _, rfl, Nat.le_refl _, Lib.bytesWorld_at_new w 5 s, Or.inr (by rw [hsz]; exact Nat.le_refl _), hge, hcm, hsz, ?_⟩
  rw [Lib.bytesCells, Array.toList_append, List.take_append_of_le_length (by simp)]
  rw [List.take_of_length_le (by simp)]
  simp [V, strL]
theorem conv_bel (w : World) (s : ByteArray) : Below w.heap.size w (Lib.bytesWorld w 5 s) :=
  ⟨rfl, rfl, rfl, by rw [Lib.bytesWorld_size]; omega, fun k hk => Lib.bytesWorld_at_old w 5 s k hk⟩

/-- Three rows as a new list of rows. -/
theorem Ps.three {w : World} {v1 v2 v3 : Value} {a1 a2 a3 : Option Addr} {c1 c2 c3 : Nat} {z1 z2 z3 : List Nat} (h1 : Rd w v1 a1 c1 z1) (h2 : Rd w v2 a2 c2 z2) (h3 : Rd w v3 a3 c3 z3) (g : Nat) (hg : g = w.heap.size) :
    Ps (w.alloc (.cells #[v1, v2, v3] 22)) (some ⟨g, 0, none⟩) 3 [z1, z2, z3] := by
  subst hg
  have hb := bel_alloc w (.cells #[v1, v2, v3] 22)
  refine ⟨Nat.le_refl _, by unfold maxLen; omega, fun _ => ⟨w.heap.size, 0, rfl, by simp, fun j hj => ?_⟩⟩
  have hc := World.cell?_alloc_mark w #[v1, v2, v3] 22 (0, 0)
  match j, hj with
  | 0, _ => exact ⟨v1, a1, c1, hc 0, h1.later hb⟩
  | 1, _ => exact ⟨v2, a2, c2, hc 1, h2.later hb⟩
  | 2, _ => exact ⟨v3, a3, c3, hc 2, h3.later hb⟩

set_option maxHeartbeats 800000 in
set_option maxRecDepth 100000 in
theorem macOf_ref (a : Option Addr) (cap : Nat) (key : List Nat) (b : Option Addr) (capb : Nat) (z : List Nat) (w : World) (hr : Rd w (.slice a key.length cap) a cap key) (hrb : Rd w (.slice b z.length capb) b capb z) (hk : key.length ≤ 100000) (hz : z.length ≤ 300000) :
    Calls Tryd.prog 58 #[.slice a key.length cap, .slice b z.length capb] w fun e w' => e = .returned (.agg (arr .u8 (hmac key z))) ∧ Below w.heap.size w w' := by
  have b0 := bel_alloc w (.cells (arr .u8 z32) 25)
  have e0 := heap_new w (.cells (arr .u8 z32) 25)
  have s0 : (w.alloc (.cells (arr .u8 z32) 25)).heap.size = w.heap.size + 1 := by simp
  have b1 := bel_alloc (w.alloc (.cells (arr .u8 z32) 25)) (.cells #[.slice b z.length capb] 22)
  have hp := Ps.one (hrb.later b0) (w.heap.size + 1) s0.symm
  have e1 : ((w.alloc (.cells (arr .u8 z32) 25)).alloc (.cells #[.slice b z.length capb] 22)).heap[w.heap.size]? = some (.cells (arr .u8 z32) 25 (0, 0)) := by rw [b1.block _ (by omega)]; exact e0
  have s1 : ((w.alloc (.cells (arr .u8 z32) 25)).alloc (.cells #[.slice b z.length capb] 22)).heap.size = w.heap.size + 1 + 1 := by simp
  have hS := macSum_ref a cap key ⟨w.heap.size + 1, 0, none⟩ 1 [z] _ (hr.later (Bn b0 b1)) hk hp (by simp) (by simp) (by simp; omega)
  rw [show [z].flatten = z from by simp] at hS
  have HS := hid hS
  have HB := hid (Bn b0 b1)
  clear hS hp hr hrb b0 b1 e0
  go_enter Tryd.func58, Tryd.ntmps58
  go_wp2_with (refine wpList_alloc_at rfl 25 rfl (some 4) rfl (arr .u8 z32) Tryd.zero25 w.heap.size rfl ?_)
  go_at_call 76
  refine HS.out.mono ?_
  rintro _ w2 ⟨rfl, hb2⟩
  have hres : w2.heap[w.heap.size]? = some (.cells (arr .u8 z32) 25 (0, 0)) := by rw [hb2.block _ (by omega)]; exact e1
  have hbel := Bn HB.out hb2
  have hsz : (arr .u8 (hmac key z)).size = 32 := by rw [arr_size, hmac_length]
  have hasz : (Tryd.prog.info? 25).map (·.size) = some (arr .u8 (hmac key z)).size := by rw [hsz]; exact Tryd.size25'
  clear hb2 HS e1
  go_wp2_with (refine wpList_store_rowTo rfl 25 _ _ rfl rfl w.heap.size (arr .u8 (hmac key z)) rfl rfl 25 _ hres hasz (by rw [hsz]; rfl) (arr_one _ _) ?_)
  refine bodyPost_ret (results_cell_row (ty := 25) rfl _ _ _ _ _ _ _ rfl (setRow_heap _ _ _ _ _ _ hres) Tryd.underlying25 rfl hasz) rfl ?_
  exact ⟨rfl, below_setRow hbel (Nat.le_refl _) _⟩

set_option maxHeartbeats 1600000 in
set_option maxRecDepth 100000 in
theorem derive_word (a : Option Addr) (cap : Nat) (key : List Nat) (s : ByteArray) (n : Nat) (w : World) (hlaid : Laid w) (hr : Rd w (.slice a key.length cap) a cap key) (hk : key.length ≤ 100000) (hs : s.size ≤ 100000) (hn : n < 2 ^ 64) :
    Calls Tryd.prog 48 #[.slice a key.length cap, .string s, .int .u64 (n : Int)] w fun e w' => e = .returned (.agg (arr .u8 (hmac key (purposeL s n)))) ∧ Below w.heap.size w w' := by
  have b0 := bel_alloc w (.cells (arr .u8 z32) 25)
  have e0 := heap_new w (.cells (arr .u8 z32) 25)
  have s0 : (w.alloc (.cells (arr .u8 z32) 25)).heap.size = w.heap.size + 1 := by simp
  have HBW := hid (fun W : World => Wd.bytes_word (n : Int) 64 1 8 W (by omega) (by omega) (by decide) (by decide) (by decide))
  have HBE := hid (be_bytes n)
  have HBL := hid (beL_length n 8)
  have HBT := hid (beL_lt n 8)
  have HSL := hid (strL_length s)
  have kcv := fun W : World => Lib.run_convert_string_bytes (P := Tryd.prog) W 9 22 5 s Tryd.underlying9 Tryd.underlying22 Tryd.underlying5
  have HR := hid hr
  have HL := hid hlaid
  have HB0 := hid b0
  have HP : Hid (purposeL s n = strL s ++ [0] ++ beL n 8) := rfl
  have HPL : Hid ([strL s, [0], beL n 8].flatten = purposeL s n) := by show _ = _; simp [purposeL]
  have hMl := hmac_length key (purposeL s n)
  clear hr hlaid b0
  generalize beL n 8 = tl at *
  go_enter Tryd.func48, Tryd.ntmps48
  go_wp2_with (refine wpList_alloc_at rfl 25 rfl (some 6) rfl (arr .u8 z32) Tryd.zero25 w.heap.size rfl ?_)
  generalize w.alloc (.cells (arr .u8 z32) 25) = w1 at *
  go_at_call 63
  refine (HBW.out w1).mono ?_
  rintro _ w2 ⟨pv, rfl, hpo, hpb⟩
  rw [HBE.out, ints_length, V_ints] at hpo
  obtain ⟨pg, pc, rfl, hpg, hprd⟩ := rd_own hpo (by rw [HBL.out]; decide) HBT.out
  have hB2 := Bn HB0.out hpb
  have hco := conv_own w2 s (by omega)
  have hcb := conv_bel w2 s
  have hcz := Lib.bytesWorld_size w2 5 s
  rw [← HSL.out] at hco
  obtain ⟨cg, cc, hcv, hcr⟩ := rd_ownM hco (strL_lt s)
  have hkc := kcv w2
  rw [← HSL.out, hcv] at hkc
  have hfr := Rd.fresh (Lib.bytesWorld w2 5 s) #[.int .u8 0] (0, 0) [0] 1 (w2.heap.size + 1) hcz.symm rfl (by decide) rfl (by decide)
  have hb4 := bel_alloc (Lib.bytesWorld w2 5 s) (.cells #[.int .u8 0] 5)
  have hz4 : ((Lib.bytesWorld w2 5 s).alloc (.cells #[.int .u8 0] 5)).heap.size = w2.heap.size + 1 + 1 := by simp [hcz]
  rw [hcv] at hcr
  clear hco hcv kcv
  have hp5 := Ps.three (hcr.later hb4) hfr (hprd.later (Bn hcb hb4)) (w2.heap.size + 1 + 1) hz4.symm
  have hb5 := bel_alloc ((Lib.bytesWorld w2 5 s).alloc (.cells #[.int .u8 0] 5)) (.cells #[.slice (some ⟨cg, 0, none⟩) (strL s).length cc, .slice (some ⟨w2.heap.size + 1, 0, none⟩) 1 1, .slice (some ⟨pg, 0, none⟩) tl.length pc] 22)
  have hB5 := Bn (Bn hcb hb4) hb5
  have hBw := Bn hB2 hB5
  have hms := macSum_word a cap key ⟨w2.heap.size + 1 + 1, 0, none⟩ 3 [strL s, [0], tl] _ (HL.out.later hBw) (HR.out.later hBw) hk hp5 (by simp) (by simp) (by simp [HSL.out, HBL.out]; omega)
  rw [HPL.out] at hms
  have HMS := hid hms
  have hres5 : (((Lib.bytesWorld w2 5 s).alloc (.cells #[.int .u8 0] 5)).alloc (.cells #[.slice (some ⟨cg, 0, none⟩) (strL s).length cc, .slice (some ⟨w2.heap.size + 1, 0, none⟩) 1 1, .slice (some ⟨pg, 0, none⟩) tl.length pc] 22)).heap[w.heap.size]? = some (.cells (arr .u8 z32) 25 (0, 0)) := by rw [(Bn hpb hB5).block _ (by omega)]; exact e0
  have hz5 : w.heap.size < (((Lib.bytesWorld w2 5 s).alloc (.cells #[.int .u8 0] 5)).alloc (.cells #[.slice (some ⟨cg, 0, none⟩) (strL s).length cc, .slice (some ⟨w2.heap.size + 1, 0, none⟩) 1 1, .slice (some ⟨pg, 0, none⟩) tl.length pc] 22)).heap.size := (Array.getElem?_eq_some_iff.1 hres5).1
  have HBw := hid hBw
  clear hp5 hb5 hB5 hms hcr hfr hprd hpo hb4 hcb e0 hB2 hpb hBw
  go_wp2_with fail
  go_at_call 49
  generalize ((Lib.bytesWorld w2 5 s).alloc (.cells #[.int .u8 0] 5)).alloc (.cells #[.slice (some ⟨cg, 0, none⟩) (strL s).length cc, .slice (some ⟨w2.heap.size + 1, 0, none⟩) 1 1, .slice (some ⟨pg, 0, none⟩) tl.length pc] 22) = w5 at *
  refine HMS.out.mono ?_
  rintro _ w6 ⟨rfl, hb6⟩
  have hres : w6.heap[w.heap.size]? = some (.cells (arr .u8 z32) 25 (0, 0)) := by rw [hb6.block _ hz5]; exact hres5
  have hbel := Bn HBw.out hb6
  generalize hMM : hmac key (purposeL s n) = MM at *
  have HMM := hid hMM
  have hsz : (arr .u8 MM).size = 32 := by rw [arr_size, hMl]
  have hasz : (Tryd.prog.info? 25).map (·.size) = some (arr .u8 MM).size := by rw [hsz]; exact Tryd.size25'
  clear hb6 HMS hres5 hMM hkc
  go_wp2_with (refine wpList_store_rowTo rfl 25 _ _ rfl rfl w.heap.size (arr .u8 MM) rfl rfl 25 _ hres hasz (by rw [hsz]; rfl) (arr_one _ _) ?_)
  refine bodyPost_ret (results_cell_row (ty := 25) rfl _ _ _ _ _ _ _ rfl (setRow_heap _ _ _ _ _ _ hres) Tryd.underlying25 rfl hasz) rfl ?_
  exact ⟨by rw [HMM.out], below_setRow hbel (Nat.le_refl _) _⟩
end Go.Proofs.YtplinkmagnihmaaDoor.Sh
namespace Go.Proofs.YtplinkmagnihmaaDoor.Sh
open Go.RowKit Sha

theorem one_cell5 (w : World) (u : Value) : (w.alloc (.cells #[u] 5)).cell? ⟨w.heap.size, 0, none⟩ = some u := by
  exact World.cell?_alloc_mark w #[u] 5 (0, 0) 0

set_option maxHeartbeats 400000 in
set_option maxRecDepth 100000 in
theorem derive_ref (a : Option Addr) (cap : Nat) (key : List Nat) (s : ByteArray) (n : Nat) (w : World) (hr : Rd w (.slice a key.length cap) a cap key) (hk : key.length ≤ 100000) (hs : s.size ≤ 100000) (_hn : n < 2 ^ 64) :
    Calls Tryd.prog 57 #[.slice a key.length cap, .string s, .int .u64 (n : Int)] w fun e w' => e = .returned (.agg (arr .u8 (hmac key (purposeL s n)))) ∧ Below w.heap.size w w' := by
  have b0 := bel_alloc w (.cells (arr .u8 z32) 25)
  have e0 := heap_new w (.cells (arr .u8 z32) 25)
  have s0 : (w.alloc (.cells (arr .u8 z32) 25)).heap.size = w.heap.size + 1 := by simp
  have HSL := hid (strL_length s)
  have HSU := hid (beL_succ n)
  have HBL := hid (beL_length n)
  have HR := hid hr
  have HB0 := hid b0
  have HP : Hid (purposeL s n = strL s ++ [0] ++ beL n 8) := rfl
  have hMl := hmac_length key (purposeL s n)
  clear hr b0
  generalize hw1 : w.alloc (.cells (arr .u8 z32) 25) = w1 at *
  have kcv := Lib.run_convert_string_bytes (P := Tryd.prog) w1 9 22 5 s Tryd.underlying9 Tryd.underlying22 Tryd.underlying5
  have hco := conv_own w1 s (by omega)
  have hcb := conv_bel w1 s
  have hcz := Lib.bytesWorld_size w1 5 s
  generalize hG : grownCap w1 s.size 0 5 = G at *
  clear hG
  generalize hwc : Lib.bytesWorld w1 5 s = wc at *
  clear hwc
  have hb3 := bel_alloc wc (.cells #[.int .u8 0] 5)
  have hz3 : (wc.alloc (.cells #[.int .u8 0] 5)).heap.size = w1.heap.size + 1 + 1 := by simp [hcz]
  have hc3 := one_cell5 wc (.int .u8 0)
  rw [hcz] at hc3
  obtain ⟨v4, w4, hap, hown4, hgr4⟩ := append_M _ w1.heap.size _ _ _ (hco.later hb3) ⟨w1.heap.size + 1, 0, none⟩ (.int .u8 0) rfl hc3 (by omega) (by omega) 22
  have hb4 : Below w1.heap.size w1 w4 := (Bn hcb hb3).grown hgr4 (by omega) hco.lt
  have HO4 : Hid (OwnM w4 w1.heap.size v4 (s.size + 1 + 0) (V (strL s ++ [0] ++ beL n 0))) := by
    show OwnM _ _ _ _ _
    rw [show beL n 0 = [] from rfl, List.append_nil, show V (strL s ++ [0]) = V (strL s) ++ [.int .u8 0] from by simp [V]]
    exact hown4
  have HB4 := hid hb4
  clear hown4 hgr4 hb4 hco hc3 hb3 hcb
  rw [s0] at hap
  go_enter Tryd.func57, Tryd.ntmps57
  go_wp2_with (first
    | (refine wpList_alloc_at rfl 25 rfl (some 6) rfl (arr .u8 z32) Tryd.zero25 w.heap.size rfl ?_; rw [hw1]; clear hw1)
    | (at_builtin; refine Lib.wpList_append_run _ rfl _ _ _ _ rfl _ _ rfl rfl _ _ hap ?_))
  go_loopw [7, 8] (fun v i wr => ∃ k : Nat, k ≤ 8 ∧ i = .int .i64 (7 - (k : Int)) ∧ OwnM wr w1.heap.size v (s.size + 1 + k) (V (strL s ++ [0] ++ beL n k)) ∧ Below w1.heap.size w1 wr) (fun _ i _ => (intOf i + 1).toNat)
  case atStart => exact ⟨0, by omega, rfl, HO4.out, HB4.out⟩
  case round =>
    obtain ⟨k, hk8, rfl, hown, hbel⟩ := hrel
    have hsz := hbel.size
    by_cases hlt : k < 8
    · have hge : (7 - (k : Int)) ≥ 0 := by omega
      obtain ⟨j, hj⟩ : ∃ j : Nat, j + k = 7 := ⟨7 - k, by omega⟩
      have hjk : (7 - (k : Int)) = (j : Int) := by omega
      have hx : ((n : Int) / 2 ^ (8 * j) % 256) = ((n / 256 ^ (7 - k) % 256 : Nat) : Int) := by
        rw [show 7 - k = j from by omega, show (2 : Int) ^ (8 * j) = ((256 ^ j : Nat) : Int) from by rw [Int.pow_mul]; simp, ← Int.natCast_ediv]
        rfl
      have HX := hid hx
      generalize hX : ((n : Int) / 2 ^ (8 * j) % 256) = X at *
      have hb5 := bel_alloc wr (.cells #[.int .u8 X] 5)
      have hz5 : (wr.alloc (.cells #[.int .u8 X] 5)).heap.size = wr.heap.size + 1 := by simp
      obtain ⟨v6, w6, hap6, hown6, hgr6⟩ := append_M _ w1.heap.size _ _ _ (hown.later hb5) ⟨wr.heap.size, 0, none⟩ (.int .u8 X) rfl (one_cell5 wr _) (by omega) (by omega) 22
      have hb6 := (hbel.alloc hsz (.cells #[.int .u8 X] 5)).grown hgr6 (by omega) hown.lt
      have HO6 : Hid (OwnM w6 w1.heap.size v6 (s.size + 1 + (k + 1)) (V (strL s ++ [0] ++ beL n (k + 1)))) := by
        show OwnM _ _ _ _ _
        rw [HSU.out k, ← List.append_assoc, ← V_snoc, ← HX.out]
        exact hown6
      have HB6 := hid hb6
      rw [← hX] at hap6
      rw [hjk]
      clear hap kcv hown6 hgr6 hb6 hb5 hz5 hown hX hx
      go_wp2_with (at_builtin; refine Lib.wpList_append_run _ rfl _ _ _ _ rfl _ _ rfl rfl _ _ hap6 ?_)
      exact ⟨⟨k + 1, by omega, by go_num, HO6.out, HB6.out⟩, by simp [intOf]⟩
    · obtain rfl : k = 8 := by omega
      have hll : (strL s ++ [0] ++ beL n 8).length = s.size + 1 + 8 := by simp [HSL.out, HBL.out]
      rw [← hll] at hown
      obtain ⟨g7, c7, hv7, hrd7⟩ := rd_ownM hown (getD_app _ _ (getD_app _ _ (strL_lt s) (by intro j; match j with | 0 => decide | j + 1 => simp)) (beL_lt n 8))
      have hB7 := Bn HB0.out hbel
      have hof := macOf_ref a cap key (some ⟨g7, 0, none⟩) c7 _ wr (HR.out.later hB7) (by rw [hv7] at hrd7; exact hrd7) hk (by rw [hll]; omega)
      rw [← HP.out] at hof hv7
      rw [← HP.out] at hll
      have HOF := hid hof
      have hres7 : wr.heap[w.heap.size]? = some (.cells (arr .u8 z32) 25 (0, 0)) := by rw [hbel.block _ (by omega)]; exact e0
      have hz7 : w.heap.size < wr.heap.size := by omega
      have HB7 := hid hB7
      subst hv7
      clear hap kcv hown hrd7 hof hB7 hll
      generalize (purposeL s n).length = pl at *
      go_wp2_with fail
      go_at_call 58
      refine HOF.out.mono ?_
      rintro _ w8 ⟨rfl, hb8⟩
      have hres : w8.heap[w.heap.size]? = some (.cells (arr .u8 z32) 25 (0, 0)) := by rw [hb8.block _ hz7]; exact hres7
      have hbel8 := Bn HB7.out hb8
      generalize hMM : hmac key (purposeL s n) = MM at *
      have HMM := hid hMM
      have hsz8 : (arr .u8 MM).size = 32 := by rw [arr_size, hMl]
      have hasz : (Tryd.prog.info? 25).map (·.size) = some (arr .u8 MM).size := by rw [hsz8]; exact Tryd.size25'
      clear hb8 HOF hres7 hMM
      go_wp2_with (refine wpList_store_rowTo rfl 25 _ _ rfl rfl w.heap.size (arr .u8 MM) rfl rfl 25 _ hres hasz (by rw [hsz8]; rfl) (arr_one _ _) ?_)
      refine bodyPost_ret (results_cell_row (ty := 25) rfl _ _ _ _ _ _ _ rfl (setRow_heap _ _ _ _ _ _ hres) Tryd.underlying25 rfl hasz) rfl ?_
      exact ⟨by rw [HMM.out], below_setRow hbel8 (Nat.le_refl _) _⟩
end Go.Proofs.YtplinkmagnihmaaDoor.Sh
