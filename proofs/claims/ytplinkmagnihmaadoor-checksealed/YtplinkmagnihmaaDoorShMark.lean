/-
  The contracts of the document's Sum and Of, of MACs. The contracts of the document's block and xored. A row of bytes of one's own that a string was turned into: its mark lies behind it. What append makes of it.
-/
import Derived.Test.YtplinkmagnihmaaDoorShMacSumW
import Derived.Lib.ConvBytes
import Derived.Test.YtplinkmagnihmaaDoorShMacBlock
namespace Go.Proofs.YtplinkmagnihmaaDoor.Sh
open Go.RowKit Sha

/-- A row of bytes of one's own, marked behind its end, if at all. -/
def OwnM (w : World) (B : Nat) (v : Value) (n : Nat) (xs : List Value) : Prop :=
  xs.length = n ∧ ∃ g cap cur fz, v = .slice (some ⟨g, 0, none⟩) n cap ∧ B ≤ g ∧ w.heap[g]? = some (.cells cur 5 fz) ∧ (fz = (0, 0) ∨ cap ≤ fz.1) ∧ n ≤ cap ∧ cap ≤ maxLen ∧ cur.size = cap ∧ cur.toList.take n = xs

theorem OwnM.later {w w' : World} {B n : Nat} {v : Value} {xs : List Value} (h : OwnM w B v n xs) (hb : Below w.heap.size w w') : OwnM w' B v n xs := by
  obtain ⟨h1, g, cap, cur, fz, hv, hg, hh, hr⟩ := h
  exact ⟨h1, g, cap, cur, fz, hv, hg, (hb.block g (Array.getElem?_eq_some_iff.1 hh).1).trans hh, hr⟩
theorem OwnM.lt {w : World} {B n : Nat} {v : Value} {xs : List Value} (h : OwnM w B v n xs) : ∀ j, v.ownBlock = some j → B ≤ j := by
  obtain ⟨_, g, cap, cur, fz, rfl, hg, _⟩ := h
  intro j hj
  simp [Value.ownBlock] at hj
  omega
theorem OwnM.cellAt {w : World} {B n g cap : Nat} {xs : List Value} (h : OwnM w B (.slice (some ⟨g, 0, none⟩) n cap) n xs) (j : Nat) (hj : j < n) : w.cell? ⟨g, j, none⟩ = xs[j]? := by
  obtain ⟨_, g', cap', cur, fz, hv, _, hh, _, _, _, _, ht⟩ := h
  injection hv with h1 h2 h3
  injection h1 with h1
  injection h1 with h1
  subst h1
  rw [Joins.cell_of_block hh j, ← ht, List.getElem?_take, if_pos hj]
  simp
theorem rd_ownM {w : World} {B : Nat} {v : Value} {l : List Nat} (h : OwnM w B v l.length (V l)) (hz : ∀ j, l.getD j 0 < 256) :
    ∃ g cap, v = .slice (some ⟨g, 0, none⟩) l.length cap ∧ Rd w v (some ⟨g, 0, none⟩) cap l := by
  have h' := h
  obtain ⟨_, g, cap, cur, fz, rfl, _, hh, _, hn, hc, _, _⟩ := h
  refine ⟨g, cap, rfl, rfl, hn, hc, fun _ => ⟨g, 0, rfl, (Array.getElem?_eq_some_iff.1 hh).1, fun j hj => ?_⟩, hz, fun h => by cases h⟩
  rw [Nat.zero_add, h'.cellAt j hj]
  simp [V, List.getD, List.getElem?_eq_getElem hj]

theorem append_M (w : World) (B : Nat) (v : Value) (n : Nat) (xs : List Value) (h : OwnM w B v n xs) (ad : Addr) (u : Value) (h1 : u.oneCell' = true) (hu : w.cell? ad = some u) (hn : n ≤ 1000000) (hB : B ≤ w.heap.size) (ty : TypeId) :
    ∃ v' w', (Builtin.append_ #[22, 22] ty #[v, .slice (some ad) 1 1]).run Tryd.prog w = .ok v' w' ∧ OwnM w' B v' (n + 1) (xs ++ [u]) ∧ w.grownBy w' v.ownBlock := by
  obtain ⟨i0, hi, hz0, hz1, hz2⟩ := info_parts Tryd.info5
  have h' := h
  obtain ⟨hxl, g, cap, cur, fz, rfl, hBg, hh, hfz, hnc, hcm, hcs, htk⟩ := h
  have hf := run_firstCells_some (P := Tryd.prog) w 1 1 ad 1 1 [u] rfl (fun j x hx => by
    match j, hx with
    | 0, hx => simp at hx; subst hx; rw [add_plain']; exact hu)
  by_cases hroom : n + 1 ≤ cap
  · have hcell : w.cell? ⟨g, n, none⟩ = some cur[n] := by simp [World.cell?, hh, show n < cur.size from by omega]
    have hfro : w.frozen? ⟨g, n, none⟩ = false := by
      obtain ⟨lo, hi'⟩ := fz
      simp only [World.frozen?, hh, Bool.and_eq_false_iff, decide_eq_false_iff_not]
      rcases hfz with h | h
      · injection h with h2 h3
        right
        omega
      · left
        simp only at h
        omega
    have hst : (store ⟨g, n, none⟩ u).run Tryd.prog w = .ok () (w.setRow g (cur.setIfInBounds n u)) := by
      rw [run_store Tryd.prog w _ u _ h1, hcell]
      simp [hfro, setCell_eq_setRow w g n cur 5 fz u hh]
    have hadd : (⟨g, n, none⟩ : Addr).add 0 = ⟨g, n, none⟩ := add_plain' _
    have hsc : (storeCells ⟨g, n, none⟩ [u] 0).run Tryd.prog w = .ok () (w.setRow g (cur.setIfInBounds n u)) := by
      simp only [storeCells, Sem.run_bind, hadd, hst, Result.andThen_ok]
      rfl
    refine ⟨.slice (some ⟨g, 0, none⟩) (n + 1) cap, w.setRow g (cur.setIfInBounds n u), ?_, ⟨by simp [hxl], g, cap, _, fz, rfl, hBg, setRow_heap _ _ _ _ _ _ hh, hfz, hroom, hcm, by simp [hcs], ?_⟩, ?_⟩
    · simp [Builtin.append_, run_underlying Tryd.underlying22, sizeOf, typeInfo, hi, hz1, Builtin.lenOf, hroom, hf, Addr.add_lit, hsc]
    · rw [Array.toList_setIfInBounds, List.take_succ_eq_append_getElem (by simp; omega), List.take_set_of_le (Nat.le_refl _), htk]
      simp
    · exact grown_setRow _ _ _
  · have holds : ∀ j x, xs[j]? = some x → w.cell? ((⟨g, 0, none⟩ : Addr).add j) = some x := by
      intro j x hx
      have hj : j < n := by have := (List.getElem?_eq_some_iff.1 hx).1; omega
      rw [Go.WideShapes.add_plain, Nat.zero_add, h'.cellAt j hj, hx]
    have hr := run_append_grow (P := Tryd.prog) w 22 ty 5 i0 (.int .u8 0) Tryd.underlying22 hi hz0 ⟨g, 0, none⟩ n cap xs (by rw [hxl, hz1, Nat.mul_one]) holds ad 1 1 [u] (by rw [hz1]; rfl) (fun j x hx => by
      match j, hx with
      | 0, hx => simp at hx; subst hx; rw [add_plain']; exact hu) (by omega) (by omega) (growslice_fits (by omega) (by rw [hz2]; omega))
    have hge := grownCap_ge w (n + 1) cap 5
    have hcm2 : grownCap w (n + 1) cap 5 ≤ maxLen := grownCap_le_maxLen w (n + 1) cap 5 (by unfold maxLen; omega)
    refine ⟨_, _, hr, ⟨by simp [hxl], w.heap.size, _, _, (0, 0), rfl, hB, heap_alloc_new w.drew _, Or.inl rfl, hge, hcm2, ?_, ?_⟩, ⟨rfl, rfl, rfl, by simp, fun k hk _ => (bel_alloc w.drew _).block k hk⟩⟩
    · simp only [Array.size_append, List.size_toArray, size_zeroCells, Value.cells, hxl, List.length_singleton]
      simp
      omega
    · simp only [Array.toList_append, List.append_assoc]
      rw [← List.append_assoc, show n + 1 = (xs ++ [u]).length from by simp [hxl]]
      exact List.take_left
end Go.Proofs.YtplinkmagnihmaaDoor.Sh
namespace Go.Proofs.YtplinkmagnihmaaDoor.Sh
open Go.RowKit Sha

theorem xorL_take (x : Nat) (l : List Nat) (k : Nat) (h : k < l.length) : xorL x (l.take (k + 1)) = xorL x (l.take k) ++ [l.getD k 0 ^^^ x] := by
  have d : l.getD k 0 = l[k] := by rw [List.getD, List.getElem?_eq_getElem h, Option.getD_some]
  rw [List.take_succ_eq_append_getElem h, xorL, xorL, List.map_append, d]
  rfl

set_option maxHeartbeats 800000 in
theorem xored_ref (a : Option Addr) (cap : Nat) (l : List Nat) (x : Nat) (w : World) (hr : Rd w (.slice a l.length cap) a cap l) (hx : x < 256) (hbd : l.length ≤ 100000) :
    Calls Tryd.prog 91 #[.slice a l.length cap, .int .u8 (x : Int)] w fun e w' => ∃ v, e = .returned v ∧ w'.ownsRow w.heap.size 5 1 v l.length (V (xorL x l)) ∧ Below w.heap.size w w' := by
  obtain ⟨i0, hi, hz0, hz1, hz2⟩ := info_parts Tryd.info5
  have HR := hid hr
  have HX := hid (xorL_take x l)
  clear hr
  generalize hln : l.length = n at *
  have HLN := hid hln
  clear hln
  go_enter Tryd.func91, Tryd.ntmps91
  go_wp2_with fail
  go_loopw [5, 6] (fun v i wr => ∃ k : Nat, k ≤ n ∧ i = .int .i64 k ∧ wr.ownsRow w.heap.size 5 1 v k (V (xorL x (l.take k))) ∧ Below w.heap.size w wr) (fun _ i _ => n - (intOf i).toNat)
  case atStart => exact ⟨0, by omega, rfl, World.ownsRow_nil _ _ _ _, Below.refl _ _⟩
  case round =>
    obtain ⟨k, hk, rfl, hown, hbel⟩ := hrel
    have hsz := hbel.size
    by_cases hlt : k < n
    · have hkn : (k : Int) < (n : Int) := by omega
      obtain ⟨b, off, rfl, hbw, hc⟩ := HR.out.cells (by rw [HLN.out]; omega)
      have hck : wr.cell? ⟨b, off + k, none⟩ = some (.int .u8 ((l.getD k 0 : Nat) : Int)) := (hbel.cell (p := ⟨b, off + k, none⟩) hbw).trans (hc k (by rw [HLN.out]; exact hlt))
      have hy := HR.out.hi k
      have hxb := u8_xor_nat (l.getD k 0) x hy hx
      have HT := hid (HX.out k hlt)
      clear hc
      generalize l.getD k 0 = y at *
      go_wp2_with (at_builtin; refine wpList_append_own _ rfl _ _ 22 rfl w.heap.size 5 i0 (.int .u8 0) 1 1 Tryd.underlying22 hi hz0 hz1 hz2 rfl (by decide) _ _ _ rfl (hown.alloc _) ⟨wr.heap.size, 0, none⟩ 1 1 [.int .u8 ((y ^^^ x : Nat) : Int)] rfl rfl (one_new wr _) (one_cell _) (by unfold maxLen; omega) (by omega) (by simp; omega) ?_)
      intro v' w2 hown' hgrow _
      have hb2 := (hbel.alloc hsz _).grown hgrow (by simp; omega) (fun j hj => (hown.lt j hj).1)
      have R : w2.ownsRow w.heap.size 5 1 v' (k + 1) (V (xorL x (l.take (k + 1)))) := by
        rw [HT.out, ← V_snoc]
        exact hown'
      clear hown' hgrow hown
      go_wp2
      exact ⟨⟨k + 1, by omega, by go_num, R, hb2⟩, by simp [intOf]; omega⟩
    · obtain rfl : k = n := by omega
      have hkn : ¬ (k : Int) < (k : Int) := by omega
      have htk : l.take k = l := List.take_of_length_le (by rw [HLN.out]; exact Nat.le_refl _)
      rw [htk] at hown
      go_wp2
      go_ret
      exact ⟨_, rfl, hown, hbel⟩

/- block_ref -/
set_option maxHeartbeats 1600000 in
set_option maxRecDepth 100000 in
theorem block_ref (a : Option Addr) (cap : Nat) (zs : List Nat) (w : World) (hr : Rd w (.slice a zs.length cap) a cap zs) (hbd : zs.length ≤ 100000) :
    Calls Tryd.prog 90 #[.slice a zs.length cap] w fun e w' => ∃ v, e = .returned v ∧ w'.ownsRow w.heap.size 5 1 v 64 (V (blockL zs)) ∧ Below w.heap.size w w' := by
  obtain ⟨i0, hi, hz0, hz1, hz2⟩ := info_parts Tryd.info5
  have hown1 := World.ownsRow_lit (base := w.heap.size) (e := 5) (size := 1) w #[] 0 (Nat.le_refl _) (by unfold maxLen; omega) rfl
  have hb1 := bel_alloc w (.cells #[] 5)
  have s1 : (w.alloc (.cells #[] 5)).heap.size = w.heap.size + 1 := by simp
  have hr1 := hr.later hb1
  have hroom := hr.room
  have hmost := hr.most
  unfold maxLen at hmost
  have HR := hid hr
  clear hr
  go_enter Tryd.func90, Tryd.ntmps90
  go_wp2_with (at_builtin; refine app_any _ rfl _ _ rfl w.heap.size _ [] rfl hown1 a cap zs rfl hr1 (by simp; omega) (by omega) ?_)
  intro v2 w2 hown2 hgrow2
  have hz2' := hgrow2.size
  have hb2 : Below w.heap.size w w2 := hb1.grown hgrow2 (by omega) (fun j hj => (hown1.lt j hj).1)
  have HO := hid hown2
  have HB0 := hid hb2
  clear hown1 hgrow2 hown2 hb2 hr1 hb1
  by_cases h64 : 64 < zs.length
  · have h64' : (64 : Int) < (zs.length : Int) := by omega
    have hk : Sha.keyOf zs = digest zs := if_pos h64
    have HBL : Hid (blockL zs = digest zs ++ List.replicate (64 - (digest zs).length) 0) := by
      show _ = _
      rw [blockL, hk]
    have HOF := hid (of_ref a cap zs w2 (HR.out.later HB0.out) hbd)
    have hDl := digest_len zs
    have HDT := hid (digest_lt zs)
    clear hk HO
    generalize digest zs = K at *
    go_wp2_with fail
    go_at_call 37
    refine HOF.out.mono ?_
    rintro _ w3 ⟨rfl, hb3⟩
    obtain ⟨q4, f4, z4⟩ := put_new w3 K 24 w3.heap.size rfl
    have hn3 := heap_new w3 (.cells (arr .u8 z32) 24)
    have hB4 := Bn HB0.out (Bn hb3 q4)
    have hsd : (arr .u8 K).size = 32 := by rw [arr_size, hDl]
    have hrd := Rd.block 32 hDl f4 (by decide) HDT.out
    have hown5 := World.ownsRow_lit (base := w.heap.size) (e := 5) (size := 1) ((w3.alloc (.cells (arr .u8 z32) 24)).setRow w3.heap.size (arr .u8 K)) #[] 0 hB4.size (by unfold maxLen; omega) rfl
    rw [z4] at hown5
    have hb5 := bel_alloc ((w3.alloc (.cells (arr .u8 z32) 24)).setRow w3.heap.size (arr .u8 K)) (.cells #[] 5)
    have hr5 : Rd (((w3.alloc (.cells (arr .u8 z32) 24)).setRow w3.heap.size (arr .u8 K)).alloc (.cells #[] 5)) (.slice (some ⟨w3.heap.size, 0, none⟩) K.length 32) (some ⟨w3.heap.size, 0, none⟩) 32 K := by rw [hDl]; exact hrd.later hb5
    have hB5 := Bn hB4 hb5
    have hK : K.length ≤ 64 := by omega
    have hz5 := hB5.size
    have hz5b : (((w3.alloc (.cells (arr .u8 z32) 24)).setRow w3.heap.size (arr .u8 K)).alloc (.cells #[] 5)).heap.size = w3.heap.size + 1 + 1 := by simp
    clear hrd hb5 hB4 q4 f4 HOF hb3 HB0
    go_wp2_with (first
      | (refine wpList_alloc_at rfl 24 rfl (some 4) rfl (arr .u8 z32) Tryd.zero24 w3.heap.size rfl ?_)
      | (refine wpList_store_rowTo rfl 24 _ _ rfl rfl w3.heap.size (arr .u8 K) rfl rfl 24 _ hn3 (by rw [hsd]; exact Tryd.size24) (by rw [hsd]; rfl) (arr_one _ _) ?_)
      | (at_builtin; refine app_any _ rfl _ _ rfl w.heap.size _ [] rfl hown5 _ 32 K (by rw [hDl]; rfl) hr5 (by simp; omega) hz5 ?_))
    intro v6 w6 hown6 hgrow6
    have hb6 : Below w.heap.size w w6 := hB5.grown hgrow6 hz5 (fun j hj => (hown5.lt j hj).1)
    have HO : Hid (w6.ownsRow w.heap.size 5 1 v6 K.length (V K)) := by
      show _
      rw [hDl]; exact hown6
    have HB0 := hid hb6
    clear hown6 hgrow6 hown5 hr5 hb6 hB5 hDl hsd hn3
    go_wp2_with fail
    go_loopw [3] (fun v wr => ∃ z : Nat, K.length + z ≤ 64 ∧ wr.ownsRow w.heap.size 5 1 v (K.length + z) (V (K ++ List.replicate z 0)) ∧ Below w.heap.size w wr) (fun v _ => 64 - slen v)
    case atStart => exact ⟨0, hK, by rw [List.replicate_zero, List.append_nil]; exact HO.out, HB0.out⟩
    case round =>
      obtain ⟨q, hq, hown, hbel⟩ := hrel
      have hsz := hbel.size
      have hsl := slen_own hown
      obtain ⟨sa, sc, hsv⟩ := own_slice hown
      subst hsv
      by_cases hlt : K.length + q < 64
      · have hlt' : ((K.length : Int) + (q : Int)) < 64 := by omega
        go_wp2_with (at_builtin; refine wpList_append_own _ rfl _ _ 22 rfl w.heap.size 5 i0 (.int .u8 0) 1 1 Tryd.underlying22 hi hz0 hz1 hz2 rfl (by decide) _ _ _ rfl (hown.alloc _) ⟨wr.heap.size, 0, none⟩ 1 1 [.int .u8 0] rfl rfl (one_new wr _) (one_cell _) (by unfold maxLen; omega) (by omega) (by simp; omega) ?_)
        intro v' w2 hown' hgrow _
        have hb2 := (hbel.alloc hsz _).grown hgrow (by simp; omega) (fun j hj => (hown.lt j hj).1)
        have R : w2.ownsRow w.heap.size 5 1 v' (K.length + (q + 1)) (V (K ++ List.replicate (q + 1) 0)) := by
          rw [List.replicate_succ', ← List.append_assoc, ← V_snoc]
          exact hown'
        have hs1 := slen_own R
        clear hown' hgrow hown
        go_wp2
        refine ⟨⟨q + 1, by omega, R, hb2⟩, ?_⟩
        rw [hs1]
        show 64 - (K.length + (q + 1)) < 64 - (K.length + q)
        omega
      · have hlt' : ¬ ((K.length : Int) + (q : Int)) < 64 := by omega
        have R : wr.ownsRow w.heap.size 5 1 (.slice sa (K.length + q) sc) 64 (V (blockL zs)) := by
          rw [HBL.out, show 64 - K.length = q from by omega]
          have := hown
          rw [show K.length + q = 64 from by omega] at this ⊢
          exact this
        clear hown
        go_wp2
        go_ret
        exact ⟨_, rfl, R, hbel⟩
  · have h64' : ¬ (64 : Int) < (zs.length : Int) := by omega
    have hk : Sha.keyOf zs = zs := if_neg h64
    have HBL : Hid (blockL zs = zs ++ List.replicate (64 - zs.length) 0) := by
      show _ = _
      rw [blockL, hk]
    have hK : zs.length ≤ 64 := by omega
    clear hk
    go_wp2_with fail
    go_loopw [3] (fun v wr => ∃ z : Nat, zs.length + z ≤ 64 ∧ wr.ownsRow w.heap.size 5 1 v (zs.length + z) (V (zs ++ List.replicate z 0)) ∧ Below w.heap.size w wr) (fun v _ => 64 - slen v)
    case atStart => exact ⟨0, hK, by rw [List.replicate_zero, List.append_nil]; exact HO.out, HB0.out⟩
    case round =>
      obtain ⟨q, hq, hown, hbel⟩ := hrel
      have hsz := hbel.size
      have hsl := slen_own hown
      obtain ⟨sa, sc, hsv⟩ := own_slice hown
      subst hsv
      by_cases hlt : zs.length + q < 64
      · have hlt' : ((zs.length : Int) + (q : Int)) < 64 := by omega
        go_wp2_with (at_builtin; refine wpList_append_own _ rfl _ _ 22 rfl w.heap.size 5 i0 (.int .u8 0) 1 1 Tryd.underlying22 hi hz0 hz1 hz2 rfl (by decide) _ _ _ rfl (hown.alloc _) ⟨wr.heap.size, 0, none⟩ 1 1 [.int .u8 0] rfl rfl (one_new wr _) (one_cell _) (by unfold maxLen; omega) (by omega) (by simp; omega) ?_)
        intro v' w2 hown' hgrow _
        have hb2 := (hbel.alloc hsz _).grown hgrow (by simp; omega) (fun j hj => (hown.lt j hj).1)
        have R : w2.ownsRow w.heap.size 5 1 v' (zs.length + (q + 1)) (V (zs ++ List.replicate (q + 1) 0)) := by
          rw [List.replicate_succ', ← List.append_assoc, ← V_snoc]
          exact hown'
        have hs1 := slen_own R
        clear hown' hgrow hown
        go_wp2
        refine ⟨⟨q + 1, by omega, R, hb2⟩, ?_⟩
        rw [hs1]
        show 64 - (zs.length + (q + 1)) < 64 - (zs.length + q)
        omega
      · have hlt' : ¬ ((zs.length : Int) + (q : Int)) < 64 := by omega
        have R : wr.ownsRow w.heap.size 5 1 (.slice sa (zs.length + q) sc) 64 (V (blockL zs)) := by
          rw [HBL.out, show 64 - zs.length = q from by omega]
          have := hown
          rw [show zs.length + q = 64 from by omega] at this ⊢
          exact this
        clear hown
        go_wp2
        go_ret
        exact ⟨_, rfl, R, hbel⟩
end Go.Proofs.YtplinkmagnihmaaDoor.Sh
namespace Go.Proofs.YtplinkmagnihmaaDoor.Sh
open Go.RowKit Sha

theorem block_ref' (a : Option Addr) (cap : Nat) (zs : List Nat) (w : World) (hr : Rd w (.slice a zs.length cap) a cap zs) (hbd : zs.length ≤ 100000) :
    Calls Tryd.prog 90 #[.slice a zs.length cap] w fun e w' => ∃ g c, e = .returned (.slice (some ⟨g, 0, none⟩) 64 c) ∧ Rd w' (.slice (some ⟨g, 0, none⟩) 64 c) (some ⟨g, 0, none⟩) c (blockL zs) ∧ Below w.heap.size w w' := by
  refine (block_ref a cap zs w hr hbd).mono fun e w' ⟨v, he, hown, hb⟩ => ?_
  have hl := blockL_length zs
  rw [← hl] at hown
  obtain ⟨g, c, hv, _, hrd⟩ := rd_own hown (by omega) (blockL_lt zs hr.hi)
  rw [hv] at hrd he
  rw [hl] at hrd he
  exact ⟨g, c, he, hrd, hb⟩
theorem xored_ref' (a : Option Addr) (cap : Nat) (l : List Nat) (x : Nat) (w : World) (hr : Rd w (.slice a 64 cap) a cap l) (hl : l.length = 64) (hx : x < 256) :
    Calls Tryd.prog 91 #[.slice a 64 cap, .int .u8 (x : Int)] w fun e w' => ∃ g c, e = .returned (.slice (some ⟨g, 0, none⟩) 64 c) ∧ Rd w' (.slice (some ⟨g, 0, none⟩) 64 c) (some ⟨g, 0, none⟩) c (xorL x l) ∧ Below w.heap.size w w' := by
  have h := xored_ref a cap l x w (by rw [hl]; exact hr) hx (by omega)
  rw [hl] at h
  refine h.mono fun e w' ⟨v, he, hown, hb⟩ => ?_
  have hxl : (xorL x l).length = 64 := (xorL_length _ _).trans hl
  rw [show w'.ownsRow w.heap.size 5 1 v 64 (V (xorL x l)) = w'.ownsRow w.heap.size 5 1 v (xorL x l).length (V (xorL x l)) from by rw [hxl]] at hown
  obtain ⟨g, c, hv, _, hrd⟩ := rd_own hown (by omega) (xorL_lt x l hx hr.hi)
  rw [hv] at hrd he
  rw [hxl] at hrd he
  exact ⟨g, c, he, hrd, hb⟩

set_option maxHeartbeats 3200000 in
set_option maxRecDepth 100000 in
theorem macSum_ref (a : Option Addr) (cap : Nat) (key : List Nat) (ad : Addr) (c : Nat) (l : List (List Nat)) (w : World) (hr : Rd w (.slice a key.length cap) a cap key) (hk : key.length ≤ 100000)
    (hp : Ps w (some ad) c l) (h0 : 0 < l.length) (hn : l.length ≤ 1000) (hl : l.flatten.length ≤ 300000) :
    Calls Tryd.prog 76 #[.slice a key.length cap, .slice (some ad) l.length c] w fun e w' => e = .returned (.agg (arr .u8 (hmac key l.flatten))) ∧ Below w.heap.size w w' := by
  obtain ⟨i0, hi, hz0, hz1, hz2⟩ := info_parts Tryd.info22
  have b1 := bel_alloc w (.cells (arr .u8 z32) 25)
  have e1 := heap_new w (.cells (arr .u8 z32) 25)
  have s1 : (w.alloc (.cells (arr .u8 z32) 25)).heap.size = w.heap.size + 1 := by simp
  have HB1 := hid b1
  have HP1 := hid (hp.later b1)
  have HBO := hid (block_ref' a cap key _ (hr.later b1) hk)
  have HXL1 : Hid ((xorL 54 (blockL key)).length = 64) := (xorL_length _ _).trans (blockL_length key)
  have HX := hid (fun (x : Nat) (hx : x < 256) (g c : Nat) (W : World) (h : Rd W (.slice (some ⟨g, 0, none⟩) 64 c) (some ⟨g, 0, none⟩) c (blockL key)) => xored_ref' (some ⟨g, 0, none⟩) c (blockL key) x W h (blockL_length key) hx)
  have HX1 := hid (fun (g c : Nat) (W : World) (h : Rd W (.slice (some ⟨g, 0, none⟩) 64 c) (some ⟨g, 0, none⟩) c (blockL key)) => HX.out 54 (by decide) g c W h)
  have HX2 := hid (fun (g c : Nat) (W : World) (h : Rd W (.slice (some ⟨g, 0, none⟩) 64 c) (some ⟨g, 0, none⟩) c (blockL key)) => HX.out 92 (by decide) g c W h)
  have HXL2 : Hid ((xorL 92 (blockL key)).length = 64) := (xorL_length _ _).trans (blockL_length key)
  have HH : Hid (hmac key l.flatten = digest (xorL 92 (blockL key) ++ digest (xorL 54 (blockL key) ++ l.flatten))) := rfl
  clear hr hp HX
  generalize hmac key l.flatten = MM at *
  generalize xorL 54 (blockL key) = x1 at *
  generalize xorL 92 (blockL key) = x2 at *
  generalize blockL key = bk at *
  generalize hln : l.length = ln at *
  have HLN := hid hln
  clear hln b1
  go_enter Tryd.func76, Tryd.ntmps76
  go_wp2_with (refine wpList_alloc_at rfl 25 rfl (some 4) rfl (arr .u8 z32) Tryd.zero25 w.heap.size rfl ?_)
  generalize w.alloc (.cells (arr .u8 z32) 25) = w1 at *
  go_at_call 90
  refine HBO.out.mono ?_
  rintro _ w2 ⟨g2, c2, rfl, hr2, hb2⟩
  have HR2 := hid hr2
  have HB2 := hid hb2
  clear hr2 hb2
  go_wp2_with fail
  go_at_call 91
  refine (HX1.out g2 c2 w2 HR2.out).mono ?_
  rintro _ w3 ⟨g3, c3, rfl, hr3, hb3⟩
  have hB3 := Bn HB2.out hb3
  have HR23 := hid (HR2.out.later hb3)
  have b4 := bel_alloc w3 (.cells #[.slice (some ⟨g3, 0, none⟩) 64 c3] 22)
  have o4 := World.ownsRow_lit (base := w3.heap.size) (e := 22) (size := 1) w3 #[.slice (some ⟨g3, 0, none⟩) 64 c3] 1 (Nat.le_refl _) (by unfold maxLen; omega) rfl
  have s4 : (w3.alloc (.cells #[.slice (some ⟨g3, 0, none⟩) 64 c3] 22)).heap.size = w3.heap.size + 1 := by simp
  have hB4 := Bn hB3 b4
  have hps := HP1.out.later hB3
  obtain ⟨ab, ao, hab, habl, _⟩ := hps.cells (by rw [HLN.out]; exact h0)
  obtain ⟨vals, hV, hVc3, hV1⟩ := hps.vals
  have hVc : ∀ (j : Nat) (u : Value), vals[j]? = some u → (w3.alloc (.cells #[.slice (some ⟨g3, 0, none⟩) 64 c3] 22)).cell? (ad.add j) = some u := fun j u hu => (b4.cell (p := ad.add j) (by rw [add_block]; injection hab with hab; subst hab; exact habl)).trans (hVc3 j u hu)
  have hvl : vals.length = ln * 1 := by rw [Nat.mul_one]; exact hV.len.trans HLN.out
  have hV0 : Vals w3 [.slice (some ⟨g3, 0, none⟩) 64 c3] [x1] := ⟨rfl, fun j hj => by
    obtain rfl : j = 0 := by simp at hj; omega
    exact ⟨_, _, hr3⟩⟩
  have HV := hid (hV0.app hV)
  have hq3 : 1 + ln ≤ maxLen := by unfold maxLen; omega
  have hq4 : (1 + ln) * 24 ≤ 140737488355328 := by omega
  have hq5 : w3.heap.size ≤ (w3.alloc (.cells #[.slice (some ⟨g3, 0, none⟩) 64 c3] 22)).heap.size := by omega
  clear hps hV hV0 hr3 hVc3 hab habl
  go_wp2_with (at_builtin; refine wpList_append_own _ rfl _ _ 101 rfl w3.heap.size 22 i0 (.slice none 0 0) 1 24 Tryd.underlying101 hi hz0 hz1 hz2 rfl (by decide) _ _ _ rfl o4 ad ln c vals rfl hvl hVc hV1 hq3 hq4 hq5 ?_)
  intro v5 w5 hown5 hgrow5 _
  have hb5 := b4.grown hgrow5 hq5 (fun j hj => (o4.lt j hj).1)
  have hml : ([x1] ++ l).length = 1 + ln := by rw [List.length_append, HLN.out]; rfl
  have hfl : ([x1] ++ l).flatten = x1 ++ l.flatten := by simp
  obtain ⟨a5, c5, hv5, hps5⟩ := ps_own (v := v5) HV.out (by rw [hml]; exact hown5) hb5
  rw [hml] at hv5
  subst hv5
  have hsm := sum_ref a5 c5 ([x1] ++ l) w5 hps5 (by rw [hfl, List.length_append, HXL1.out]; omega)
  rw [hml, hfl] at hsm
  have HSM := hid hsm
  have hB5 := Bn hB3 hb5
  have HB5 := hid hB5
  have HR5 := hid (HR23.out.later hb5)
  have hDl := digest_len (x1 ++ l.flatten)
  have HDT := hid (digest_lt (x1 ++ l.flatten))
  have hr5 : w5.heap[w.heap.size]? = some (.cells (arr .u8 z32) 25 (0, 0)) := by rw [hB5.block _ (by omega)]; exact e1
  have hz5 := hB5.size
  clear hown5 hgrow5 hsm hps5 hb5 o4 b4 hVc hV1 hB4 hB5 hB3 hb3 e1 HV hvl
  generalize digest (x1 ++ l.flatten) = D1 at *
  go_wp2_with fail
  go_at_call 54
  refine HSM.out.mono ?_
  rintro _ w6 ⟨rfl, hb6⟩
  obtain ⟨q7, f7, z7⟩ := put_new w6 D1 24 w6.heap.size rfl
  have hn6 := heap_new w6 (.cells (arr .u8 z32) 24)
  have hsd : (arr .u8 D1).size = 32 := by rw [arr_size, hDl]
  have hz6 := hb6.size
  go_wp2_with (first
    | (refine wpList_alloc_at rfl 24 rfl (some 7) rfl (arr .u8 z32) Tryd.zero24 w6.heap.size rfl ?_)
    | (refine wpList_store_rowTo rfl 24 _ _ rfl rfl w6.heap.size (arr .u8 D1) rfl rfl 24 _ hn6 (by rw [hsd]; exact Tryd.size24) (by rw [hsd]; rfl) (arr_one _ _) ?_))
  generalize (w6.alloc (.cells (arr .u8 z32) 24)).setRow w6.heap.size (arr .u8 D1) = w7 at *
  have hrd7 := Rd.block 32 hDl f7 (by decide) HDT.out
  have hb57 := Bn hb6 q7
  have hS7 : Below w.heap.size w w7 := Bn HB1.out (Bn HB5.out hb57)
  have hres7 : w7.heap[w.heap.size]? = some (.cells (arr .u8 z32) 25 (0, 0)) := by rw [hb57.block _ (by omega)]; exact hr5
  have HR7 := hid (HR5.out.later hb57)
  refine wp_region_held_drew (S := fun w' => Below w.heap.size w w') (by as_aux_lemma => kernel_rfl) hS7.drew (fun hS => ?_)
  have hD := (Below.refl w7.heap.size w7).drew
  have hzD : w7.drew.heap.size = w7.heap.size := rfl
  generalize w7.drew = wD at *
  refine Ord.take (i := 0) (d := 17) (v := ?v0) rfl rfl (by as_aux_lemma => kernel_rfl) (by as_aux_lemma => kernel_rfl) (by as_aux_lemma => kernel_rfl) (fun _ _ _ h => h) (by rfl) ?h0 (by assumption) ?_
  case h0 => intro w hSw; go_simp; try with_reducible rfl
  simp only [List.setIfInBounds_toArray, List.set_cons_zero, List.set_cons_succ]
  refine Ord.take (i := 2) (d := 19) (v := .slice (some ⟨w6.heap.size, 0, none⟩) 32 32) rfl rfl (by as_aux_lemma => kernel_rfl) (by as_aux_lemma => kernel_rfl) (by as_aux_lemma => kernel_rfl) (fun _ _ _ h => h) (by rfl) ?h2 (by assumption) ?_
  case h2 => intro w hSw; go_simp; try with_reducible rfl
  simp only [List.setIfInBounds_toArray, List.set_cons_zero, List.set_cons_succ]
  refine wpAnyH_ready (rs := [1]) (by as_aux_lemma => kernel_rfl) (by simp) (AllReadyH.cons rfl (fun K hK => ?_) AllReadyH.nil)
  go_simp
  refine (HX2.out g2 c2 wD (HR7.out.later hD)).mono ?_
  rintro _ w8 ⟨g8, c8, rfl, hr8, hb8⟩
  have hS8 := Bn hS hb8
  have hB8 := Bn hD hb8
  refine hK.out _ _ hS8 (fun _ => ?_)
  clear hK K
  have b9 := bel_alloc w8 (.cells #[.slice (some ⟨g8, 0, none⟩) 64 c8, .slice (some ⟨w6.heap.size, 0, none⟩) 32 32] 22)
  have p9 := Ps.two hr8 (hrd7.later hB8) w8.heap.size rfl
  have hS9 := Bn hS8 b9
  have hB9 := Bn hB8 b9
  refine wpAnyH_ready (rs := [3]) (by as_aux_lemma => kernel_rfl) (by simp) (AllReadyH.cons rfl (fun K hK => ?_) AllReadyH.nil)
  go_simp
  refine hK.out _ _ hS9 (fun _ => ?_)
  clear hK K
  generalize hw9 : w8.alloc (.cells #[.slice (some ⟨g8, 0, none⟩) 64 c8, .slice (some ⟨w6.heap.size, 0, none⟩) 32 32] 22) = w9 at *
  have hs2 := sum_ref _ _ _ w9 p9 (by simp [HXL2.out, hDl])
  rw [show [x2, D1].flatten = x2 ++ D1 from by simp, ← HH.out] at hs2
  have HS2 := hid hs2
  have hsz : (arr .u8 MM).size = 32 := by rw [HH.out, arr_size, digest_len]
  clear hs2 p9 hrd7 hr8 hB8 hb8 hw9 b9
  refine wpAnyH_ready (rs := [4]) (by as_aux_lemma => kernel_rfl) (by simp) (AllReadyH.cons rfl (fun K hK => ?_) AllReadyH.nil)
  go_simp
  refine HS2.out.mono ?_
  rintro _ w10 ⟨rfl, hb10⟩
  have hS10 := Bn hS9 hb10
  have hB10 := Bn hB9 hb10
  refine hK.out _ _ hS10 (fun _ => ?_)
  clear hK K
  have hres10 : w10.heap[w.heap.size]? = some (.cells (arr .u8 z32) 25 (0, 0)) := by rw [hB10.block _ (by omega)]; exact hres7
  have hasz : (Tryd.prog.info? 25).map (·.size) = some (arr .u8 MM).size := by rw [hsz]; exact Tryd.size25'
  have hS11 : Below w.heap.size w (w10.setRow w.heap.size (arr .u8 MM)) := below_setRow hS10 (Nat.le_refl _) _
  refine wpAnyH_ready (rs := [5]) (by as_aux_lemma => kernel_rfl) (by simp) (AllReadyH.cons rfl (fun K hK => ?_) AllReadyH.nil)
  refine wp_store_row 25 (.tmp 4) (.tmp 21) rfl w.heap.size (arr .u8 MM) rfl rfl 25 _ hres10 hasz (by rw [hsz]; rfl) (arr_one _ _) ?_
  refine hK.out _ _ hS11 (fun _ => ?_)
  clear hK K
  refine wpAnyH_done (by as_aux_lemma => kernel_rfl) ?_ _
  have HS11 := hid hS11
  have hrr := setRow_heap _ _ _ (arr .u8 MM) _ _ hres10
  clear hS11 hS10 hS9 hS8 hS hres10 hres7 hb10 hB10 hB9 hD hS7 hb57 hb6 q7 f7
  generalize w10.setRow w.heap.size (arr .u8 MM) = w11 at *
  go_wp2
  refine bodyPost_ret (results_cell_row (ty := 25) rfl _ _ _ _ _ _ _ rfl hrr Tryd.underlying25 rfl hasz) rfl ?_
  exact ⟨rfl, HS11.out⟩
end Go.Proofs.YtplinkmagnihmaaDoor.Sh
