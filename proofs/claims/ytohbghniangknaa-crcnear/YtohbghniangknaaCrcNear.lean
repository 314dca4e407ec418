/-
  CrcNear is proved for every input: rows that differ within four bytes side by side have sums that differ; no condition.
-/
import Derived.Test.YtohbghniangknaaNear
import Derived.RegionTactic
namespace Go.Proofs.Ytohbghniangknaa.crcNear
open Go.ChangeShapes Go.WideShapes Go.ChangeAt Go.RowKit Crc

theorem own : ownKnob Try.prog.godebug = none := by kernel_rfl

def V (l : List Nat) : List Value := l.map (fun z : Nat => Value.int .u8 (z : Int))

theorem own_none (w : World) (B : Nat) (hB : B ≤ w.heap.size) : (w.alloc (.cells #[] 5)).ownsRow B 5 1 (.slice (some ⟨w.heap.size, 0, none⟩) 0 0) 0 [] :=
  ⟨rfl, Or.inr ⟨w.heap.size, 0, #[], rfl, hB, heap_new w _, Nat.le_refl _, by unfold maxLen; omega, rfl, rfl⟩⟩

theorem rd_news {w : World} {b off cap : Nat} {z : List Nat} (h : Rd w (.slice (some ⟨b, off, none⟩) z.length cap) (some ⟨b, off, none⟩) cap z) : ∀ (j : Nat) (u : Value), (V z)[j]? = some u → w.cell? (Addr.add ⟨b, off, none⟩ j) = some u := by
  intro j u hj
  have hjl : j < z.length := by
    have := (List.getElem?_eq_some_iff.1 hj).1
    simpa [V] using this
  obtain ⟨b', off', hb, _, hc⟩ := h.cells (by omega)
  injection hb with hb
  injection hb with hb1 hb2
  subst hb1 hb2
  rw [WideShapes.add_plain, hc j hjl, ← hj]
  simp [V, List.getD, List.getElem?_eq_getElem hjl]

theorem V_one (l : List Nat) : ∀ u ∈ V l, u.oneCell' = true := by
  intro u hu
  simp only [V, List.mem_map] at hu
  obtain ⟨z, _, rfl⟩ := hu
  rfl

theorem V_set (l : List Nat) (k v : Nat) : (V l).set k (.int .u8 (v : Int)) = V (l.set k v) := by
  unfold V
  rw [List.map_set]

theorem rd_own {w : World} {B g n cap : Nat} {l : List Nat} (hown : w.ownsRow B 5 1 (.slice (some ⟨g, 0, none⟩) n cap) n (V l)) (hl : l.length = n) (h0 : 0 < n) (hz : ∀ c ∈ l, c < 256) :
    Rd w (.slice (some ⟨g, 0, none⟩) n cap) (some ⟨g, 0, none⟩) cap l := by
  have h' := hown
  rcases hown.2 with ⟨_, h1⟩ | ⟨g', cp, cur, hv, hg, hh, hn, hcap, _, _⟩
  · omega
  · injection hv with hv1 hv2 hv3
    injection hv1 with hv1
    injection hv1 with hv1
    subst hv1 hv3
    refine ⟨by rw [hl], by omega, hcap, fun _ => ⟨g, 0, rfl, (Array.getElem?_eq_some_iff.1 hh).1, fun j hj => ?_⟩, getD_lt l hz⟩
    rw [Nat.zero_add, h'.cellAt j (by omega)]
    simp [V, List.getD, List.getElem?_eq_getElem hj]

/-- One row as a new list of rows. -/
theorem ps_one {w : World} {v1 : Value} {a1 : Option Addr} {c1 : Nat} {z1 : List Nat} (h1 : Rd w v1 a1 c1 z1) (g : Nat) (hg : g = w.heap.size) :
    Ps (w.alloc (.cells #[v1] 23)) (some ⟨g, 0, none⟩) 1 [z1] := by
  subst hg
  have hb := bel_alloc w (.cells #[v1] 23)
  refine ⟨Nat.le_refl _, by unfold maxLen; omega, fun _ => ⟨w.heap.size, 0, rfl, fun j hj => ?_⟩⟩
  have hc := World.cell?_alloc_mark w #[v1] 23 (0, 0)
  match j, hj with
  | 0, _ => exact ⟨v1, a1, c1, hc 0, h1.later hb⟩

set_option maxHeartbeats 1600000 in
theorem walk_rd (b : Option Addr) (cap : Nat) (ys : List Nat) (at' x0 x1 x2 x3 : Nat) (w : World) (ha : at' < 65536) (h0 : x0 < 256) (h1 : x1 < 256) (h2 : x2 < 256) (h3 : x3 < 256) (hr : Rd w (.slice b ys.length cap) b cap ys) :
    Calls Try.prog 8 #[.slice b ys.length cap, .int .u16 (at' : Int), .agg #[.int .u8 (x0 : Int), .int .u8 (x1 : Int), .int .u8 (x2 : Int), .int .u8 (x3 : Int)]] w fun e w' => e = .returned (.bool true) ∧ Below w.heap.size w w' := by
  obtain ⟨i0, hi, hz0, hz1, hz2⟩ := info_parts Try.info5
  have eqs := eq37
  have bX := bel_alloc w (.cells #[.int .u8 (x0 : Int), .int .u8 (x1 : Int), .int .u8 (x2 : Int), .int .u8 (x3 : Int)] 37)
  have hX := heap_new w (.cells #[.int .u8 (x0 : Int), .int .u8 (x1 : Int), .int .u8 (x2 : Int), .int .u8 (x3 : Int)] 37)
  have sX : (w.alloc (.cells #[.int .u8 (x0 : Int), .int .u8 (x1 : Int), .int .u8 (x2 : Int), .int .u8 (x3 : Int)] 37)).heap.size = w.heap.size + 1 := by simp
  go_enter Try.func8, Try.ntmps8
  go_wp2_with fail
  generalize w.alloc (.cells #[.int .u8 (x0 : Int), .int .u8 (x1 : Int), .int .u8 (x2 : Int), .int .u8 (x3 : Int)] 37) = wX at *
  go_at_call 16
  refine (awake_any _).mono ?_
  rintro _ w0 ⟨rfl, hb0⟩
  have hX0 : w0.heap[w.heap.size]? = some (.cells #[.int .u8 (x0 : Int), .int .u8 (x1 : Int), .int .u8 (x2 : Int), .int .u8 (x3 : Int)] 37 (0, 0)) := by rw [hb0.block _ (by omega)]; exact hX
  have hs0 : w.heap.size < w0.heap.size := by have := hb0.size; omega
  have b0 := Bn bX hb0
  have hr0 := hr.later b0
  have C1 := hid (cut_any b cap ys w0 hr0)
  have r1 := hr0.take 8192
  have hzl : (ys.take 8192).length ≤ 8192 := List.length_take_le _ _
  generalize ys.take 8192 = z at *
  clear hr hr0 hb0 bX hX sX
  generalize ys.length = m1 at *
  go_wp2_with fail
  go_at_call 9
  refine C1.out.mono ?_
  rintro _ w1 ⟨rfl, hw⟩
  obtain rfl := hw.symm
  clear hw C1
  have y0 := Joins.cell_of_block hX0 0
  have y1 := Joins.cell_of_block hX0 1
  have y2 := Joins.cell_of_block hX0 2
  have y3 := Joins.cell_of_block hX0 3
  simp at y0 y1 y2 y3
  by_cases h4 : z.length < 4
  · have h4' : (z.length : Int) < 4 := by omega
    generalize z.length = n at *
    go_wp2
    go_ret
    exact ⟨rfl, b0⟩
  have h4' : ¬ (z.length : Int) < 4 := by omega
  by_cases hx : x0 = 0 ∧ x1 = 0 ∧ x2 = 0 ∧ x3 = 0
  · obtain ⟨rfl, rfl, rfl, rfl⟩ := hx
    generalize z.length = n at *
    go_wp2
    go_ret
    exact ⟨rfl, b0⟩
  have hxb : ((x0 : Int) == 0 && ((x1 : Int) == 0 && ((x2 : Int) == 0 && (x3 : Int) == 0))) = false := by
    cases hq : ((x0 : Int) == 0 && ((x1 : Int) == 0 && ((x2 : Int) == 0 && (x3 : Int) == 0))) with
    | false => rfl
    | true =>
      simp only [Bool.and_eq_true, beq_iff_eq] at hq
      exact absurd (show x0 = 0 ∧ x1 = 0 ∧ x2 = 0 ∧ x3 = 0 by omega) hx
  obtain ⟨bb, off, rfl, hbw, hc⟩ := r1.cells (by omega)
  have b1 := bel_alloc w0 (.cells #[] 5)
  have o1 := own_none w0 w0.heap.size (Nat.le_refl _)
  have news := rd_news (r1.later b1)
  have hvl : (V z).length = z.length := by simp [V]
  have hsz0 : (w0.alloc (.cells #[] 5)).heap.size = w0.heap.size + 1 := by simp
  go_wp2_with (at_builtin; refine wpList_append_own _ rfl _ _ 23 rfl w0.heap.size 5 i0 (.int .u8 0) 1 1 Try.underlying23 hi hz0 hz1 hz2 rfl (by decide) _ _ _ rfl o1 ⟨bb, off, none⟩ z.length cap (V z) rfl (by omega) news (V_one z) (by unfold maxLen; omega) (by omega) (by omega) ?_)
  intro v' w1 hown' hgrow hnil
  have B1 : Below w0.heap.size w0 w1 := b1.grown hgrow (by omega) (fun j hj => (o1.lt j hj).1)
  obtain ⟨g, cap', rfl, hgB, hgs⟩ : ∃ g cap', v' = .slice (some ⟨g, 0, none⟩) z.length cap' ∧ w0.heap.size ≤ g ∧ g < w1.heap.size := by
    rcases hown'.2 with ⟨_, h0⟩ | ⟨g, cp, cur, hv, hg, hh, _⟩
    · omega
    · exact ⟨g, cp, hv, hg, (Array.getElem?_eq_some_iff.1 hh).1⟩
  obtain ⟨n, hn⟩ : ∃ n, n = z.length := ⟨_, rfl⟩
  have HK : Hid ((at' : Int) % ((n : Int) - 3) = ((at' % (n - 3) : Nat) : Int)) := by
    have e : (n : Int) - 3 = ((n - 3 : Nat) : Int) := by omega
    rw [e]
    rfl
  have hkl : at' % (n - 3) < n - 3 := Nat.mod_lt _ (by omega)
  have hd0 : ((n : Int) - 3 == 0) = false := by rw [beq_eq_false_iff_ne]; omega
  clear hgrow hnil b1 o1 news hvl hsz0 hc
  rw [← hn] at h4 h4' hzl hown'
  rw [← hn]
  have HN := hid hn
  have hn4 : 4 ≤ n := by omega
  clear y0 y1 y2 y3 hn
  go_wp2_with fail
  rw [HK.out]
  generalize at' % (n - 3) = k at *
  have hlen := fun i => (upd_length z k [x0, x1, x2, x3] i).trans HN.out.symm
  have HLEN := hid hlen
  have HX := hid hX0
  have HZ : Hid (∀ c ∈ z, c < 256) := by
    intro c hc
    obtain ⟨i, hi, rfl⟩ := List.getElem_of_mem hc
    have := r1.hi i
    simpa [List.getD, List.getElem?_eq_getElem hi] using this
  have HXS : Hid (∀ j, [x0, x1, x2, x3].getD j 0 < 256) := getD_lt _ (by intro c hc; simp only [List.mem_cons, List.not_mem_nil, or_false] at hc; omega)
  clear hd0 hlen hX0
  go_loopw [9] (fun i wr => ∃ j : Nat, j ≤ 4 ∧ i = .int .i64 j ∧ wr.ownsRow w0.heap.size 5 1 (.slice (some ⟨g, 0, none⟩) n cap') n (V (upd z k [x0, x1, x2, x3] j)) ∧ Below w0.heap.size w0 wr) (fun i _ => 4 - (intOf i).toNat)
  case atStart => exact ⟨0, by omega, rfl, hown', B1⟩
  case round =>
    obtain ⟨j, hj, rfl, hown, hbel⟩ := hrel
    by_cases hlt : j < 4
    · have hj4 : (j : Int) < 4 := by omega
      have hl := HLEN.out j
      obtain ⟨xj, hxj⟩ : ∃ xj, xj = [x0, x1, x2, x3].getD j 0 := ⟨_, rfl⟩
      have hcx : wr.cell? ⟨w.heap.size, j, none⟩ = some (.int .u8 (xj : Int)) := by
        have hb : wr.heap[w.heap.size]? = some (.cells #[.int .u8 (x0 : Int), .int .u8 (x1 : Int), .int .u8 (x2 : Int), .int .u8 (x3 : Int)] 37 (0, 0)) := by rw [hbel.block _ (by omega)]; exact HX.out
        rw [Joins.cell_of_block hb j, hxj]
        match j, hlt with
        | 0, _ => rfl
        | 1, _ => rfl
        | 2, _ => rfl
        | 3, _ => rfl
      have hxlt : xj < 256 := by
        rw [hxj]
        match j, hlt with
        | 0, _ => exact h0
        | 1, _ => exact h1
        | 2, _ => exact h2
        | 3, _ => exact h3
      obtain ⟨cj, hcj⟩ : ∃ cj, cj = (upd z k [x0, x1, x2, x3] j).getD (k + j) 0 := ⟨_, rfl⟩
      have hcc : wr.cell? ⟨g, k + j, none⟩ = some (.int .u8 (cj : Int)) := by
        rw [hown.cellAt (k + j) (by omega), hcj]
        have : k + j < (upd z k [x0, x1, x2, x3] j).length := by omega
        simp [V, List.getD, List.getElem?_eq_getElem this]
      have hfz := hown.frozenAt (k + j)
      have hst := hown.stored (k + j) (.int .u8 ((cj ^^^ xj : Nat) : Int))
      rw [V_set, hcj, hxj, show (upd z k [x0, x1, x2, x3] j).set (k + j) ((upd z k [x0, x1, x2, x3] j).getD (k + j) 0 ^^^ [x0, x1, x2, x3].getD j 0) = upd z k [x0, x1, x2, x3] (j + 1) from rfl, ← hcj, ← hxj] at hst
      have hnb := hbel.grown hst.2 hbel.size (fun i hi => by injection hi with hi; omega)
      have HS := hid hst.1
      have HB := hid hnb
      have hclt : cj < 256 := by rw [hcj]; exact getD_lt _ (upd_lt z k _ HZ.out HXS.out j) _
      have HXO := hid (u8_xor_nat cj xj hclt hxlt)
      clear hst hnb hown hl hxj hcj
      have hkj : (k : Int) + (j : Int) < (n : Int) := by omega
      go_wp2_with fail
      go_region
      rw [HXO.out]
      generalize hW : wr.setCell ⟨g, k + j, none⟩ (.int .u8 ((cj ^^^ xj : Nat) : Int)) = W at *
      clear hW
      have HB' : Hid (Below w0.heap.size w0 W.drew) := HB.out.drew
      have HS' : Hid (W.drew.ownsRow w0.heap.size 5 1 (.slice (some ⟨g, 0, none⟩) n cap') n (V (upd z k [x0, x1, x2, x3] (j + 1)))) := HS.out
      go_wp2
      go_roundw
      case rel => exact ⟨j + 1, by omega, by go_num, HS'.out, HB'.out⟩
      case measure => simp [intOf]; omega
    · have hj4 : j = 4 := by omega
      subst hj4
      have hs4 := HLEN.out 4
      have rc := rd_own hown hs4 (by omega) (upd_lt z k _ HZ.out HXS.out 4)
      have hne := near_sums z k x0 x1 x2 x3 (by have := HN.out; omega) h0 h1 h2 h3 hx
      have rb := r1.later hbel
      rw [← HN.out] at rb
      have P1 := of_word _ _ _ _ (ps_one rb _ rfl)
      have B2 := bel_alloc wr (.cells #[.slice (some ⟨bb, off, none⟩) n cap] 23)
      have P2 := of_word _ _ _ _ (ps_one (rc.later B2) (wr.heap.size + 1) (by simp))
      have B3 := hid (Bn (Bn hbel B2) (bel_alloc _ (.cells #[.slice (some ⟨g, 0, none⟩) n cap'] 23)))
      have HP1 := hid P1
      have HP2 := hid P2
      generalize sumL [upd z k [x0, x1, x2, x3] 4] = q2 at *
      generalize sumL [z] = q1 at *
      have hne' : ((q1 : Int) != (q2 : Int)) = true := by rw [bne_iff_ne]; omega
      clear P1 P2 rc rb hown hne B2
      go_wp2_with fail
      go_at_call 12
      refine HP1.out.mono ?_
      rintro _ w2 ⟨rfl, hw⟩
      obtain rfl := hw.symm
      clear hw
      go_wp2_with fail
      go_at_call 12
      refine HP2.out.mono ?_
      rintro _ w2 ⟨rfl, hw⟩
      obtain rfl := hw.symm
      clear hw
      go_wp2
      go_ret
      exact ⟨rfl, Bn b0 B3.out⟩

theorem walk (a0 : Option Addr) (cap0 : Nat) (zs0 : List Nat) (a1 : Int) (w1 : (Lit.int .u16 a1).wf = true) (x0 x1 x2 x3 : Int) (u0 : (Lit.int .u8 x0).wf = true) (u1 : (Lit.int .u8 x1).wf = true) (u2 : (Lit.int .u8 x2).wf = true) (u3 : (Lit.int .u8 x3).wf = true) (w : World) (hr0 : Rd w (.slice a0 zs0.length cap0) a0 cap0 zs0) :
    Calls Try.prog 8 #[.slice a0 zs0.length cap0, .int .u16 a1, .agg #[.int .u8 x0, .int .u8 x1, .int .u8 x2, .int .u8 x3]] w fun e w' => e = .returned (.bool true) ∧ Below w.heap.size w w' := by
  obtain ⟨h0, h1⟩ := wf_u16 w1
  obtain ⟨p0, q0⟩ := wf_u8 u0
  obtain ⟨p1, q1⟩ := wf_u8 u1
  obtain ⟨p2, q2⟩ := wf_u8 u2
  obtain ⟨p3, q3⟩ := wf_u8 u3
  obtain ⟨a, rfl⟩ := Int.eq_ofNat_of_zero_le h0
  obtain ⟨y0, rfl⟩ := Int.eq_ofNat_of_zero_le p0
  obtain ⟨y1, rfl⟩ := Int.eq_ofNat_of_zero_le p1
  obtain ⟨y2, rfl⟩ := Int.eq_ofNat_of_zero_le p2
  obtain ⟨y3, rfl⟩ := Int.eq_ofNat_of_zero_le p3
  exact walk_rd a0 cap0 zs0 a y0 y1 y2 y3 w (by omega) (by omega) (by omega) (by omega) (by omega) hr0

theorem Try.cells37 : Try.prog.cellsOf 37 = 4 := by kernel_rfl

theorem list4 {α : Type} (l : List α) (h : (⟨l⟩ : Array α).size = 4) : ∃ a b c d, l = [a, b, c, d] := by
  match l, h with
  | [a, b, c, d], _ => exact ⟨a, b, c, d, rfl⟩

/-- An argument of type [4]byte, as it is handed in. -/
theorem open_four {H : Type} {enc : TypeId × Value → H} {W : World} {base : Nat} {v : Value} {d : DataW H} {p : List MemPlace} (hv : Value.okWide Try.prog W .any base 37 v)
    (h : DataW.Trod enc Try.prog W 0 (fun _ => true) true 37 v d p) : ∃ x0 x1 x2 x3 : Int, v = .agg #[.int .u8 x0, .int .u8 x1, .int .u8 x2, .int .u8 x3] ∧ p = [] ∧ (Lit.int .u8 x0).wf = true ∧ (Lit.int .u8 x1).wf = true ∧ (Lit.int .u8 x2).wf = true ∧ (Lit.int .u8 x3).wf = true := by
  obtain ⟨cs, rfl, hsz, _⟩ : ∃ cs, v = .agg cs ∧ cs.size = Try.prog.cellsOf 37 ∧ Row.okWide Try.prog W .any base 37 cs := by
    simpa [Value.okWide, Try.underlying37] using hv
  rw [Try.cells37] at hsz
  obtain ⟨l⟩ := cs
  obtain ⟨c0, c1, c2, c3, rfl⟩ := list4 l hsz
  obtain ⟨fuel, hf⟩ := h
  obtain ⟨y0, y1, y2, y3, m, hx, hy0, hy1, hy2, hy3⟩ := trod_array4 Try.underlying37 Try.cells5 hf
  obtain ⟨x0, e0, rfl, w0⟩ := DataW.trod_int Try.underlying5 hy0
  obtain ⟨x1, e1, rfl, w1⟩ := DataW.trod_int Try.underlying5 hy1
  obtain ⟨x2, e2, rfl, w2⟩ := DataW.trod_int Try.underlying5 hy2
  obtain ⟨x3, e3, rfl, w3⟩ := DataW.trod_int Try.underlying5 hy3
  simp at e0 e1 e2 e3
  subst e0 e1 e2 e3
  simp only [Prod.mk.injEq] at hx
  obtain ⟨rfl, rfl⟩ := hx
  exact ⟨x0, x1, x2, x3, rfl, rfl, w0, w1, w2, w3⟩

set_option maxRecDepth 100000 in
theorem lifted (os : Os) (started : os.Started) (H : Type) (enc : TypeId × Value → H) :
    ReturnsInHanded {} Try.checked os 8 .any (Rows.crcNearSpec.pre6 enc Try.prog Try.f8 Rows.crcNearRow.domain false) (Rows.crcNearSpec.post enc Try.prog Try.f8 false true false false) := by
  refine returnsInHanded_of_change (C := Try.checked) own started (by kernel_rfl) Try.func8
    (ChangeSpec.witness6 (enc := enc) (C := Try.checked) false ⟨#[], #[.slice none 0 0, .int .u16 0, .agg #[.int .u8 0, .int .u8 0, .int .u8 0, .int .u8 0]], []⟩ 8 (by kernel_rfl) (by kernel_rfl) (by kernel_rfl) (by kernel_rfl)) ?_
  intro W base args ds gs before hval0 hW _ _
  have hval : ∀ (j : Nat) t v, Try.f8.params[j]? = some t → args[j]? = some v → Value.okWide Try.prog W .any base t v := hval0
  have hW' := hW
  obtain ⟨p, q, hA0, hV, rfl, _, _⟩ := hW
  have hA : DataW.TrodAll enc Try.prog W 0 (fun _ => true) true Try.f8.params.toList args.toList ds p := hA0
  rw [Try.params8] at hA hval
  obtain ⟨v0, vs0, d0, ds0, p0, q0, hargs, rfl, rfl, h0, r0⟩ := trodAll_cons hA
  obtain ⟨v1, vs1, d1, ds1, p1, q1, rfl, rfl, rfl, h1, r1⟩ := trodAll_cons r0
  obtain ⟨v2, vs2, d2, ds2, p2, q2, rfl, rfl, rfl, h2, r2⟩ := trodAll_cons r1
  obtain ⟨rfl, rfl, rfl⟩ := trodAll_nil r2
  obtain rfl : args = #[v0, v1, v2] := by cases args; simp_all
  obtain ⟨rfl, rfl⟩ := trodVars_none hV
  obtain ⟨a1, rfl, rfl, rfl, w1⟩ := open_int Try.underlying42 (hval 1 42 v1 rfl rfl) h1
  have hk2 := h2
  obtain ⟨x0, x1, x2, x3, rfl, rfl, u0, u1, u2, u3⟩ := open_four (hval 2 37 v2 rfl rfl) h2
  clear hA0
  simp only [List.append_nil] at hW'
  have hlt0 : ∀ x ∈ p0, x.block < W.heap.size := fun x hx => hW'.lt x (by simp [hx])
  have hk0 := h0
  obtain ⟨a0, cap0, zs0, rfl, hr0⟩ := open_rd (hval 0 23 v0 rfl rfl) h0 hlt0
  clear hval0
  refine (walk a0 cap0 zs0 a1 w1 x0 x1 x2 x3 u0 u1 u2 u3 W hr0).mono fun e W' ⟨he, hb⟩ => ?_
  subst he
  exact ⟨_, rfl, _, _, _, [] ++ [], _, [], hW', trodAll_cons_mk (shut_bool Try.underlying4 _) trodAll_mk0, (trodAll_cons_mk (Below.trod Try.laidOut (by kernel_rfl) (of_decide_eq_true (by kernel_rfl)) hk0 hb hlt0) (trodAll_cons_mk (shut_int Try.underlying42 w1) (trodAll_cons_mk (Below.trod Try.laidOut (by kernel_rfl) (of_decide_eq_true (by kernel_rfl)) hk2 hb (fun x hx => by cases hx)) trodAll_mk0))), rfl, hb.frame _, fun h => by cases h⟩

theorem over : Rows.crcNearRow.holds Try.pinned (OpenSpec.ofChange Rows.crcNearSpec) :=
  OpenClaim.holds_of_wide 8 Try.f8 rfl rfl rfl rfl rfl rfl rfl ⟨rfl, rfl, rfl, rfl, rfl⟩ rfl rfl rfl rfl rfl (by kernel_rfl) Try.func8 (by kernel_rfl)
    (of_decide_eq_true (by kernel_rfl)) (by unfold Func.isWrapper; first | (rw [if_pos (by decide +kernel)]; kernel_rfl) | (rw [if_neg (by decide +kernel)]; exact ⟨rfl, rfl⟩))
    (fun os started H enc _ => lifted os started H enc)

end Go.Proofs.Ytohbghniangknaa.crcNear
namespace Go.Proofs.Ytohbghniangknaa
theorem crcNear_holds : Rows.CrcNearSaid := crcNear.over
#print axioms crcNear_holds
end Go.Proofs.Ytohbghniangknaa
