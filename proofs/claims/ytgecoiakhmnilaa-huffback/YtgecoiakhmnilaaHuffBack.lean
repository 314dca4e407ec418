/-
  HuffBack is proved for every input: what Encode gives is decoded, whatever stands behind it; no condition.
-/
import Derived.Test.YtgecoiakhmnilaaDecW
import Derived.Test.YtgecoiakhmnilaaBackMath
import Derived.Laws.AppendOwnNone
namespace Go.Proofs.Ytgecoiakhmnilaa.huffBack
open Go.ChangeShapes Go.WideShapes Go.ChangeAt Go.RowKit Hf

theorem own : ownKnob Try.prog.godebug = none := by kernel_rfl

theorem grown_refl (w : World) (o : Option Nat) : w.grownBy w o := ⟨rfl, rfl, rfl, Nat.le_refl _, fun _ _ _ => rfl⟩
/-- append of bytes, which may be none, behind a row of one's own. -/
theorem app_bytes (w : World) {ops : Array Oper} {rest : List Oper} {o : Oper} {ac : Act} {Q : Exit → Act → World → Prop} (hgd : o.guard = none) (s x : Operand)
    (ho : o.op = .call { callee := .builtin .append, args := #[s, x], argTypes := #[44, 44] }) (B : Nat) (v : Value) (l : List Int) (hs : ac.eval s = v) (hown : w.ownsRow B 5 1 v l.length (l.map (Value.int .u8)))
    (a : Option Addr) (cap : Nat) (zs : List Int) (hx : ac.eval x = .slice a zs.length cap) (hrd : Ri w .u8 a cap zs) (hnil : a = none → cap = 0) (hbd : l.length + zs.length ≤ 1000000) (hB : B ≤ w.heap.size)
    (h : ∀ v' w', w'.ownsRow B 5 1 v' (l ++ zs).length ((l ++ zs).map (Value.int .u8)) → w.grownBy w' v.ownBlock → wpList Try.prog ops Q rest (ac.put o.dst v') w') : wpList Try.prog ops Q (o :: rest) ac w := by
  obtain ⟨i0, hi, hz0, hz1, hz2⟩ := info_parts Try.info5
  cases a with
  | none =>
    have hz : zs = [] := by
      apply List.length_eq_zero_iff.1
      rcases Nat.eq_zero_or_pos zs.length with h | h
      · exact h
      · obtain ⟨_, _, h', _⟩ := hrd.cells h
        cases h'
    subst hz
    have hc := hnil rfl
    subst hc
    refine wpList_append_own_none hgd s x 44 ho B 5 i0 1 Try.underlying44 hi v l.length _ hs hown hx ?_
    have := h v w (by simpa using hown) (grown_refl _ _)
    exact this
  | some ad =>
    refine wpList_append_own w hgd s x 44 ho B 5 i0 (.int .u8 0) 1 1 Try.underlying44 hi hz0 hz1 hz2 rfl (by decide) v l.length _ hs hown ad zs.length cap (zs.map (Value.int .u8)) hx (by simp) ?_ ?_ (by unfold maxLen; omega) (by omega) hB ?_
    · intro j u hj
      have hjl : j < zs.length := by
        have := (List.getElem?_eq_some_iff.1 hj).1
        simpa using this
      obtain ⟨b, off, hb, _, hc⟩ := hrd.cells (by omega)
      injection hb with hb
      subst hb
      rw [Go.WideShapes.add_plain, hc j hjl, ← hj]
      simp [List.getD, List.getElem?_eq_getElem hjl]
    · intro u hu
      rw [List.mem_map] at hu
      obtain ⟨x, _, rfl⟩ := hu
      rfl
    · intro v' w' h1 h2 _
      refine h v' w' ?_ h2
      rw [List.length_append, List.map_append]
      exact h1

theorem app_fits {l m : List Int} {kd : IntKind} (h1 : ∀ j, (Lit.int kd (l.getD j 0)).wf = true) (h2 : ∀ j, (Lit.int kd (m.getD j 0)).wf = true) (j : Nat) : (Lit.int kd ((l ++ m).getD j 0)).wf = true := by
  rcases Nat.lt_or_ge j l.length with h | h
  · rw [List.getD_eq_getElem?_getD, List.getElem?_append_left h, ← List.getD_eq_getElem?_getD]; exact h1 j
  · rw [List.getD_eq_getElem?_getD, List.getElem?_append_right h, ← List.getD_eq_getElem?_getD]; exact h2 _

theorem own_nil {w : World} {B e n : Nat} {a : Option Addr} {m cap : Nat} {xs : List Value} (h : w.ownsRow B e 1 (.slice a m cap) n xs) : a = none → cap = 0 := by
  intro ha
  subst ha
  rcases h.2 with ⟨hv, _⟩ | ⟨g, cp, cur, hv, _⟩
  · injection hv
  · injection hv with hv; cases hv

theorem open_rin {H : Type} {enc : TypeId × Value → H} {W : World} {base : Nat} {t e : TypeId} {kd : IntKind} {v : Value} {d : DataW H} {p : List MemPlace} (ht : Try.prog.underlying t = some (.slice e)) (he : Try.prog.underlying e = some (.int kd)) (hc : Try.prog.cellsOf e = 1)
    (hv : Value.okWide Try.prog W .any base t v) (h : DataW.Trod enc Try.prog W 0 (fun _ => true) true t v d p) (hlt : ∀ x ∈ p, x.block < W.heap.size) :
    ∃ a cap zs, v = .slice a (zs : List Int).length cap ∧ Ri W kd a cap zs ∧ (a = none → cap = 0) := by
  obtain ⟨a, cap, zs, rfl, hr⟩ := open_ri ht he hc hv h hlt
  refine ⟨a, cap, zs, rfl, hr, fun ha => ?_⟩
  subst ha
  obtain ⟨fuel, hf⟩ := h
  rcases open_ints ht he hc hf with ⟨hcs, hx⟩ | ⟨a, len', cap', zs', hcs, _⟩
  · simp [Value.cells] at hcs
    exact hcs.2
  · simp [Value.cells] at hcs

def EncN (zs ys : List Int) (w : World) (e : Ending) (w' : World) : Prop :=
  ∃ a cap, e = .returned (.tuple #[.slice a (encO zs ys).1.length cap, .int .i64 (encO zs ys).2.1, .int .i64 (encO zs ys).2.2]) ∧ Ri w' .u8 a cap (encO zs ys).1 ∧ (a = none → cap = 0) ∧ Below w.heap.size w w'
theorem encs_n (a : Option Addr) (cap : Nat) (zs : List Int) (b : Option Addr) (cap2 : Nat) (ys : List Int) (w : World) (hr : Ri w .i64 a cap zs) (hr2 : Ri w .i64 b cap2 ys) (hy : ys.length ≤ 120) : Calls Try.prog 21 #[.slice a zs.length cap, .slice b ys.length cap2] w (EncN zs ys w) := by
  cases hc : checkB zs with
  | false =>
    refine (encode_no a cap zs b cap2 ys w hr hc).mono fun e w' h => ?_
    have e1 : encO zs ys = ([], 0, 51) := by unfold encO; rw [hc]; rfl
    exact ⟨none, 0, by rw [e1]; exact h.1, by rw [e1]; exact ri_nil _ _, fun _ => rfl, h.2⟩
  | true =>
    refine (encode_word a cap zs b cap2 ys w hr hr2 hc hy).mono fun e w' h => ?_
    unfold EncPost at h
    cases ha : allHas zs ys with
    | true =>
      rw [if_pos ha] at h
      obtain ⟨⟨v, he, ho⟩, hb⟩ := h
      have e1 : encO zs ys = (packN (encN zs ys ys.length) (encL zs ys ys.length), ((encL zs ys ys.length : Nat) : Int), 0) := by unfold encO; rw [hc, ha]; rfl
      have hf := encO_rng zs ys
      rw [e1] at hf
      obtain ⟨a', cap', rfl, hr'⟩ := Ri.own ho hf
      exact ⟨a', cap', by rw [he, e1], by rw [e1]; exact hr', own_nil ho, hb⟩
    | false =>
      rw [ha] at h
      have e1 : encO zs ys = ([], 0, 53) := by unfold encO; rw [hc, ha]; rfl
      exact ⟨none, 0, by rw [e1]; exact h.1, by rw [e1]; exact ri_nil _ _, fun _ => rfl, h.2⟩
/-- What Encode answers is decoded. -/
theorem enc_dec (zs ys ts : List Int) (h : (encO zs ys).2.2 = 0) : decO zs ((encO zs ys).1 ++ ts) (ys.length : Int) = (ys, (encO zs ys).2.1, 0) ∧ checkB zs = true := by
  unfold encO at *
  cases hc : checkB zs with
  | false => rw [hc] at h; exact absurd h (by simp)
  | true =>
    cases ha : allHas zs ys with
    | false => rw [hc, ha] at h; exact absurd h (by simp)
    | true => exact ⟨back_eq hc ha ts, rfl⟩
theorem enc_err (zs ys : List Int) (h : (encO zs ys).2.2 ≠ 0) : (encO zs ys).1 = [] ∧ (encO zs ys).2.1 = 0 := by
  unfold encO at *
  cases hc : checkB zs with
  | false => exact ⟨rfl, rfl⟩
  | true =>
    cases ha : allHas zs ys with
    | false => exact ⟨rfl, rfl⟩
    | true => rw [hc, ha] at h; exact absurd rfl h
theorem enc_short (zs ys : List Int) (hy : ys.length ≤ 120) : (encO zs ys).1.length ≤ 300 := by
  unfold encO
  cases hc : checkB zs with
  | false => exact Nat.zero_le _
  | true =>
    cases ha : allHas zs ys with
    | false => exact Nat.zero_le _
    | true =>
      have h := encL_le zs ys (fun j => ((len_rng hc).2 j).2) ys.length
      show (packN _ _).length ≤ 300
      rw [packN_length]; omega

set_option maxHeartbeats 1600000 in
set_option maxRecDepth 100000 in
theorem walk_rd (a : Option Addr) (cap : Nat) (zs : List Int) (a2 : Option Addr) (cap2 : Nat) (ys : List Int) (b : Option Addr) (cap3 : Nat) (ts : List Int) (w : World) (hr : Ri w .i64 a cap zs) (hr2 : Ri w .i64 a2 cap2 ys) (hr3 : Ri w .u8 b cap3 ts) (hnil : b = none → cap3 = 0) :
    Calls Try.prog 7 #[.slice a zs.length cap, .slice a2 ys.length cap2, .slice b ts.length cap3] w fun e w' => e = .returned (.bool true) ∧ Below w.heap.size w w' := by
  have C1 := hid (few_any a cap zs w hr)
  have C2 := hid (cut_any a2 cap2 ys w hr2)
  have r1 := hr.take 60
  have r2 := hr2.take 120
  have r3 := hr3.take 120
  have hl2 : (ys.take 120).length ≤ 120 := List.length_take_le _ _
  have hl3 : (ts.take 120).length ≤ 120 := List.length_take_le _ _
  have hcap := hr3.room
  have hmax := hr3.most
  unfold maxLen at hmax
  have hcells := hr3.cells
  have hcase : (120 < ts.length ∧ (ts.take 120).length = 120) ∨ (¬ 120 < ts.length ∧ (ts.take 120).length = ts.length) := by
    rw [List.length_take]; omega
  generalize zs.take 60 = z1 at *
  generalize ys.take 120 = y1 at *
  generalize ts.take 120 = t1 at *
  have E1 := hid (encs_n a cap z1 a2 cap2 y1 w r1 r2 hl2)
  have HSH := hid (enc_short z1 y1 hl2)
  have D1 : Hid (∀ W x cx, Below w.heap.size w W → Ri W .u8 x cx ((encO z1 y1).1 ++ t1) → Calls Try.prog 23 #[.slice a z1.length cap, .slice x ((encO z1 y1).1 ++ t1).length cx, .int .i64 (y1.length : Int)] W (DecPost z1 ((encO z1 y1).1 ++ t1) (y1.length : Int) W)) := fun W x cx hW hx => decode_word a cap z1 x cx _ _ W (r1.later hW) hx (by rw [List.length_append]; have := HSH.out; omega)
  have S1 : Hid (∀ W x cx, Below w.heap.size w W → Ri W .i64 x cx y1 → Calls Try.prog 12 #[.slice x y1.length cx, .slice a2 y1.length cap2] W fun e w' => e = .returned (.bool (y1 == y1)) ∧ Below W.heap.size W w') := fun W x cx hW hx => same_any x cx y1 a2 cap2 y1 W hx (r2.later hW)
  have R3 := hid r3
  have HN := hid hnil
  have ED := hid (enc_dec z1 y1 t1)
  have EE := hid (enc_err z1 y1)
  have HL3 := hid hl3
  have HEF := hid (encO_rng z1 y1)
  have HTF := hid r3.fits
  clear r1 r2 r3 hr hr2 hr3 hl2 hl3 hnil
  generalize z1.length = n1 at *
  generalize zs.length = m1 at *
  generalize ys.length = m2 at *
  have hyy : (y1 == y1) = true := by simp
  rw [hyy] at S1
  clear hyy
  rcases hcase with ⟨hlt, he⟩ | ⟨hlt, he⟩
  · obtain ⟨bb, off, rfl, hbw, hc⟩ := hcells (by omega)
    clear hcells hc hbw
    generalize ts.length = m3 at *
    have HE := hid he
    clear he
    go_enter Try.func7, Try.ntmps7
    go_wp2_with fail
    go_at_call 9
    refine C1.out.mono ?_
    rintro _ w1 ⟨rfl, hw⟩
    obtain rfl := hw.symm
    clear hw
    go_wp2_with fail
    go_at_call 20
    refine C2.out.mono ?_
    rintro _ w1 ⟨rfl, hw⟩
    obtain rfl := hw.symm
    clear hw C1 C2
    go_wp2_with fail
    go_at_call 21
    refine E1.out.mono ?_
    rintro _ w1 ⟨a1, c1, rfl, hr1, hn1, hb1⟩
    have HR1 := hid hr1
    have HN1 := hid hn1
    have HB1 := hid hb1
    have HBS := hid hb1.size
    clear hr1 hb1 hn1 E1
    by_cases herr : (encO z1 y1).2.2 = 0
    · obtain ⟨hdec, _⟩ := ED.out herr
      rw [herr]
      have HD := hid hdec
      have HO1 := hid (World.ownsRow_lit (base := w1.heap.size) (e := 5) (size := 1) w1 #[] 0 (Nat.le_refl _) (by unfold maxLen; omega) rfl)
      have HBA := hid (bel_alloc w1 (.cells #[] 5))
      have HRA := hid (HR1.out.later HBA.out)
      clear herr hdec ED EE
      go_wp2_with (first
        | (at_builtin; refine app_bytes _ rfl (.tmp 43) (.tmp 44) rfl w1.heap.size _ [] rfl HO1.out a1 c1 (encO z1 y1).1 rfl HRA.out HN1.out (by have := HSH.out; simp; omega) (by simp) ?_))
      intro v2 w2 hown2 hg2
      have hB2 : Below w1.heap.size w1 w2 := HBA.out.grown hg2 (by simp) (fun j hj => (HO1.out.lt j hj).1)
      have HO2 : Hid (w2.ownsRow w1.heap.size 5 1 v2 (encO z1 y1).1.length ((encO z1 y1).1.map (Value.int .u8))) := by
        show World.ownsRow _ _ _ _ _ _ _
        simpa using hown2
      have HBB2 := hid hB2
      have HR3 := hid ((R3.out.later HB1.out).later hB2)
      have hs2 := hB2.size
      clear hown2 hg2 hB2 HBA HRA HO1 R3 HR1 HN1
      go_wp2_with (first
        | (at_builtin; refine app_bytes _ rfl (.tmp 45) (.tmp 46) rfl w1.heap.size _ (encO z1 y1).1 rfl HO2.out _ cap3 t1 (by rw [HE.out]; rfl) HR3.out HN.out (by have := HSH.out; have := HL3.out; omega) hs2 ?_))
      intro v3 w3 hown3 hg3
      have hB3 : Below w1.heap.size w1 w3 := HBB2.out.grown hg3 hs2 (fun j hj => (HO2.out.lt j hj).1)
      have hBw : Below w.heap.size w w3 := HB1.out.trans (hB3.mono HBS.out)
      obtain ⟨a3, c3, hv3, hr3⟩ := Ri.own (zs := (encO z1 y1).1 ++ t1) (by rw [List.length_append, List.map_append]; exact hown3) (app_fits HEF.out HTF.out)
      subst hv3
      have HDC := hid (D1.out w3 a3 c3 hBw hr3)
      have HBW := hid hBw
      clear hown3 hg3 hB3 hBw hr3 HO2 HBB2 HR3 D1
      generalize ((encO z1 y1).1 ++ t1).length = n3 at *
      generalize (encO z1 y1).1 ++ t1 = bt at *
      go_wp2_with fail
      go_at_call 23
      refine HDC.out.mono ?_
      rintro _ w4 ⟨a4, c4, rfl, hr4, hb4⟩
      rw [HD.out] at hr4 ⊢
      have HS4 := hid (S1.out w4 a4 c4 (Bn HBW.out hb4) hr4)
      have HB4 := hid (Bn HBW.out hb4)
      clear hr4 hb4 HDC HBW S1
      generalize (encO z1 y1).2.1 = x at *
      have e1 : (x == x) = true := by simp
      generalize y1.length = ly at *
      go_wp2_with fail
      go_at_call 12
      refine HS4.out.mono ?_
      rintro _ w5 ⟨rfl, hb5⟩
      have HB5 := hid (Bn HB4.out hb5)
      clear hb5 HS4 HB4
      go_wp2_with fail
      go_at_call 13
      refine (alive_any _).mono ?_
      rintro _ w6 ⟨rfl, hb6⟩
      have HB6 := hid (Bn HB5.out hb6)
      clear hb6
      go_wp2
      go_ret
      exact ⟨rfl, HB6.out⟩
    · obtain ⟨h1, h2⟩ := EE.out herr
      have hne : ((encO z1 y1).2.2 == 0) = false := by simpa using herr
      rw [h1, h2]
      clear h1 h2 herr ED EE
      generalize (encO z1 y1).2.2 = f at *
      go_wp2_with fail
      go_at_call 13
      refine (alive_any _).mono ?_
      rintro _ w4 ⟨rfl, hb4⟩
      have HB4 := hid (Bn HB1.out hb4)
      clear hb4
      go_wp2
      go_ret
      exact ⟨rfl, HB4.out⟩
  · clear hcells
    generalize ts.length = m3 at *
    have HE := hid he
    clear he
    go_enter Try.func7, Try.ntmps7
    go_wp2_with fail
    go_at_call 9
    refine C1.out.mono ?_
    rintro _ w1 ⟨rfl, hw⟩
    obtain rfl := hw.symm
    clear hw
    go_wp2_with fail
    go_at_call 20
    refine C2.out.mono ?_
    rintro _ w1 ⟨rfl, hw⟩
    obtain rfl := hw.symm
    clear hw C1 C2
    go_wp2_with fail
    go_at_call 21
    refine E1.out.mono ?_
    rintro _ w1 ⟨a1, c1, rfl, hr1, hn1, hb1⟩
    have HR1 := hid hr1
    have HN1 := hid hn1
    have HB1 := hid hb1
    have HBS := hid hb1.size
    clear hr1 hb1 hn1 E1
    by_cases herr : (encO z1 y1).2.2 = 0
    · obtain ⟨hdec, _⟩ := ED.out herr
      rw [herr]
      have HD := hid hdec
      have HO1 := hid (World.ownsRow_lit (base := w1.heap.size) (e := 5) (size := 1) w1 #[] 0 (Nat.le_refl _) (by unfold maxLen; omega) rfl)
      have HBA := hid (bel_alloc w1 (.cells #[] 5))
      have HRA := hid (HR1.out.later HBA.out)
      clear herr hdec ED EE
      go_wp2_with (first
        | (at_builtin; refine app_bytes _ rfl (.tmp 43) (.tmp 44) rfl w1.heap.size _ [] rfl HO1.out a1 c1 (encO z1 y1).1 rfl HRA.out HN1.out (by have := HSH.out; simp; omega) (by simp) ?_))
      intro v2 w2 hown2 hg2
      have hB2 : Below w1.heap.size w1 w2 := HBA.out.grown hg2 (by simp) (fun j hj => (HO1.out.lt j hj).1)
      have HO2 : Hid (w2.ownsRow w1.heap.size 5 1 v2 (encO z1 y1).1.length ((encO z1 y1).1.map (Value.int .u8))) := by
        show World.ownsRow _ _ _ _ _ _ _
        simpa using hown2
      have HBB2 := hid hB2
      have HR3 := hid ((R3.out.later HB1.out).later hB2)
      have hs2 := hB2.size
      clear hown2 hg2 hB2 HBA HRA HO1 R3 HR1 HN1
      go_wp2_with (first
        | (at_builtin; refine app_bytes _ rfl (.tmp 45) (.tmp 46) rfl w1.heap.size _ (encO z1 y1).1 rfl HO2.out _ cap3 t1 (by rw [HE.out]; rfl) HR3.out HN.out (by have := HSH.out; have := HL3.out; omega) hs2 ?_))
      intro v3 w3 hown3 hg3
      have hB3 : Below w1.heap.size w1 w3 := HBB2.out.grown hg3 hs2 (fun j hj => (HO2.out.lt j hj).1)
      have hBw : Below w.heap.size w w3 := HB1.out.trans (hB3.mono HBS.out)
      obtain ⟨a3, c3, hv3, hr3⟩ := Ri.own (zs := (encO z1 y1).1 ++ t1) (by rw [List.length_append, List.map_append]; exact hown3) (app_fits HEF.out HTF.out)
      subst hv3
      have HDC := hid (D1.out w3 a3 c3 hBw hr3)
      have HBW := hid hBw
      clear hown3 hg3 hB3 hBw hr3 HO2 HBB2 HR3 D1
      generalize ((encO z1 y1).1 ++ t1).length = n3 at *
      generalize (encO z1 y1).1 ++ t1 = bt at *
      go_wp2_with fail
      go_at_call 23
      refine HDC.out.mono ?_
      rintro _ w4 ⟨a4, c4, rfl, hr4, hb4⟩
      rw [HD.out] at hr4 ⊢
      have HS4 := hid (S1.out w4 a4 c4 (Bn HBW.out hb4) hr4)
      have HB4 := hid (Bn HBW.out hb4)
      clear hr4 hb4 HDC HBW S1
      generalize (encO z1 y1).2.1 = x at *
      have e1 : (x == x) = true := by simp
      generalize y1.length = ly at *
      go_wp2_with fail
      go_at_call 12
      refine HS4.out.mono ?_
      rintro _ w5 ⟨rfl, hb5⟩
      have HB5 := hid (Bn HB4.out hb5)
      clear hb5 HS4 HB4
      go_wp2_with fail
      go_at_call 13
      refine (alive_any _).mono ?_
      rintro _ w6 ⟨rfl, hb6⟩
      have HB6 := hid (Bn HB5.out hb6)
      clear hb6
      go_wp2
      go_ret
      exact ⟨rfl, HB6.out⟩
    · obtain ⟨h1, h2⟩ := EE.out herr
      have hne : ((encO z1 y1).2.2 == 0) = false := by simpa using herr
      rw [h1, h2]
      clear h1 h2 herr ED EE
      generalize (encO z1 y1).2.2 = f at *
      go_wp2_with fail
      go_at_call 13
      refine (alive_any _).mono ?_
      rintro _ w4 ⟨rfl, hb4⟩
      have HB4 := hid (Bn HB1.out hb4)
      clear hb4
      go_wp2
      go_ret
      exact ⟨rfl, HB4.out⟩

set_option maxRecDepth 100000 in
theorem lifted (os : Os) (started : os.Started) (H : Type) (enc : TypeId × Value → H) :
    ReturnsInHanded {} Try.checked os 7 .any (Rows.huffBackSpec.pre6 enc Try.prog Try.f7 Rows.huffBackRow.domain false) (Rows.huffBackSpec.post enc Try.prog Try.f7 false true false false) := by
  refine returnsInHanded_of_change (C := Try.checked) own started (by kernel_rfl) Try.func7
    (ChangeSpec.witness6 (enc := enc) (C := Try.checked) false ⟨#[], #[.slice none 0 0, .slice none 0 0, .slice none 0 0], []⟩ 8 (by kernel_rfl) (by kernel_rfl) (by kernel_rfl) (by kernel_rfl)) ?_
  intro W base args ds gs before hval0 hW _ _
  have hval : ∀ (j : Nat) t v, Try.f7.params[j]? = some t → args[j]? = some v → Value.okWide Try.prog W .any base t v := hval0
  have hW' := hW
  obtain ⟨p, q, hA0, hV, rfl, _, _⟩ := hW
  have hA : DataW.TrodAll enc Try.prog W 0 (fun _ => true) true Try.f7.params.toList args.toList ds p := hA0
  rw [Try.params7] at hA hval
  obtain ⟨v0, vs0, d0, ds0, p0, q0, hargs, rfl, rfl, h0, r0⟩ := trodAll_cons hA
  obtain ⟨v1, vs1, d1, ds1, p1, q1, rfl, rfl, rfl, h1, r1⟩ := trodAll_cons r0
  obtain ⟨v2, vs2, d2, ds2, p2, q2, rfl, rfl, rfl, h2, r2⟩ := trodAll_cons r1
  obtain ⟨rfl, rfl, rfl⟩ := trodAll_nil r2
  obtain rfl : args = #[v0, v1, v2] := by cases args; simp_all
  obtain ⟨rfl, rfl⟩ := trodVars_none hV
  clear hA0
  simp only [List.append_nil] at hW'
  have hlt0 : ∀ x ∈ p0, x.block < W.heap.size := fun x hx => hW'.lt x (by simp [hx])
  have hk0 := h0
  obtain ⟨a0, cap0, zs0, rfl, hr0⟩ := open_ri Try.underlying22 Try.underlying3 Try.cells3 (hval 0 22 v0 rfl rfl) h0 hlt0
  have hlt1 : ∀ x ∈ p1, x.block < W.heap.size := fun x hx => hW'.lt x (by simp [hx])
  have hk1 := h1
  obtain ⟨a1, cap1, zs1, rfl, hr1⟩ := open_ri Try.underlying22 Try.underlying3 Try.cells3 (hval 1 22 v1 rfl rfl) h1 hlt1
  have hlt2 : ∀ x ∈ p2, x.block < W.heap.size := fun x hx => hW'.lt x (by simp [hx])
  have hk2 := h2
  obtain ⟨a2, cap2, zs2, rfl, hr2, hn2⟩ := open_rin Try.underlying44 Try.underlying5 Try.cells5 (hval 2 44 v2 rfl rfl) h2 hlt2
  clear hval0
  refine (walk_rd a0 cap0 zs0 a1 cap1 zs1 a2 cap2 zs2 W hr0 hr1 hr2 hn2).mono fun e W' ⟨he, hb⟩ => ?_
  subst he
  exact ⟨_, rfl, _, _, _, [] ++ [], _, [], hW', trodAll_cons_mk (shut_bool Try.underlying4 _) trodAll_mk0, (trodAll_cons_mk (Below.trod Try.laidOut (by kernel_rfl) (of_decide_eq_true (by kernel_rfl)) hk0 hb hlt0) (trodAll_cons_mk (Below.trod Try.laidOut (by kernel_rfl) (of_decide_eq_true (by kernel_rfl)) hk1 hb hlt1) (trodAll_cons_mk (Below.trod Try.laidOut (by kernel_rfl) (of_decide_eq_true (by kernel_rfl)) hk2 hb hlt2) trodAll_mk0))), rfl, hb.frame _, fun h => by cases h⟩

theorem over : Rows.huffBackRow.holds Try.pinned (OpenSpec.ofChange Rows.huffBackSpec) :=
  OpenClaim.holds_of_wide 7 Try.f7 rfl rfl rfl rfl rfl rfl rfl ⟨rfl, rfl, rfl, rfl, rfl⟩ rfl rfl rfl rfl rfl (by kernel_rfl) Try.func7 (by kernel_rfl)
    (of_decide_eq_true (by kernel_rfl)) (by unfold Func.isWrapper; first | (rw [if_pos (by decide +kernel)]; kernel_rfl) | (rw [if_neg (by decide +kernel)]; exact ⟨rfl, rfl⟩))
    (fun os started H enc _ => lifted os started H enc)

end Go.Proofs.Ytgecoiakhmnilaa.huffBack
namespace Go.Proofs.Ytgecoiakhmnilaa
theorem huffBack_holds : Rows.HuffBackSaid := huffBack.over
#print axioms huffBack_holds
end Go.Proofs.Ytgecoiakhmnilaa
