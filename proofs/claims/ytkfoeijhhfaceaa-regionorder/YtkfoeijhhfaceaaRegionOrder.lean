/-
  RegionOrder is proved for every input: extents that are given in any order make one row; no condition.
-/
import Derived.Test.YtkfoeijhhfaceaaPart14
import Derived.Laws.OwnMore
namespace Go.Proofs.Ytkfoeijhhfaceaa.regionOrder
open Go.ChangeShapes Go.WideShapes Go.ChangeAt Go.RowKit

theorem own : ownKnob Try.prog.godebug = none := by kernel_rfl

theorem rx_cells {w : World} {p : Addr} {cap : Nat} {l : List Ext} (h : Rx w (some p) cap l) : ∀ j u, (l.flatMap extC)[j]? = some u → w.cell? (p.add j) = some u := fun j u hj => by
  have hjl : j < l.length * 2 := by have := (List.getElem?_eq_some_iff.1 hj).1; rwa [extC_len] at this
  obtain ⟨b, off, hb, _, hc⟩ := h.cells (by omega)
  cases hb
  obtain ⟨i, hi⟩ : ∃ i, i = j / 2 := ⟨_, rfl⟩
  obtain ⟨c0, c1⟩ := hc i (by omega)
  obtain ⟨f0, f1⟩ := flat_get l i (by omega)
  rw [add_plain]
  rcases Nat.mod_two_eq_zero_or_one j with hm | hm
  · have e : j = i * 2 := by omega
    rw [e] at hj ⊢
    rw [f0] at hj
    rw [c0, hj]
  · have e : j = i * 2 + 1 := by omega
    rw [e] at hj ⊢
    rw [f1] at hj
    rw [← Nat.add_assoc, c1, hj]
theorem extC_all (l : List Ext) : ∀ u ∈ l.flatMap extC, u.oneCell' = true := fun u hu => by
  obtain ⟨x, _, hx⟩ := List.mem_flatMap.1 hu
  exact extC_one x u hx
/-- append of a row of extents, run. -/
theorem run_appx (w : World) (B n : Nat) (v : Value) (X : List Ext) (a : Option Addr) (cap : Nat) (l : List Ext) (ty : TypeId) (hown : w.ownsRow B 24 2 v n (X.flatMap extC)) (hr : Rx w a cap l) (hbd : n + l.length ≤ 100000) (hB : B ≤ w.heap.size) :
    ∃ v' w', (Builtin.append_ #[22, 22] ty #[v, .slice a l.length cap]).run Try.prog w = .ok v' w' ∧ w'.ownsRow B 24 2 v' (n + l.length) ((X ++ l).flatMap extC) ∧ w.grownBy w' v.ownBlock := by
  obtain ⟨i0, hi, hz0, hz1, hz2⟩ := info_parts Try.info24
  cases a with
  | none =>
    have hc := hr.none0 rfl
    have hl : l = [] := List.eq_nil_of_length_eq_zero (by have := hr.room; omega)
    subst hl hc
    exact ⟨v, w, run_append_owned_none (P := Try.prog) (w := w) B 22 ty 24 i0 2 Try.underlying22 hi v n _ hown, by simpa using hown, World.grownBy.refl _ _⟩
  | some p =>
    obtain ⟨v', w', h1, h2, h3, _⟩ := run_append_own (P := Try.prog) w B 22 ty 24 i0 _ 2 16 Try.underlying22 hi hz0 hz1 hz2 rfl (by decide) v n _ hown p l.length cap (l.flatMap extC) (extC_len l) (rx_cells hr) (extC_all l) (by unfold maxLen; omega) (by omega) hB
    exact ⟨v', w', h1, by rw [List.flatMap_append]; exact h2, h3⟩
theorem wp_appx (w : World) {o : Oper} {ac : Act} {K : Act → World → Prop} {Q : Exit → Act → World → Prop} (s x : Operand) (ho : o.op = .call { callee := .builtin .append, args := #[s, x], argTypes := #[22, 22] })
    (B n : Nat) (v : Value) (X : List Ext) (a : Option Addr) (cap : Nat) (l : List Ext) (hs : ac.eval s = v) (hx : ac.eval x = .slice a l.length cap) (hown : w.ownsRow B 24 2 v n (X.flatMap extC)) (hr : Rx w a cap l) (hbd : n + l.length ≤ 100000) (hB : B ≤ w.heap.size)
    (h : ∀ v' w', w'.ownsRow B 24 2 v' (n + l.length) ((X ++ l).flatMap extC) → w.grownBy w' v.ownBlock → K (ac.put o.dst v') w') : o.wp Try.prog ac w K Q := by
  obtain ⟨v', w', h1, h2, h3⟩ := run_appx w B n v X a cap l o.type hown hr hbd hB
  unfold Oper.wp execOp
  simp only [ho, resolve, invoke, builtin, Sem.run_bind, Sem.run_pure, Result.andThen_ok, List.map_toArray, List.map_cons, List.map_nil, hs, hx, h1]
  exact h v' w' h2 h3
theorem wpList_appx (w : World) {ops : Array Oper} {rest : List Oper} {o : Oper} {ac : Act} {Q : Exit → Act → World → Prop} (hgd : o.guard = none) (s x : Operand) (ho : o.op = .call { callee := .builtin .append, args := #[s, x], argTypes := #[22, 22] })
    (B n : Nat) (v : Value) (X : List Ext) (a : Option Addr) (cap : Nat) (l : List Ext) (hs : ac.eval s = v) (hx : ac.eval x = .slice a l.length cap) (hown : w.ownsRow B 24 2 v n (X.flatMap extC)) (hr : Rx w a cap l) (hbd : n + l.length ≤ 100000) (hB : B ≤ w.heap.size)
    (h : ∀ v' w', w'.ownsRow B 24 2 v' (n + l.length) ((X ++ l).flatMap extC) → w.grownBy w' v.ownBlock → wpList Try.prog ops Q rest (ac.put o.dst v') w') : wpList Try.prog ops Q (o :: rest) ac w :=
  wpList_plain hgd fun _ hK => wp_appx w s x ho B n v X a cap l hs hx hown hr hbd hB (fun v' w' h1 h2 => hK _ _ (h v' w' h1 h2))
theorem empty_own (w : World) : (w.alloc (.cells #[] 24)).ownsRow w.heap.size 24 2 (.slice (some ⟨w.heap.size, 0, none⟩) 0 0) 0 (([] : List Ext).flatMap extC) :=
  ⟨rfl, .inr ⟨w.heap.size, 0, #[], rfl, Nat.le_refl _, heap_new w _, Nat.le_refl _, by unfold maxLen; omega, rfl, rfl⟩⟩

/-- What is given, and what is left, of a row. -/
structure St (b : Int) (l lf rw : List Ext) : Prop where
  row : Row b rw
  sub : lf.Sublist l
  ins : ∀ k, inR rw k ↔ inR l k ∧ ¬ inR lf k
theorem sub_nrm {l m : List Ext} (h : m.Sublist l) (hl : Nrm l) : Nrm m := ⟨fun x hx => hl.pos x (h.subset hx), hl.sep.sublist h⟩
theorem st_start {b : Int} {l : List Ext} (hl : Row b l) : St b l l [] := ⟨⟨hl.lo, hl.hi, nrm_nil, upto_nil _⟩, List.Sublist.refl _, fun k => by simp [inR_nil]⟩
theorem st_end {b : Int} {l rw : List Ext} (hl : Row b l) (h : St b l [] rw) : rw = l := row_ext h.row hl (fun k => by rw [h.ins]; simp [inR_nil])
theorem take_drop_sub (l : List Ext) (k : Nat) : (l.take k ++ l.drop (k + 1)).Sublist l := by
  have h : (l.take k ++ l.drop (k + 1)).Sublist (l.take k ++ l.drop k) := by
    refine List.Sublist.append (List.Sublist.refl _) ?_
    rw [← List.drop_drop]
    exact List.drop_sublist _ _
  rwa [List.take_append_drop] at h
theorem st_step {b : Int} {l lf rw : List Ext} (hl : Row b l) (h : St b l lf rw) (k : Nat) (hk : k < lf.length) : giveO b rw (lf.getD k ex0) = (withL rw (lf.getD k ex0), 0) ∧ St b l (lf.take k ++ lf.drop (k + 1)) (withL rw (lf.getD k ex0)) ∧ Ok (lf.getD k ex0) := by
  have hn := sub_nrm h.sub hl.nrm
  have hx : lf.getD k ex0 ∈ lf := by simp only [List.getD, List.getElem?_eq_getElem hk, Option.getD_some]; exact List.getElem_mem hk
  have hdec : lf = lf.take k ++ lf.getD k ex0 :: lf.drop (k + 1) := by
    conv => lhs; rw [← List.take_append_drop (k + 1) lf, ext_take lf k hk, List.append_assoc]
    rfl
  generalize lf.getD k ex0 = x at *
  have hxl := h.sub.subset hx
  have hxp := hl.nrm.pos x hxl
  have hxu := hl.upto x hxl
  have he : 0 ≤ x.1 ∧ 1 ≤ x.2 ∧ x.1 + x.2 ≤ b := ⟨hxp.1, hxp.2, hxu⟩
  have hno : ∀ k, inE x k → ¬ inR rw k := fun k h1 h2 => ((h.ins k).1 h2).2 ⟨x, hx, h1⟩
  have hm := not_met h.row.nrm he.2.1 hno
  obtain ⟨h3, h4⟩ := with_ok h.row he (met_apart h.row.nrm he.2.1 hm).1
  have hrest : ∀ j, inR (lf.take k ++ lf.drop (k + 1)) j ↔ inR lf j ∧ ¬ inE x j := fun j => by
    have e1 : inR lf j ↔ inR (lf.take k) j ∨ inE x j ∨ inR (lf.drop (k + 1)) j := by
      conv => lhs; rw [hdec]
      rw [inR_append, inR_cons]
    rw [inR_append, e1]
    have hsep : (lf.take k ++ x :: lf.drop (k + 1)).Pairwise (fun x y => x.1 + x.2 < y.1) := by rw [← hdec]; exact hn.sep
    obtain ⟨_, s2, s3⟩ := List.pairwise_append.1 hsep
    have s4 := (List.pairwise_cons.1 s2).1
    constructor
    · rintro (⟨y, hy, h5⟩ | ⟨y, hy, h5⟩)
      · have := s3 y hy x (by simp)
        exact ⟨.inl ⟨y, hy, h5⟩, fun h6 => by have := h5.2; have := h6.1; omega⟩
      · have := s4 y hy
        exact ⟨.inr (.inr ⟨y, hy, h5⟩), fun h6 => by have := h5.1; have := h6.2; omega⟩
    · rintro ⟨h5 | h5 | h5, h6⟩
      · exact .inl h5
      · exact absurd h5 h6
      · exact .inr h5
  refine ⟨?_, ⟨h3, (take_drop_sub lf k).trans h.sub, fun j => ?_⟩, ⟨he.1, he.2.1, by have := hl.hi; omega⟩⟩
  · unfold giveO
    rw [both_zero h.row he, if_neg (show ¬ ((0 : Int) ≠ 0) from fun h => h rfl), hm, if_neg (by simp)]
  · rw [h4, h.ins, hrest]
    constructor
    · rintro (h5 | h5)
      · exact ⟨h5.1, fun h6 => h5.2 h6.1⟩
      · exact ⟨⟨x, hxl, h5⟩, fun h6 => h6.2 h5⟩
    · rintro ⟨h5, h6⟩
      by_cases h7 : inE x j
      · exact .inr h7
      · exact .inl ⟨h5, fun h8 => h6 ⟨h8, h7⟩⟩
theorem rest_len (lf : List Ext) (k : Nat) (hk : k < lf.length) : (lf.take k ++ lf.drop (k + 1)).length = lf.length - 1 := by
  rw [List.length_append, List.length_take, List.length_drop]; omega
def lenV : Value → Nat
  | .slice _ n _ => n
  | _ => 0

set_option maxHeartbeats 6400000 in
set_option maxRecDepth 100000 in
theorem walk_early (b : Int) (a : Option Addr) (cap : Nat) (l0 : List Ext) (pl : Value) (w : World) (hr : Rx w a cap l0) (hor : 60 < (l0.take 5000).length ∨ chkO b (l0.take 5000) ≠ 0) :
    Calls Try.prog 7 #[.int .i64 b, .slice a l0.length cap, pl] w fun e w' => e = .returned (.bool true) ∧ Below w.heap.size w w' := by
  have HC1 : Hid (∀ W, Below w.heap.size w W → Calls Try.prog 9 #[.slice a l0.length cap] W fun e w' => e = .returned (.slice a (l0.take 5000).length cap) ∧ w' = W) := fun W hW => few_any a cap l0 W (hr.later hW)
  have hr1 := hr.take 5000
  generalize l0.take 5000 = l at *
  have HR := hid hr1
  generalize l0.length = L0 at *
  have HCR : Hid (∀ W, Below w.heap.size w W → Calls Try.prog 15 #[.int .i64 b, .slice a l.length cap] W fun e w' => e = .returned (.int .i64 (chkO b l)) ∧ Below W.heap.size W w') := fun W hW => rcheck_any b a cap l W (HR.out.later hW)
  clear hr hr1 HR
  by_cases h60 : 60 < l.length
  · have hz : (60 : Int) < (l.length : Int) := by omega
    generalize l.length = L at *
    clear hor HCR
    go_enter Try.func7, Try.ntmps7
    go_wp2_with fail
    refine (awake_any _).mono ?_
    rintro _ wA ⟨rfl, hbA⟩
    have HBA := hid hbA
    have HD1 := hid (HC1.out wA hbA)
    clear hbA HC1
    go_wp2_with fail
    refine HD1.out.mono ?_
    rintro _ w0 ⟨rfl, hw⟩
    obtain rfl := hw.symm
    clear hw HD1
    go_wp2
    go_ret
    exact ⟨rfl, HBA.out⟩
  · have hz : ¬ (60 : Int) < (l.length : Int) := by omega
    have h0 := hor.resolve_left h60
    generalize chkO b l = c at *
    have hd : decide (c = 0) = false := decide_eq_false h0
    have hd2 : (c != 0) = true := by simp [h0]
    generalize l.length = L at *
    have hd3 : decide ((60 : Int) < (L : Int)) = false := decide_eq_false hz
    clear hor h60
    go_enter Try.func7, Try.ntmps7
    go_wp2_with fail
    refine (awake_any _).mono ?_
    rintro _ wA ⟨rfl, hbA⟩
    have HBA := hid hbA
    have HD1 := hid (HC1.out wA hbA)
    have HC2 := hid (HCR.out wA hbA)
    clear hbA HC1 HCR
    go_wp2_with fail
    refine HD1.out.mono ?_
    rintro _ w0 ⟨rfl, hw⟩
    obtain rfl := hw.symm
    clear hw HD1
    go_wp2_with fail
    refine HC2.out.mono ?_
    rintro _ w1 ⟨rfl, hb1⟩
    have HB1 := hid (Bn HBA.out hb1)
    clear hb1 HC2 HBA
    go_wp2
    go_ret
    exact ⟨rfl, HB1.out⟩

set_option maxHeartbeats 6400000 in
set_option maxRecDepth 100000 in
theorem walk_main (b : Int) (a : Option Addr) (cap : Nat) (l0 : List Ext) (ap : Option Addr) (cp : Nat) (ps : List Int) (w : World) (hr : Rx w a cap l0) (hp : Ri w .u8 ap cp ps) (h60 : (l0.take 5000).length ≤ 60) (hc : chkO b (l0.take 5000) = 0) :
    Calls Try.prog 7 #[.int .i64 b, .slice a l0.length cap, .slice ap ps.length cp] w fun e w' => e = .returned (.bool true) ∧ Below w.heap.size w w' := by
  have HC1 : Hid (∀ W, Below w.heap.size w W → Calls Try.prog 9 #[.slice a l0.length cap] W fun e w' => e = .returned (.slice a (l0.take 5000).length cap) ∧ w' = W) := fun W hW => few_any a cap l0 W (hr.later hW)
  have hr1 := hr.take 5000
  generalize l0.take 5000 = l at *
  have HR := hid hr1
  generalize l0.length = L0 at *
  have hrow := chk_row hc
  have HRW := hid hrow
  have HCR : Hid (∀ W, Below w.heap.size w W → Calls Try.prog 15 #[.int .i64 b, .slice a l.length cap] W fun e w' => e = .returned (.int .i64 0) ∧ Below W.heap.size W w') := fun W hW => by
    have := rcheck_any b a cap l W (HR.out.later hW)
    rwa [hc] at this
  have HP := hid hp
  have hz : ¬ (60 : Int) < (l.length : Int) := by omega
  have hproom := hp.room
  have hpmost := hp.most
  unfold maxLen at hpmost
  obtain ⟨pn, hpn⟩ : ∃ n, n = ps.length := ⟨_, rfl⟩
  have HPN := hid hpn
  rw [← hpn] at hproom ⊢
  obtain ⟨L, hL⟩ : ∃ n, n = l.length := ⟨_, rfl⟩
  have HL := hid hL
  have H60 := hid h60
  rw [← hL] at HC1 HCR hz
  clear hr hr1 hc hrow hp hpn hL h60
  go_enter Try.func7, Try.ntmps7
  go_wp2_with fail
  refine (awake_any _).mono ?_
  rintro _ wA ⟨rfl, hbA⟩
  have HBA := hid hbA
  have HD1 := hid (HC1.out wA hbA)
  have HC2 := hid (HCR.out wA hbA)
  clear hbA HC1 HCR
  go_wp2_with fail
  refine HD1.out.mono ?_
  rintro _ w0 ⟨rfl, hw⟩
  obtain rfl := hw.symm
  clear hw HD1
  go_wp2_with fail
  refine HC2.out.mono ?_
  rintro _ w1 ⟨rfl, hb1⟩
  have HB1 := hid (Bn HBA.out hb1)
  have HE := hid (empty_own w1)
  have hA := bel_alloc w1 (.cells #[] 24)
  have HR1 := hid (HR.out.later (Bn HB1.out hA))
  have HA := hid hA
  clear hb1 HC2 HBA hA
  go_wp2_with (at_builtin; refine wpList_appx _ rfl _ _ rfl w1.heap.size 0 _ [] a cap l rfl (by rw [← HL.out]; rfl) HE.out HR1.out (by have := H60.out; omega) (by simp) ?_)
  intro v2 w2 hown2 hg2
  have HB2 : Hid (Below w.heap.size w w2) := HB1.out.trans ((HA.out.grown hg2 (by simp) (fun k hk => (own_block HE.out k hk).1)).mono HB1.out.size)
  obtain ⟨a2, c2, rfl, hx2⟩ := Rx.own (l := l) (by simpa using hown2) HR.out.fit
  have HX2 := hid hx2
  clear hown2 hg2 hx2 HE HA HR1 HB1
  go_wp2
  go_loopw [7, 8, 9] (fun x7 x8 x9 wr => ∃ (i : Nat) (lf rw : List Ext) (al ar : Option Addr) (cl cr : Nat), i + lf.length = l.length ∧ x7 = .slice al lf.length cl ∧ x8 = .slice ar rw.length cr ∧ x9 = .int .i64 (i : Int) ∧ Hid (Rx wr al cl lf) ∧ Hid (Rx wr ar cr rw) ∧ Hid (St b l lf rw) ∧ Hid (Below w.heap.size w wr)) (fun x7 _ _ _ => lenV x7)
  case atStart => exact ⟨0, l, [], a2, none, c2, 0, by omega, rfl, rfl, rfl, HX2.out, rx_nil w2, st_start HRW.out, HB2.out⟩
  case round =>
    clear HX2 HB2
    obtain ⟨i, lf, rw, al, ar, cl, cr, hi, rfl, rfl, rfl, HXL, HXR, HST, HBr⟩ := hrel
    have hiz : (i : Int) ≤ 60 := by have := H60.out; omega
    by_cases hlf : 0 < lf.length
    · have hlz : (0 : Int) < (lf.length : Int) := by omega
      have hl60 : (lf.length : Int) ≤ 60 := by have := H60.out; omega
      by_cases hip : i < pn
      · have hipz : (i : Int) < (pn : Int) := by omega
        have hi0 : (0 : Int) ≤ (i : Int) := by omega
        obtain ⟨gp, offp, hap, hgpw, hcp⟩ := HP.out.cells (by rw [← HPN.out]; omega)
        subst hap
        have cp0 := (HBr.out.cell (p := ⟨gp, offp + i, none⟩) hgpw).trans (hcp i (by rw [← HPN.out]; exact hip))
        obtain ⟨z0, z1⟩ := wf_u8 (HP.out.fits i)
        obtain ⟨z, hz'⟩ : ∃ z : Nat, ps.getD i 0 = (z : Int) := ⟨(ps.getD i 0).toNat, by omega⟩
        rw [hz'] at cp0 z0 z1
        obtain ⟨k, hk⟩ : ∃ k, k = z % lf.length := ⟨_, rfl⟩
        have hkl : k < lf.length := by rw [hk]; exact Nat.mod_lt _ hlf
        have HKZ : Hid ((z : Int).tmod (lf.length : Int) = (k : Int)) := by show _ = _; rw [hk, Int.tmod_eq_emod_of_nonneg (by omega)]; rfl
        have hkz1 := HKZ.out
        have hnz : ¬ (lf.length : Int) = 0 := by omega
        clear hcp hz' hk
        obtain ⟨hgo, hst2, hok⟩ := st_step HRW.out HST.out k hkl
        have HST2 := hid hst2
        obtain ⟨g, off, hal, hgw, hcc⟩ := HXL.out.cells (by omega)
        obtain ⟨c0, c1⟩ := hcc k hkl
        obtain ⟨⟨x0, x1⟩, hx⟩ : ∃ x, x = lf.getD k ex0 := ⟨_, rfl⟩
        rw [← hx] at hgo HST2 hok c0 c1
        dsimp only at c0 c1
        have HGV : Hid (Calls Try.prog 26 #[.int .i64 b, .slice ar rw.length cr, .agg #[.int .i64 x0, .int .i64 x1]] wr (RwPost (withL rw (x0, x1), 0) wr)) := by
          have := give_word b ar cr rw x0 x1 wr HXR.out (wf_mk_i64 (by have := hok.1; dsimp only at this; omega) (by have := hok.2.1; have := hok.2.2; dsimp only at *; omega))
          rwa [hgo] at this
        unfold RwPost at HGV
        have HFW := hid (row_fit HST2.out.row)
        have hrl := HXL.out.room
        subst hal
        have HTD : Hid (∀ V, Below wr.heap.size wr V → Rx V (some ⟨g, off, none⟩) cl (lf.take k) ∧ Rx V (if cl = k + 1 then some ⟨g, off, none⟩ else (some ⟨g, off, none⟩ : Option Addr).map fun x => x.add ((k + 1) * 2)) (cl - (k + 1)) (lf.drop (k + 1))) := fun V hV => ⟨(HXL.out.later hV).take k, ((HXL.out.later hV).drop (by omega)).1⟩
        obtain ⟨a3, ha3⟩ : ∃ a3, a3 = (if cl = k + 1 then some ⟨g, off, none⟩ else (some ⟨g, off, none⟩ : Option Addr).map fun x => x.add ((k + 1) * 2)) := ⟨_, rfl⟩
        rw [← ha3] at HTD
        have HA3 := hid ha3
        have HTL : Hid ((lf.take k).length = k) := by show _ = _; rw [List.length_take]; omega
        have HDL : Hid ((lf.drop (k + 1)).length = lf.length - (k + 1)) := by show _ = _; rw [List.length_drop]
        have HRL := hid (rest_len lf k hkl)
        have HFL : Hid (Fit (lf.take k ++ lf.drop (k + 1))) := fun x hx => HXL.out.fit x ((take_drop_sub lf k).subset hx)
        clear hcc hgo hst2 hok hx ha3
        obtain ⟨ln, hln⟩ : ∃ n, n = lf.length := ⟨_, rfl⟩
        have HLN := hid hln
        rw [← hln] at hlf hlz hl60 hkl HKZ hkz1 hnz hi hrl HDL HRL ⊢
        clear hln
        have hkz : (k : Int) < (ln : Int) := by omega
        have hk0 : (0 : Int) ≤ (k : Int) := by omega
        generalize rw.length = rl at *
        go_wp2_with fail
        refine HGV.out.mono ?_
        rintro _ w3 ⟨v3, rfl, hown3, hb3⟩
        obtain ⟨ar3, cr3, rfl, hx3⟩ := Rx.own hown3 HFW.out
        have HX3 := hid hx3
        have HB3 := hid hb3
        clear hown3 hb3 hx3 HGV
        go_wp2_with fail
        obtain ⟨n3, hn3⟩ : ∃ n3, n3 = ln - (k + 1) := ⟨_, rfl⟩
        have HN3 := hid hn3
        have HK1 : Hid (IntKind.i64.wrap ((k : Int) + 1) = ((k + 1 : Nat) : Int)) := by show _ = _; rw [IntWalk.i64_in _ ⟨by omega, by omega⟩]; omega
        clear hn3
        refine wp_region_held_drew (S := fun _ => True) (by kernel_rfl) trivial (fun hS0 => ?_)
        obtain ⟨V, hV⟩ : ∃ V, V = w3.drew := ⟨_, rfl⟩
        have HBV : Hid (Below w3.heap.size w3 V) := by rw [hV]; exact (Below.refl _ w3).drew
        rw [← hV]
        clear hV
        have HE := hid (empty_own V)
        have HAE := hid (bel_alloc V (.cells #[] 24))
        obtain ⟨ht1, ht2⟩ := HTD.out (V.alloc (.cells #[] 24)) (Bn (Bn HB3.out HBV.out) HAE.out)
        have HT1 := hid ht1
        have HT2 := hid ht2
        clear ht1 ht2
        refine Ord.take (i := 1) (d := 60) (v := ?vA1) rfl rfl (by as_aux_lemma => kernel_rfl) (by as_aux_lemma => kernel_rfl) (by as_aux_lemma => kernel_rfl) (fun _ _ _ h => h) (by rfl) ?hA1 (by assumption) ?_
        case hA1 => intro w hSw; go_simp; try with_reducible rfl
        simp only [List.setIfInBounds_toArray, List.set_cons_zero, List.set_cons_succ]
        refine Ord.take (i := 2) (d := 61) (v := ?vA2) rfl rfl (by as_aux_lemma => kernel_rfl) (by as_aux_lemma => kernel_rfl) (by as_aux_lemma => kernel_rfl) (fun _ _ _ h => h) (by rfl) ?hA2 (by assumption) ?_
        case hA2 => intro w hSw; go_simp; try with_reducible rfl
        simp only [List.setIfInBounds_toArray, List.set_cons_zero, List.set_cons_succ]
        refine Ord.take (i := 3) (d := 62) (v := .slice (some ⟨g, off, none⟩) k cl) rfl rfl (by as_aux_lemma => kernel_rfl) (by as_aux_lemma => kernel_rfl) (by as_aux_lemma => kernel_rfl) (fun _ _ _ h => h) (by rfl) ?hA3 (by assumption) ?_
        case hA3 => intro w hSw; go_simp; intro h; omega
        simp only [List.setIfInBounds_toArray, List.set_cons_zero, List.set_cons_succ]
        refine Ord.take (i := 5) (d := 64) (v := ?vA5) rfl rfl (by as_aux_lemma => kernel_rfl) (by as_aux_lemma => kernel_rfl) (by as_aux_lemma => kernel_rfl) (fun _ _ _ h => h) (by rfl) ?hA5 (by assumption) ?_
        case hA5 => intro w hSw; go_simp; try with_reducible rfl
        simp only [List.setIfInBounds_toArray, List.set_cons_zero, List.set_cons_succ]
        refine Ord.take (i := 6) (d := 65) (v := ?vA6) rfl rfl (by as_aux_lemma => kernel_rfl) (by as_aux_lemma => kernel_rfl) (by as_aux_lemma => kernel_rfl) (fun _ _ _ h => h) (by rfl) ?hA6 (by assumption) ?_
        case hA6 => intro w hSw; go_simp; try with_reducible rfl
        simp only [List.setIfInBounds_toArray, List.set_cons_zero, List.set_cons_succ]
        refine Ord.take (i := 7) (d := 66) (v := .int .i64 ((k + 1 : Nat) : Int)) rfl rfl (by as_aux_lemma => kernel_rfl) (by as_aux_lemma => kernel_rfl) (by as_aux_lemma => kernel_rfl) (fun _ _ _ h => h) (by rfl) ?hA7 (by assumption) ?_
        case hA7 => intro w hSw; go_simp; exact HK1.out
        simp only [List.setIfInBounds_toArray, List.set_cons_zero, List.set_cons_succ]
        refine Ord.take (i := 8) (d := 67) (v := .slice a3 n3 (cl - (k + 1))) rfl rfl (by as_aux_lemma => kernel_rfl) (by as_aux_lemma => kernel_rfl) (by as_aux_lemma => kernel_rfl) (fun _ _ _ h => h) (by rfl) ?hA8 (by assumption) ?_
        case hA8 => intro w hSw; rw [HA3.out, HN3.out]; go_simp; intro h; exact absurd (h (by omega)) (by omega)
        simp only [List.setIfInBounds_toArray, List.set_cons_zero, List.set_cons_succ]
        refine wpAnyH_ready (rs := [0]) (by as_aux_lemma => kernel_rfl) (by simp) (AllReadyH.cons rfl (fun K hK => ?_) AllReadyH.nil)
        go_simp
        refine hK.out _ _ trivial (fun _ => ?_)
        clear hK K
        try simp only [List.setIfInBounds_toArray, List.set_cons_zero, List.set_cons_succ]
        refine wpAnyH_ready (rs := [4]) (by as_aux_lemma => kernel_rfl) (by simp) (AllReadyH.cons rfl (fun K hK => ?_) AllReadyH.nil)
        refine wp_appx _ (.tmp 59) (.tmp 62) rfl V.heap.size 0 _ [] (some ⟨g, off, none⟩) cl (lf.take k) rfl (by rw [HTL.out]; rfl) HE.out HT1.out (by rw [HTL.out]; omega) (by simp) ?_
        intro v4 w4 hown4 hg4
        have HB4 : Hid (Below V.heap.size V w4) := HAE.out.grown hg4 (by simp) (fun k hk => (own_block HE.out k hk).1)
        have HT24 := hid ((HTD.out w4 (Bn (Bn HB3.out HBV.out) HB4.out)).2)
        refine hK.out _ _ trivial (fun _ => ?_)
        clear hK K hg4
        refine Ord.put (d := 63) rfl ?_
        try simp only [List.setIfInBounds_toArray, List.set_cons_zero, List.set_cons_succ]
        refine wpAnyH_ready (rs := [9]) (by as_aux_lemma => kernel_rfl) (by simp) (AllReadyH.cons rfl (fun K hK => ?_) AllReadyH.nil)
        refine wp_appx _ (.tmp 63) (.tmp 67) rfl V.heap.size (0 + (lf.take k).length) v4 ([] ++ lf.take k) a3 (cl - (k + 1)) (lf.drop (k + 1)) rfl (by rw [HDL.out, ← HN3.out]; rfl) hown4 HT24.out (by rw [HTL.out, HDL.out]; omega) HB4.out.size ?_
        intro v5 w5 hown5 hg5
        have HB5 : Hid (Below V.heap.size V w5) := HB4.out.grown hg5 HB4.out.size (fun k hk => (own_block hown4 k hk).1)
        refine hK.out _ _ trivial (fun _ => ?_)
        clear hK K hg5
        refine Ord.put (d := 68) rfl ?_
        try simp only [List.setIfInBounds_toArray, List.set_cons_zero, List.set_cons_succ]
        refine Ord.take (i := 10) (d := 7) (v := ?vA10) rfl rfl (by as_aux_lemma => kernel_rfl) (by as_aux_lemma => kernel_rfl) (by as_aux_lemma => kernel_rfl) (fun _ _ _ h => h) (by rfl) ?hA10 (by assumption) ?_
        case hA10 => intro w hSw; go_simp; try with_reducible rfl
        simp only [List.setIfInBounds_toArray, List.set_cons_zero, List.set_cons_succ]
        refine wpAnyH_done (by as_aux_lemma => kernel_rfl) ?_ _
        have HBE : Hid (Below w.heap.size w w5) := Bn HBr.out (Bn (Bn HB3.out HBV.out) HB5.out)
        have HXE := hid (HX3.out.later (Bn HBV.out HB5.out))
        obtain ⟨a5, c5, rfl, hx5⟩ := Rx.own (l := lf.take k ++ lf.drop (k + 1)) (by rw [List.length_append]; simpa using hown5) HFL.out
        have HX5 := hid hx5
        clear hown5 hx5
        rw [HRL.out]
        go_wp2
        refine ⟨⟨i + 1, lf.take k ++ lf.drop (k + 1), withL rw (x0, x1), a5, ar3, c5, cr3, by rw [HRL.out]; omega, by rw [HRL.out], rfl, by go_num, HX5.out, HXE.out, HST2.out, HBE.out⟩, by simp only [lenV]; omega⟩
      · have hipz : ¬ (i : Int) < (pn : Int) := by omega
        have hkl : 0 < lf.length := by omega
        obtain ⟨hgo, hst2, hok⟩ := st_step HRW.out HST.out 0 hkl
        have HST2 := hid hst2
        obtain ⟨g, off, hal, hgw, hcc⟩ := HXL.out.cells (by omega)
        obtain ⟨c0, c1⟩ := hcc 0 hkl
        obtain ⟨⟨x0, x1⟩, hx⟩ : ∃ x, x = lf.getD 0 ex0 := ⟨_, rfl⟩
        rw [← hx] at hgo HST2 hok c0 c1
        dsimp only at c0 c1
        rw [Nat.zero_mul, Nat.add_zero] at c0 c1
        have HGV : Hid (Calls Try.prog 26 #[.int .i64 b, .slice ar rw.length cr, .agg #[.int .i64 x0, .int .i64 x1]] wr (RwPost (withL rw (x0, x1), 0) wr)) := by
          have := give_word b ar cr rw x0 x1 wr HXR.out (wf_mk_i64 (by have := hok.1; dsimp only at this; omega) (by have := hok.2.1; have := hok.2.2; dsimp only at *; omega))
          rwa [hgo] at this
        unfold RwPost at HGV
        have HFW := hid (row_fit HST2.out.row)
        have hrl := HXL.out.room
        subst hal
        have HTD : Hid (∀ V, Below wr.heap.size wr V → Rx V (some ⟨g, off, none⟩) cl (lf.take 0) ∧ Rx V (if cl = 1 then some ⟨g, off, none⟩ else (some ⟨g, off, none⟩ : Option Addr).map fun x => x.add (2)) (cl - 1) (lf.drop 1)) := fun V hV => ⟨(HXL.out.later hV).take 0, ((HXL.out.later hV).drop (by omega)).1⟩
        obtain ⟨a3, ha3⟩ : ∃ a3, a3 = (if cl = 1 then some ⟨g, off, none⟩ else (some ⟨g, off, none⟩ : Option Addr).map fun x => x.add (2)) := ⟨_, rfl⟩
        rw [← ha3] at HTD
        have HA3 := hid ha3
        have HTL : Hid ((lf.take 0).length = 0) := by show _ = _; simp
        have HDL : Hid ((lf.drop 1).length = lf.length - 1) := by show _ = _; rw [List.length_drop]
        have HRL := hid (rest_len lf 0 hkl)
        have HFL : Hid (Fit (lf.take 0 ++ lf.drop 1)) := fun x hx => HXL.out.fit x ((take_drop_sub lf 0).subset hx)
        clear hcc hgo hst2 hok hx ha3
        obtain ⟨ln, hln⟩ : ∃ n, n = lf.length := ⟨_, rfl⟩
        have HLN := hid hln
        rw [← hln] at hlf hlz hl60 hkl  hi hrl HDL HRL ⊢
        clear hln
        have hln1 : (1 : Int) ≤ (ln : Int) := by omega
        generalize rw.length = rl at *
        go_wp2_with fail
        refine HGV.out.mono ?_
        rintro _ w3 ⟨v3, rfl, hown3, hb3⟩
        obtain ⟨ar3, cr3, rfl, hx3⟩ := Rx.own hown3 HFW.out
        have HX3 := hid hx3
        have HB3 := hid hb3
        clear hown3 hb3 hx3 HGV
        go_wp2_with fail
        obtain ⟨n3, hn3⟩ : ∃ n3, n3 = ln - 1 := ⟨_, rfl⟩
        have HN3 := hid hn3
        clear hn3
        refine wp_region_held_drew (S := fun _ => True) (by kernel_rfl) trivial (fun hS0 => ?_)
        obtain ⟨V, hV⟩ : ∃ V, V = w3.drew := ⟨_, rfl⟩
        have HBV : Hid (Below w3.heap.size w3 V) := by rw [hV]; exact (Below.refl _ w3).drew
        rw [← hV]
        clear hV
        have HE := hid (empty_own V)
        have HAE := hid (bel_alloc V (.cells #[] 24))
        obtain ⟨ht1, ht2⟩ := HTD.out (V.alloc (.cells #[] 24)) (Bn (Bn HB3.out HBV.out) HAE.out)
        have HT1 := hid ht1
        have HT2 := hid ht2
        clear ht1 ht2
        refine Ord.take (i := 1) (d := 60) (v := ?vB1) rfl rfl (by as_aux_lemma => kernel_rfl) (by as_aux_lemma => kernel_rfl) (by as_aux_lemma => kernel_rfl) (fun _ _ _ h => h) (by rfl) ?hB1 (by assumption) ?_
        case hB1 => intro w hSw; go_simp; try with_reducible rfl
        simp only [List.setIfInBounds_toArray, List.set_cons_zero, List.set_cons_succ]
        refine Ord.take (i := 2) (d := 61) (v := ?vB2) rfl rfl (by as_aux_lemma => kernel_rfl) (by as_aux_lemma => kernel_rfl) (by as_aux_lemma => kernel_rfl) (fun _ _ _ h => h) (by rfl) ?hB2 (by assumption) ?_
        case hB2 => intro w hSw; go_simp; try with_reducible rfl
        simp only [List.setIfInBounds_toArray, List.set_cons_zero, List.set_cons_succ]
        refine Ord.take (i := 3) (d := 62) (v := .slice (some ⟨g, off, none⟩) 0 cl) rfl rfl (by as_aux_lemma => kernel_rfl) (by as_aux_lemma => kernel_rfl) (by as_aux_lemma => kernel_rfl) (fun _ _ _ h => h) (by rfl) ?hB3 (by assumption) ?_
        case hB3 => intro w hSw; go_simp; try with_reducible rfl
        simp only [List.setIfInBounds_toArray, List.set_cons_zero, List.set_cons_succ]
        refine Ord.take (i := 5) (d := 64) (v := ?vB5) rfl rfl (by as_aux_lemma => kernel_rfl) (by as_aux_lemma => kernel_rfl) (by as_aux_lemma => kernel_rfl) (fun _ _ _ h => h) (by rfl) ?hB5 (by assumption) ?_
        case hB5 => intro w hSw; go_simp; try with_reducible rfl
        simp only [List.setIfInBounds_toArray, List.set_cons_zero, List.set_cons_succ]
        refine Ord.take (i := 6) (d := 65) (v := ?vB6) rfl rfl (by as_aux_lemma => kernel_rfl) (by as_aux_lemma => kernel_rfl) (by as_aux_lemma => kernel_rfl) (fun _ _ _ h => h) (by rfl) ?hB6 (by assumption) ?_
        case hB6 => intro w hSw; go_simp; try with_reducible rfl
        simp only [List.setIfInBounds_toArray, List.set_cons_zero, List.set_cons_succ]
        refine Ord.take (i := 7) (d := 66) (v := .int .i64 1) rfl rfl (by as_aux_lemma => kernel_rfl) (by as_aux_lemma => kernel_rfl) (by as_aux_lemma => kernel_rfl) (fun _ _ _ h => h) (by rfl) ?hB7 (by assumption) ?_
        case hB7 => intro w hSw; go_simp; rfl
        simp only [List.setIfInBounds_toArray, List.set_cons_zero, List.set_cons_succ]
        refine Ord.take (i := 8) (d := 67) (v := .slice a3 n3 (cl - 1)) rfl rfl (by as_aux_lemma => kernel_rfl) (by as_aux_lemma => kernel_rfl) (by as_aux_lemma => kernel_rfl) (fun _ _ _ h => h) (by rfl) ?hB8 (by assumption) ?_
        case hB8 => intro w hSw; rw [HA3.out, HN3.out]; go_simp; try with_reducible rfl
        simp only [List.setIfInBounds_toArray, List.set_cons_zero, List.set_cons_succ]
        refine wpAnyH_ready (rs := [0]) (by as_aux_lemma => kernel_rfl) (by simp) (AllReadyH.cons rfl (fun K hK => ?_) AllReadyH.nil)
        go_simp
        refine hK.out _ _ trivial (fun _ => ?_)
        clear hK K
        try simp only [List.setIfInBounds_toArray, List.set_cons_zero, List.set_cons_succ]
        refine wpAnyH_ready (rs := [4]) (by as_aux_lemma => kernel_rfl) (by simp) (AllReadyH.cons rfl (fun K hK => ?_) AllReadyH.nil)
        refine wp_appx _ (.tmp 59) (.tmp 62) rfl V.heap.size 0 _ [] (some ⟨g, off, none⟩) cl (lf.take 0) rfl (by rw [HTL.out]; rfl) HE.out HT1.out (by rw [HTL.out]; omega) (by simp) ?_
        intro v4 w4 hown4 hg4
        have HB4 : Hid (Below V.heap.size V w4) := HAE.out.grown hg4 (by simp) (fun k hk => (own_block HE.out k hk).1)
        have HT24 := hid ((HTD.out w4 (Bn (Bn HB3.out HBV.out) HB4.out)).2)
        refine hK.out _ _ trivial (fun _ => ?_)
        clear hK K hg4
        refine Ord.put (d := 63) rfl ?_
        try simp only [List.setIfInBounds_toArray, List.set_cons_zero, List.set_cons_succ]
        refine wpAnyH_ready (rs := [9]) (by as_aux_lemma => kernel_rfl) (by simp) (AllReadyH.cons rfl (fun K hK => ?_) AllReadyH.nil)
        refine wp_appx _ (.tmp 63) (.tmp 67) rfl V.heap.size (0 + (lf.take 0).length) v4 ([] ++ lf.take 0) a3 (cl - 1) (lf.drop 1) rfl (by rw [HDL.out, ← HN3.out]; rfl) hown4 HT24.out (by rw [HTL.out, HDL.out]; omega) HB4.out.size ?_
        intro v5 w5 hown5 hg5
        have HB5 : Hid (Below V.heap.size V w5) := HB4.out.grown hg5 HB4.out.size (fun k hk => (own_block hown4 k hk).1)
        refine hK.out _ _ trivial (fun _ => ?_)
        clear hK K hg5
        refine Ord.put (d := 68) rfl ?_
        try simp only [List.setIfInBounds_toArray, List.set_cons_zero, List.set_cons_succ]
        refine Ord.take (i := 10) (d := 7) (v := ?vB10) rfl rfl (by as_aux_lemma => kernel_rfl) (by as_aux_lemma => kernel_rfl) (by as_aux_lemma => kernel_rfl) (fun _ _ _ h => h) (by rfl) ?hB10 (by assumption) ?_
        case hB10 => intro w hSw; go_simp; try with_reducible rfl
        simp only [List.setIfInBounds_toArray, List.set_cons_zero, List.set_cons_succ]
        refine wpAnyH_done (by as_aux_lemma => kernel_rfl) ?_ _
        have HBE : Hid (Below w.heap.size w w5) := Bn HBr.out (Bn (Bn HB3.out HBV.out) HB5.out)
        have HXE := hid (HX3.out.later (Bn HBV.out HB5.out))
        obtain ⟨a5, c5, rfl, hx5⟩ := Rx.own (l := lf.take 0 ++ lf.drop 1) (by rw [List.length_append]; simpa using hown5) HFL.out
        have HX5 := hid hx5
        clear hown5 hx5
        rw [HRL.out]
        go_wp2
        refine ⟨⟨i + 1, lf.take 0 ++ lf.drop 1, withL rw (x0, x1), a5, ar3, c5, cr3, by rw [HRL.out]; omega, by rw [HRL.out], rfl, by go_num, HX5.out, HXE.out, HST2.out, HBE.out⟩, by simp only [lenV]; omega⟩
    · have hl0 : lf = [] := List.eq_nil_of_length_eq_zero (by omega)
      subst hl0
      have hlz : ¬ (0 : Int) < (([] : List Ext).length : Int) := by simp
      have hrw := st_end HRW.out HST.out
      subst hrw
      have HSA := hid (same_eq ar cr rw a cap wr HXR.out (HR.out.later HBr.out))
      rw [← HL.out] at HSA ⊢
      clear hi
      go_wp2_with fail
      refine HSA.out.mono ?_
      rintro _ w3 ⟨rfl, hb3⟩
      have HB3 := hid (Bn HBr.out hb3)
      clear hb3 HSA
      go_wp2
      go_ret
      exact ⟨rfl, HB3.out⟩
theorem walk (b : Int) (_ : (Lit.int .i64 b).wf = true) (a : Option Addr) (cap : Nat) (l0 : List Ext) (ap : Option Addr) (cp : Nat) (ps : List Int) (w : World) (hr : Rx w a cap l0) (hp : Ri w .u8 ap cp ps) :
    Calls Try.prog 7 #[.int .i64 b, .slice a l0.length cap, .slice ap ps.length cp] w fun e w' => e = .returned (.bool true) ∧ Below w.heap.size w w' := by
  by_cases h60 : 60 < (l0.take 5000).length
  · exact walk_early b a cap l0 _ w hr (.inl h60)
  · by_cases hc : chkO b (l0.take 5000) = 0
    · exact walk_main b a cap l0 ap cp ps w hr hp (by omega) hc
    · exact walk_early b a cap l0 _ w hr (.inr hc)

set_option maxRecDepth 100000 in
theorem lifted (os : Os) (started : os.Started) (H : Type) (enc : TypeId × Value → H) :
    ReturnsInHanded {} Try.checked os 7 .any (Rows.regionOrderSpec.pre6 enc Try.prog Try.f7 Rows.regionOrderRow.domain false) (Rows.regionOrderSpec.post enc Try.prog Try.f7 false true false false) := by
  refine returnsInHanded_of_change (C := Try.checked) own started (by kernel_rfl) Try.func7
    (ChangeSpec.witness6 (enc := enc) (C := Try.checked) false ⟨#[], #[.int .i64 0, .slice none 0 0, .slice none 0 0], []⟩ 8 (by kernel_rfl) (by kernel_rfl) (by kernel_rfl) (by kernel_rfl)) ?_
  intro W base args ds gs before hval0 hW _ _
  have hval : ∀ (j : Nat) t v, Try.f7.params[j]? = some t → args[j]? = some v → Value.okWide Try.prog W .any base t v := hval0
  have hW' := hW
  obtain ⟨p, q, hA0, hV, rfl, _, _⟩ := hW
  have hA : DataW.TrodAll enc Try.prog W 0 (fun _ => true) true Try.f7.params.toList args.toList ds p := hA0
  rw [Try.params7] at hA hval
  obtain ⟨v0, vs0, d0, ds0, p0, q0, hargs, rfl, rfl, h0, r0⟩ := trodAll_cons hA
  obtain ⟨v1, vs1, d1, ds1, p1, q1, rfl, rfl, rfl, h1, r1⟩ := trodAll_cons r0
  obtain ⟨v2, vs2, d2, ds2, p2, q2, rfl, rfl, rfl, h2, r2⟩ := trodAll_cons r1
  obtain ⟨rfl, rfl, rfl⟩ := trodAll_nil r2
  obtain rfl : args = #[v0, v1, v2] := by cases args; simp_all
  obtain ⟨rfl, rfl⟩ := trodVars_none hV
  obtain ⟨a0, rfl, rfl, rfl, w0⟩ := open_int Try.underlying3 (hval 0 3 v0 rfl rfl) h0
  clear hA0
  simp only [List.append_nil, List.nil_append] at hW'
  have hlt1 : ∀ x ∈ p1, x.block < W.heap.size := fun x hx => hW'.lt x (by simp [hx])
  have hk1 := h1
  obtain ⟨a1, cap1, l1, rfl, hr1⟩ := open_rx (hval 1 22 v1 rfl rfl) h1 hlt1
  have hlt2 : ∀ x ∈ p2, x.block < W.heap.size := fun x hx => hW'.lt x (by simp [hx])
  have hk2 := h2
  obtain ⟨a2, cap2, l2, rfl, hr2⟩ := open_ri Try.underlying43 Try.underlying5 Try.cells5 (hval 2 43 v2 rfl rfl) h2 hlt2
  clear hval0
  refine (walk a0 w0 a1 cap1 l1 a2 cap2 l2 W hr1 hr2).mono fun e W' ⟨he, hb⟩ => ?_
  subst he
  exact ⟨_, rfl, _, _, _, [] ++ [], _, [], hW', trodAll_cons_mk (shut_bool Try.underlying4 _) trodAll_mk0, (trodAll_cons_mk (shut_int Try.underlying3 w0) (trodAll_cons_mk (Below.trod Try.laidOut (by kernel_rfl) (of_decide_eq_true (by kernel_rfl)) hk1 hb hlt1) (trodAll_cons_mk (Below.trod Try.laidOut (by kernel_rfl) (of_decide_eq_true (by kernel_rfl)) hk2 hb hlt2) trodAll_mk0))), rfl, hb.frame _, fun h => by cases h⟩

theorem over : Rows.regionOrderRow.holds Try.pinned (OpenSpec.ofChange Rows.regionOrderSpec) :=
  OpenClaim.holds_of_wide 7 Try.f7 rfl rfl rfl rfl rfl rfl rfl ⟨rfl, rfl, rfl, rfl, rfl⟩ rfl rfl rfl rfl rfl (by kernel_rfl) Try.func7 (by kernel_rfl)
    (of_decide_eq_true (by kernel_rfl)) (by unfold Func.isWrapper; first | (rw [if_pos (by decide +kernel)]; kernel_rfl) | (rw [if_neg (by decide +kernel)]; exact ⟨rfl, rfl⟩))
    (fun os started H enc _ => lifted os started H enc)

end Go.Proofs.Ytkfoeijhhfaceaa.regionOrder
namespace Go.Proofs.Ytkfoeijhhfaceaa
theorem regionOrder_holds : Rows.RegionOrderSaid := regionOrder.over
#print axioms regionOrder_holds
end Go.Proofs.Ytkfoeijhhfaceaa
