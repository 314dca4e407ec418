/-
  The document's Give, Other and Take.
-/
import Derived.Test.YtkfoeijhhfaceaaPart13
namespace Go.Proofs.Ytkfoeijhhfaceaa
open Go.RowKit Go.Shelf
attribute [local go_sem] Oper.semAt_some

theorem results_ctt {fn : Func} {p q r : Tmp} {tp : TypeId} (h : fn.results = #[.cell p tp, .tmp q, .tmp r]) (tmps : Array Value) (W : World) (A : Nat) (x : Value) (hp : tmps.getD p undef = .pointer (some ⟨A, 0, none⟩)) (h1 : (loadVar tp ⟨A, 0, none⟩).run Try.prog W = .ok x W) : (results fn tmps).run Try.prog W = .ok (.tuple #[x, tmps.getD q undef, tmps.getD r undef]) W := by
  have hp' : tmps[p]?.getD undef = .pointer (some ⟨A, 0, none⟩) := by simpa using hp
  simp [results, h, hp', asAddr, h1]
theorem met_no {l : List Ext} {e0 : Int} {m : Nat} {Y Z : Nat} (hp : ∀ x, x ∈ l → 1 ≤ x.2) (hY : e0 = (Y : Int)) (hm : ∀ j, j < Z → inB l (Y + j) = false) (hz : 1 ≤ Z) (_ : m = m) : metB l (e0, (Z : Int)) = false := by
  cases h : metB l (e0, (Z : Int)) with
  | false => rfl
  | true =>
    obtain ⟨k, h1, h2⟩ := (meet_in hp (by dsimp only; omega)).1 ((met_iff hp (by dsimp only; omega)).1 h)
    unfold inE at h1
    dsimp only at h1
    have h3 := hm (k.toNat - Y) (by omega)
    rw [show Y + (k.toNat - Y) = k.toNat from by omega] at h3
    have h4 := (inB_iff l k.toNat).2 (by rw [show ((k.toNat : Nat) : Int) = k from by omega]; exact h2)
    rw [h4] at h3
    cases h3
theorem met_yes {l : List Ext} {Y Z j : Nat} (hp : ∀ x, x ∈ l → 1 ≤ x.2) (hz : 1 ≤ Z) (hj : j < Z) (h : inB l (Y + j) = true) : metB l ((Y : Int), (Z : Int)) = true := by
  refine (met_iff hp (by dsimp only; omega)).2 ((meet_in hp (by dsimp only; omega)).2 ⟨((Y + j : Nat) : Int), ?_, (inB_iff l (Y + j)).1 h⟩)
  unfold inE
  dsimp only
  omega
set_option maxHeartbeats 6400000 in
set_option maxRecDepth 100000 in
theorem rgive_word (b : Int) (a : Option Addr) (cap : Nat) (l : List Ext) (e0 e1 : Int) (w : World) (hr : Rx w a cap l) (he : (Lit.int .i64 e0).wf = true) :
    Calls Try.prog 27 #[.int .i64 b, .slice a l.length cap, .agg #[.int .i64 e0, .int .i64 e1]] w (RwPost (giveO b l (e0, e1)) w) := by
  have hB := bel_alloc w (.cells #[.int .i64 e0, .int .i64 e1] 24)
  have HXE : Hid (Xb (w.alloc (.cells #[.int .i64 e0, .int .i64 e1] 24)) w.heap.size (e0, e1)) := heap_new w _
  have HC := hid (rcheck_any b a cap l (w.alloc (.cells #[.int .i64 e0, .int .i64 e1] 24)) (hr.later hB))
  have HB := hid hB
  have HR := hid hr
  unfold RwPost giveO bothO
  by_cases h0 : chkO b l = 0
  · have hrow := chk_row h0
    have HRW := hid hrow
    have hlo := hrow.lo
    have hhi := hrow.hi
    have HL : Hid (∀ W, Calls Try.prog 33 #[.int .i64 b, .agg #[.int .i64 e0, .int .i64 e1]] W fun e w' => e = .returned (.bool (lieB b (e0, e1))) ∧ Below W.heap.size W w') := fun W => lies_ref b (e0, e1) W hlo hhi he
    rw [h0] at HC ⊢
    rw [if_neg (show ¬ ((0 : Int) ≠ 0) from fun h => h rfl)]
    by_cases hl : lieB b (e0, e1) = true
    · rw [if_pos hl, if_neg (show ¬ ((0 : Int) ≠ 0) from fun h => h rfl)]
      rw [hl] at HL
      obtain ⟨k1, k2, k3⟩ := (lieB_iff b (e0, e1)).1 hl
      dsimp only at k1 k2 k3
      obtain ⟨n, hn⟩ : ∃ n : Nat, b = (n : Int) := ⟨b.toNat, by omega⟩
      subst hn
      obtain ⟨Y, hY⟩ : ∃ Y : Nat, e0 = (Y : Int) := ⟨e0.toNat, by omega⟩
      obtain ⟨Z, hZ⟩ : ∃ Z : Nat, e1 = (Z : Int) := ⟨e1.toNat, by omega⟩
      subst hY hZ
      have hn4 : n ≤ 4096 := by omega
      have hz1 : 1 ≤ Z := by omega
      have hyz : Y + Z ≤ n := by omega
      have HBT : Hid (∀ W, Below w.heap.size w W → Calls Try.prog 39 #[.int .i64 (n : Int), .slice a l.length cap] W (BitsPost n l W)) := fun W hW => bits_ref n a cap l W (HR.out.later hW) HRW.out
      unfold BitsPost at HBT
      have HPP : Hid (∀ x, x ∈ l → 1 ≤ x.2) := fun x hx => (hrow.nrm.pos x hx).2
      have HGD : Hid (metB l ((Y : Int), (Z : Int)) = false → docP (turnP (inB l) (Y : Int) (Z : Int) true) n = withL l ((Y : Int), (Z : Int))) := fun h => give_doc hrow k1 k2 k3 h
      obtain ⟨o, ho⟩ : ∃ o : List Ext × Int, o = (if metB l ((Y : Int), (Z : Int)) = true then ([], 102) else (withL l ((Y : Int), (Z : Int)), 0)) := ⟨_, rfl⟩
      have HO := hid ho
      rw [← ho]
      clear hB hr he h0 hrow hl hlo hhi HR ho
      generalize l.length = len at *
      go_enter Try.func27, Try.ntmps27
      go_wp2_with fail
      refine HC.out.mono ?_
      rintro _ w1 ⟨rfl, hb1⟩
      have HX1 := hid (HXE.out.later hb1)
      obtain ⟨c0, c1⟩ := HX1.out.cells
      have HB1 := hid (Bn HB.out hb1)
      have HL1 := hid (HL.out w1)
      dsimp only at c0 c1
      clear hb1 HC HXE HB HL
      go_wp2_with fail
      refine HL1.out.mono ?_
      rintro _ w2 ⟨rfl, hb2⟩
      have HX2 := hid (HX1.out.later hb2)
      obtain ⟨d0, d1⟩ := HX2.out.cells
      have HB2 := hid (Bn HB1.out hb2)
      dsimp only at d0 d1
      clear hb2 HB1 HL1 HX1 c0 c1
      have HB3 := hid (HBT.out w2 HB2.out)
      go_wp2_with fail
      refine HB3.out.mono ?_
      rintro _ w3 ⟨g, rfl, hg, hbb, hb3⟩
      have HX3 := hid (HX2.out.later hb3)
      have HW3 := hid (Bn HB2.out hb3)
      have HBB := hid hbb
      have hsw : w.heap.size < w2.heap.size := (Array.getElem?_eq_some_iff.1 HX2.out).1
      obtain ⟨s, hs⟩ : ∃ s, s = w.heap.size := ⟨_, rfl⟩
      have HSS := hid hs
      rw [← hs] at HX3 hsw ⊢
      have HSG : Hid (s < g) := by show _ < _; omega
      clear hs hsw hg hbb hb3 HBT HB3 HB2 HX2 d0 d1
      go_wp2
      go_loopw [10] (fun x10 wr => ∃ m : Nat, m ≤ Z ∧ x10 = .int .i64 (m : Int) ∧ wr = w3 ∧ Hid (∀ j, j < m → inB l (Y + j) = false)) (fun x10 _ => Z - (intOf x10).toNat)
      case atStart => exact ⟨0, by omega, rfl, rfl, fun j hj => by omega⟩
      case round =>
        obtain ⟨m, hm, rfl, hwr, HNO⟩ := hrel
        obtain rfl := hwr.symm
        clear hwr
        obtain ⟨d0, d1⟩ := HX3.out.cells
        dsimp only at d0 d1
        by_cases hmz : m < Z
        · have hmZ : (m : Int) < (Z : Int) := by omega
          obtain ⟨q, hq⟩ : ∃ q, q = Y + m := ⟨_, rfl⟩
          have HQ := hid hq
          have hqz : (Y : Int) + (m : Int) = (q : Int) := by omega
          have hqn : (q : Int) < (n : Int) := by omega
          have hq0 : (0 : Int) ≤ (q : Int) := by omega
          have e0' := HBB.out.cell (j := q) (by omega)
          clear hq
          by_cases hin : inB l q = true
          · rw [hin] at e0'
            have ho := HO.out
            rw [if_pos (met_yes HPP.out hz1 hmz (by rw [← HQ.out]; exact hin))] at ho
            subst ho
            clear hin
            go_wp2
            go_ret2
            exact ⟨_, rfl, ⟨rfl, .inl ⟨rfl, rfl⟩⟩, HW3.out⟩
          · have hin' : inB l q = false := by simpa using hin
            rw [hin'] at e0'
            have HNO2 : Hid (∀ j, j < m + 1 → inB l (Y + j) = false) := fun j hj => by
              by_cases ej : j = m
              · rw [ej, ← HQ.out]; exact hin'
              · exact HNO.out j (by omega)
            clear hin hin'
            go_wp2
            exact ⟨⟨m + 1, by omega, by go_num, trivial, HNO2.out⟩, by simp [intOf]; omega⟩
        · obtain rfl : m = Z := by omega
          have hmZ : ¬ (m : Int) < (m : Int) := by omega
          have hmet := met_no (m := m) HPP.out rfl HNO.out hz1 rfl
          have ho := HO.out
          rw [if_neg (by rw [hmet]; simp)] at ho
          have HDOC := hid (HGD.out hmet)
          subst ho
          have HTN := hid (turn_ref g n (inB l) (Y : Int) (m : Int) true w3 HBB.out k1 k2 k3 hn4)
          clear hmet
          go_wp2_with fail
          refine HTN.out.mono ?_
          rintro _ w4 ⟨rfl, hbb4, hbut⟩
          have HW4 := hid (HW3.out.trans (hbut.below (by have := HSG.out; have := HSS.out; omega) HW3.out.size))
          have HRO := row_ref g n (turnP (inB l) (Y : Int) (m : Int) true) w4 hbb4 hn4
          unfold RowPost at HRO
          have HRO2 := hid HRO
          clear hbb4 hbut HTN HRO
          go_wp2_with fail
          refine HRO2.out.mono ?_
          rintro _ w5 ⟨rv, rfl, hown, hb5⟩
          have HOW := hid (own_base hown HW4.out.size)
          have HW5 := hid (Bn HW4.out hb5)
          clear hown hb5 HRO2
          go_wp2
          go_ret2
          refine ⟨rv, rfl, ?_, HW5.out⟩
          rw [← HDOC.out]
          exact HOW.out
    · rw [if_neg hl, if_pos (show ((100 : Int) ≠ 0) by omega)]
      rw [show lieB b (e0, e1) = false from by simpa using hl] at HL
      clear hB hr he h0 hrow hl hlo hhi HR HRW
      generalize l.length = len at *
      go_enter Try.func27, Try.ntmps27
      go_wp2_with fail
      refine HC.out.mono ?_
      rintro _ w1 ⟨rfl, hb1⟩
      have HX1 := hid (HXE.out.later hb1)
      obtain ⟨c0, c1⟩ := HX1.out.cells
      have HB1 := hid (Bn HB.out hb1)
      have HL1 := hid (HL.out w1)
      dsimp only at c0 c1
      clear hb1 HC HXE HB HL
      go_wp2_with fail
      refine HL1.out.mono ?_
      rintro _ w2 ⟨rfl, hb2⟩
      have HX2 := hid (HX1.out.later hb2)
      obtain ⟨d0, d1⟩ := HX2.out.cells
      have HB2 := hid (Bn HB1.out hb2)
      dsimp only at d0 d1
      clear hb2 HB1 HL1 HX1 c0 c1
      go_wp2
      go_ret2
      exact ⟨_, rfl, ⟨rfl, .inl ⟨rfl, rfl⟩⟩, HB2.out⟩
  · rw [if_pos h0, if_pos h0]
    generalize chkO b l = c at *
    have hd : decide (c = 0) = false := decide_eq_false h0
    clear HXE HR hB hr he
    generalize l.length = len at *
    go_enter Try.func27, Try.ntmps27
    go_wp2_with fail
    refine HC.out.mono ?_
    rintro _ w1 ⟨rfl, hb1⟩
    have HB1 := hid (Bn HB.out hb1)
    clear hb1 HC HB
    go_wp2
    go_ret2
    exact ⟨_, rfl, ⟨rfl, .inl ⟨rfl, rfl⟩⟩, HB1.out⟩

set_option maxHeartbeats 6400000 in
set_option maxRecDepth 100000 in
theorem rother_word (b : Int) (a : Option Addr) (cap : Nat) (l : List Ext) (w : World) (hr : Rx w a cap l) :
    Calls Try.prog 29 #[.int .i64 b, .slice a l.length cap] w (RwPost (otherO b l) w) := by
  have HC := hid (rcheck_any b a cap l w hr)
  have HR := hid hr
  unfold RwPost otherO
  by_cases h0 : chkO b l = 0
  · have hrow := chk_row h0
    have HRW := hid hrow
    have hlo := hrow.lo
    have hhi := hrow.hi
    rw [h0] at HC ⊢
    rw [if_neg (show ¬ ((0 : Int) ≠ 0) from fun h => h rfl)]
    obtain ⟨n, hn⟩ : ∃ n : Nat, b = (n : Int) := ⟨b.toNat, by omega⟩
    subst hn
    have hn4 : n ≤ 4096 := by omega
    have HBT : Hid (∀ W, Below w.heap.size w W → Calls Try.prog 39 #[.int .i64 (n : Int), .slice a l.length cap] W (BitsPost n l W)) := fun W hW => bits_ref n a cap l W (HR.out.later hW) HRW.out
    unfold BitsPost at HBT
    rw [← other_doc hrow]
    dsimp only
    clear hr h0 hrow hlo hhi HR HRW
    generalize l.length = len at *
    go_enter Try.func29, Try.ntmps29
    go_wp2_with fail
    refine HC.out.mono ?_
    rintro _ w1 ⟨rfl, hb1⟩
    have HB1 := hid hb1
    have HB3 := hid (HBT.out w1 hb1)
    clear hb1 HC HBT
    go_wp2_with fail
    refine HB3.out.mono ?_
    rintro _ w3 ⟨g, rfl, hg, hbb, hb3⟩
    have HW3 := hid (Bn HB1.out hb3)
    have HBB := hid hbb
    have HSG : Hid (w.heap.size ≤ g) := Nat.le_trans HB1.out.size hg
    clear hg hbb hb3 HB3 HB1
    go_wp2
    go_loopw [8] (fun x8 wr => ∃ m : Nat, m ≤ n ∧ x8 = .int .i64 (m : Int) ∧ Hid (Below w.heap.size w wr) ∧ Hid (Bb wr g n (fun j => if j < m then !inB l j else inB l j))) (fun x8 _ => n - (intOf x8).toNat)
    case atStart => exact ⟨0, by omega, rfl, HW3.out, HBB.out.congr (fun j hj => by rw [if_neg (by omega)])⟩
    case round =>
      clear HW3 HBB
      obtain ⟨m, hm, rfl, HBr, HBB⟩ := hrel
      by_cases hmz : m < n
      · have hmZ : (m : Int) < (n : Int) := by omega
        have hm0 : (0 : Int) ≤ (m : Int) := by omega
        have e0' := HBB.out.cell (j := m) (by omega)
        rw [if_neg (by omega)] at e0'
        have f0 := HBB.out.frozen m
        have HS := hid (HBB.out.set m (!inB l m))
        have HBS : Hid (Below w.heap.size w (wr.setCell ⟨g, m, none⟩ (.bool (!inB l m)))) := HBr.out.setCell (p := ⟨g, m, none⟩) HSG.out _
        have HS2 : Hid (Bb (wr.setCell ⟨g, m, none⟩ (.bool (!inB l m))) g n (fun j => if j < m + 1 then !inB l j else inB l j)) := HS.out.congr (fun j hj => by
          by_cases ej : j = m
          · rw [if_pos ej, if_pos (by omega), ej]
          · rw [if_neg ej]
            by_cases ek : j < m
            · rw [if_pos ek, if_pos (by omega)]
            · rw [if_neg ek, if_neg (by omega)])
        clear HS
        generalize inB l m = bm at *
        go_wp2
        exact ⟨⟨m + 1, by omega, by go_num, HBS.out, HS2.out⟩, by simp [intOf]; omega⟩
      · obtain rfl : m = n := by omega
        have hmZ : ¬ (m : Int) < (m : Int) := by omega
        have HRO := row_ref g m (fun j => !inB l j) wr (HBB.out.congr (fun j hj => by rw [if_pos hj])) hn4
        unfold RowPost at HRO
        have HRO2 := hid HRO
        clear HRO
        go_wp2_with fail
        refine HRO2.out.mono ?_
        rintro _ w5 ⟨rv, rfl, hown, hb5⟩
        have HOW := hid (own_base hown HBr.out.size)
        have HW5 := hid (Bn HBr.out hb5)
        clear hown hb5 HRO2
        go_wp2
        go_ret2
        exact ⟨rv, rfl, HOW.out, HW5.out⟩
  · rw [if_pos h0]
    generalize chkO b l = c at *
    have hd : decide (c = 0) = false := decide_eq_false h0
    clear HR hr
    generalize l.length = len at *
    go_enter Try.func29, Try.ntmps29
    go_wp2_with fail
    refine HC.out.mono ?_
    rintro _ w1 ⟨rfl, hb1⟩
    have HB1 := hid hb1
    clear hb1 HC
    go_wp2
    go_ret2
    exact ⟨_, rfl, ⟨rfl, .inl ⟨rfl, rfl⟩⟩, HB1.out⟩

set_option maxHeartbeats 6400000 in
set_option maxRecDepth 100000 in
theorem rtake_early (b : Int) (a : Option Addr) (cap : Nat) (l : List Ext) (n : Int) (w : World) (hr : Rx w a cap l) (c : Int) (hc : chkO b l = c) (err : Int) (hor : (c ≠ 0 ∧ err = c) ∨ (c = 0 ∧ n < 1 ∧ err = 1)) :
    Calls Try.prog 23 #[.int .i64 b, .slice a l.length cap, .int .i64 n] w (TakePost ((0, 0), [], err) w) := by
  unfold TakePost
  have hB := bel_alloc w (.cells #[.int .i64 0, .int .i64 0] 24)
  have HXE : Hid (Xb (w.alloc (.cells #[.int .i64 0, .int .i64 0] 24)) w.heap.size (0, 0)) := heap_new w _
  have HC := hid (rcheck_any b a cap l (w.alloc (.cells #[.int .i64 0, .int .i64 0] 24)) (hr.later hB))
  have HB := hid hB
  rw [hc] at HC
  clear hc hr hB
  dsimp only
  generalize l.length = len at *
  rcases hor with ⟨h0, rfl⟩ | ⟨rfl, hn, rfl⟩
  · have hd : decide (err = 0) = false := decide_eq_false h0
    go_enter Try.func23, Try.ntmps23
    go_wp2_with fail
    refine HC.out.mono ?_
    rintro _ w1 ⟨rfl, hb1⟩
    have hX1 := HXE.out.later hb1
    have HB1 := hid (Bn HB.out hb1)
    obtain ⟨s, hs⟩ : ∃ s, s = w.heap.size := ⟨_, rfl⟩
    rw [← hs] at hX1 ⊢
    obtain ⟨c0, c1⟩ := hX1.cells
    have f0 := hX1.frozen 0
    have f1 := hX1.frozen 1
    dsimp only at c0 c1
    have HQ := hid (hX1.put (0, 0))
    have HFB : Hid (Below w.heap.size w ((w1.setCell ⟨s, 0, none⟩ (.int .i64 0)).setCell ⟨s, 1, none⟩ (.int .i64 0))) := (HB1.out.setCell (p := ⟨s, 0, none⟩) (by show _ ≤ s; rw [hs]; exact Nat.le_refl _) _).setCell (p := ⟨s, 1, none⟩) (by show _ ≤ s; rw [hs]; exact Nat.le_refl _) _
    clear hs hX1 hb1 HC HB HXE
    go_wp2
    refine bodyPost_ret (results_ctt rfl _ _ s _ rfl (load_ext HQ.out)) rfl ?_
    exact ⟨_, rfl, ⟨rfl, .inl ⟨rfl, rfl⟩⟩, HFB.out⟩
  · have hd : decide (n < 1) = true := decide_eq_true hn
    go_enter Try.func23, Try.ntmps23
    go_wp2_with fail
    refine HC.out.mono ?_
    rintro _ w1 ⟨rfl, hb1⟩
    have hX1 := HXE.out.later hb1
    have HB1 := hid (Bn HB.out hb1)
    obtain ⟨s, hs⟩ : ∃ s, s = w.heap.size := ⟨_, rfl⟩
    rw [← hs] at hX1 ⊢
    obtain ⟨c0, c1⟩ := hX1.cells
    have f0 := hX1.frozen 0
    have f1 := hX1.frozen 1
    dsimp only at c0 c1
    have HQ := hid (hX1.put (0, 0))
    have HFB : Hid (Below w.heap.size w ((w1.setCell ⟨s, 0, none⟩ (.int .i64 0)).setCell ⟨s, 1, none⟩ (.int .i64 0))) := (HB1.out.setCell (p := ⟨s, 0, none⟩) (by show _ ≤ s; rw [hs]; exact Nat.le_refl _) _).setCell (p := ⟨s, 1, none⟩) (by show _ ≤ s; rw [hs]; exact Nat.le_refl _) _
    clear hs hX1 hb1 HC HB HXE
    go_wp2
    refine bodyPost_ret (results_ctt rfl _ _ s _ rfl (load_ext HQ.out)) rfl ?_
    exact ⟨_, rfl, ⟨rfl, .inl ⟨rfl, rfl⟩⟩, HFB.out⟩


set_option maxHeartbeats 6400000 in
set_option maxRecDepth 100000 in
theorem rtake_main (b : Int) (a : Option Addr) (cap : Nat) (l : List Ext) (n : Int) (w : World) (hr : Rx w a cap l) (hc : chkO b l = 0) (hn : ¬ n < 1) :
    Calls Try.prog 23 #[.int .i64 b, .slice a l.length cap, .int .i64 n] w (TakePost (match l.find? (fun x => decide (n ≤ x.2)) with | some x => ((x.1, n), wout l (x.1, n), 0) | none => ((0, 0), [], 101)) w) := by
  obtain ⟨o, ho⟩ : ∃ o : Ext × List Ext × Int, o = (match l.find? (fun x => decide (n ≤ x.2)) with | some x => ((x.1, n), wout l (x.1, n), 0) | none => ((0, 0), [], 101)) := ⟨_, rfl⟩
  have HO := hid ho
  rw [← ho]
  clear ho
  unfold TakePost
  have hrow := chk_row hc
  have HRW := hid hrow
  have hB := bel_alloc w (.cells #[.int .i64 0, .int .i64 0] 24)
  have HXE : Hid (Xb (w.alloc (.cells #[.int .i64 0, .int .i64 0] 24)) w.heap.size (0, 0)) := heap_new w _
  have HC := hid (rcheck_any b a cap l (w.alloc (.cells #[.int .i64 0, .int .i64 0] 24)) (hr.later hB))
  have HB := hid hB
  rw [hc] at HC
  have HR := hid hr
  have hdn : decide (n < 1) = false := decide_eq_false hn
  have HCL : Hid (∀ (x : Ext) (W : World), x ∈ l → n ≤ x.2 → Below w.heap.size w W → Calls Try.prog 25 #[.int .i64 b, .slice a l.length cap, .agg #[.int .i64 x.1, .int .i64 n]] W (RwPost (wout l (x.1, n), 0) W)) := fun x W hx hnx hW => by
    have h1 := hrow.nrm.pos x hx
    have h2 := hrow.upto x hx
    have h3 := hrow.hi
    have := rclaim_word b a cap l x.1 n W (HR.out.later hW) (wf_mk_i64 (by omega) (by omega))
    have e : claimO b l (x.1, n) = (wout l (x.1, n), 0) := by
      have eb : bothO b l (x.1, n) = 0 := by
        unfold bothO
        rw [hc, if_neg (show ¬ ((0 : Int) ≠ 0) from fun h => h rfl), if_pos ((lieB_iff b (x.1, n)).2 ⟨h1.1, by dsimp only; omega, by dsimp only; omega⟩)]
      have eh : hldB l (x.1, n) = true := by
        unfold hldB
        rw [List.any_eq_true]
        refine ⟨x, hx, ?_⟩
        simp only [Bool.and_eq_true, decide_eq_true_eq]
        omega
      unfold claimO
      rw [eb, if_neg (show ¬ ((0 : Int) ≠ 0) from fun h => h rfl), if_pos eh]
    rwa [e] at this
  unfold RwPost at HCL
  have hroom := hr.room
  have hmost := hr.most
  unfold maxLen at hmost
  obtain ⟨len, hln⟩ : ∃ m, m = l.length := ⟨_, rfl⟩
  have HLN := hid hln
  rw [← hln] at HC HCL hroom ⊢
  clear hc hr hB hrow hln
  go_enter Try.func23, Try.ntmps23
  go_wp2_with fail
  refine HC.out.mono ?_
  rintro _ w1 ⟨rfl, hb1⟩
  have HX1 := hid (HXE.out.later hb1)
  have HB1 := hid (Bn HB.out hb1)
  clear hb1 HC HXE HB
  obtain ⟨s, hs⟩ : ∃ s, s = w.heap.size := ⟨_, rfl⟩
  have HSS := hid hs
  rw [← hs] at HX1 ⊢
  clear hs
  go_wp2
  go_loopw [10] (fun x10 wr => ∃ k : Nat, k ≤ len ∧ x10 = .int .i64 (k : Int) ∧ wr = w1 ∧ Hid (AllLt n (l.take k))) (fun x10 _ => len - (intOf x10).toNat)
  case atStart => exact ⟨0, by omega, rfl, rfl, fun x hx => by simp at hx⟩
  case round =>
    obtain ⟨k, hk, rfl, hwr, HAL⟩ := hrel
    obtain rfl := hwr.symm
    clear hwr
    by_cases hlt : k < len
    · have hkz : (k : Int) < (len : Int) := by omega
      have hkl : k < l.length := by rw [← HLN.out]; exact hlt
      obtain ⟨g, off, hag, hgw, hcc⟩ := (HR.out.later HB1.out).cells (by omega)
      subst hag
      obtain ⟨c0, c1⟩ := hcc k hkl
      have hmem : l.getD k ex0 ∈ l := by simp only [List.getD, List.getElem?_eq_getElem hkl, Option.getD_some]; exact List.getElem_mem hkl
      have HET := hid (ext_take l k hkl)
      have HDC : Hid (l = l.take k ++ l.getD k ex0 :: l.drop (k + 1)) := by
        show l = _
        conv => lhs; rw [← List.take_append_drop (k + 1) l, ext_take l k hkl, List.append_assoc]
        rfl
      have HCX : Hid (n ≤ (l.getD k ex0).2 → ∀ W, Below w.heap.size w W → _) := fun h W hW => HCL.out (l.getD k ex0) W hmem h hW
      generalize l.getD k ex0 = x at *
      obtain ⟨y, z⟩ := x
      dsimp only at c0 c1 HCX
      clear hcc hmem HCL
      by_cases hit : n ≤ z
      · have ho := HO.out
        rw [HDC.out, find_cut HAL.out hit, ← HDC.out] at ho
        dsimp only at ho
        subst ho
        have HA := hid (bel_alloc w1 (.cells #[.int .i64 y, .int .i64 n] 24))
        have HF : Hid (Xb (w1.alloc (.cells #[.int .i64 y, .int .i64 n] 24)) w1.heap.size (y, n)) := heap_new w1 _
        have HC2 := hid (HCX.out hit (w1.alloc (.cells #[.int .i64 y, .int .i64 n] 24)) (Bn HB1.out HA.out))
        clear HCX HDC HET
        go_wp2_with fail
        refine HC2.out.mono ?_
        rintro _ w2 ⟨v, rfl, hown, hb2⟩
        have hX2 := HX1.out.later (Bn HA.out hb2)
        have hF2 := HF.out.later hb2
        have HOW := hid (own_base hown (show w.heap.size ≤ (w1.alloc (.cells #[.int .i64 y, .int .i64 n] 24)).heap.size from (Bn HB1.out HA.out).size))
        have HB2 := hid (Bn (Bn HB1.out HA.out) hb2)
        obtain ⟨p0, p1⟩ := hX2.cells
        have f0 := hX2.frozen 0
        have f1 := hX2.frozen 1
        obtain ⟨q0, q1⟩ := hF2.cells
        dsimp only at p0 p1 q0 q1
        have HQ := hid (hX2.put (y, n))
        have HFB : Hid (Below w.heap.size w ((w2.setCell ⟨s, 0, none⟩ (.int .i64 y)).setCell ⟨s, 1, none⟩ (.int .i64 n))) := (HB2.out.setCell (p := ⟨s, 0, none⟩) (by show _ ≤ s; rw [HSS.out]; exact Nat.le_refl _) _).setCell (p := ⟨s, 1, none⟩) (by show _ ≤ s; rw [HSS.out]; exact Nat.le_refl _) _
        have HOW2 : Hid (((w2.setCell ⟨s, 0, none⟩ (.int .i64 y)).setCell ⟨s, 1, none⟩ (.int .i64 n)).ownsRow w.heap.size 24 2 v (wout l (y, n)).length ((wout l (y, n)).flatMap extC)) := by
          have hsw : s < w1.heap.size := (Array.getElem?_eq_some_iff.1 HX1.out).1
          have h1 := own_set_other (own_set_other hown (show s < (w1.alloc (.cells #[.int .i64 y, .int .i64 n] 24)).heap.size by rw [World.size_alloc]; omega) 0 (.int .i64 y)) (show s < (w1.alloc (.cells #[.int .i64 y, .int .i64 n] 24)).heap.size by rw [World.size_alloc]; omega) 1 (.int .i64 n)
          exact own_base h1 (show w.heap.size ≤ (w1.alloc (.cells #[.int .i64 y, .int .i64 n] 24)).heap.size from (Bn HB1.out HA.out).size)
        clear hown hb2 hX2 hF2 HC2 HOW HF HX1
        go_wp2
        refine bodyPost_ret (results_ctt rfl _ _ s _ rfl (load_ext HQ.out)) rfl ?_
        exact ⟨v, rfl, HOW2.out, HFB.out⟩
      · have hdz : decide (n ≤ z) = false := decide_eq_false hit
        have HA2 : Hid (AllLt n (l.take (k + 1))) := by
          show AllLt _ _
          rw [HET.out]
          exact allLt_snoc HAL.out hit
        clear HCX HDC HET
        go_wp2
        exact ⟨⟨k + 1, by omega, by go_num, trivial, HA2.out⟩, by simp [intOf]; omega⟩
    · obtain rfl : k = len := by omega
      have hkz : ¬ (k : Int) < (k : Int) := by omega
      have HTT : Hid (l.take k = l) := List.take_of_length_le (by rw [← HLN.out]; omega)
      rw [HTT.out] at HAL
      have ho := HO.out
      rw [find_all HAL.out] at ho
      dsimp only at ho
      subst ho
      obtain ⟨c0, c1⟩ := HX1.out.cells
      have f0 := HX1.out.frozen 0
      have f1 := HX1.out.frozen 1
      dsimp only at c0 c1
      have HQ := hid (HX1.out.put (0, 0))
      have HFB : Hid (Below w.heap.size w ((w1.setCell ⟨s, 0, none⟩ (.int .i64 0)).setCell ⟨s, 1, none⟩ (.int .i64 0))) := (HB1.out.setCell (p := ⟨s, 0, none⟩) (by show _ ≤ s; rw [HSS.out]; exact Nat.le_refl _) _).setCell (p := ⟨s, 1, none⟩) (by show _ ≤ s; rw [HSS.out]; exact Nat.le_refl _) _
      go_wp2
      refine bodyPost_ret (results_ctt rfl _ _ s _ rfl (load_ext HQ.out)) rfl ?_
      exact ⟨_, rfl, ⟨rfl, .inl ⟨rfl, rfl⟩⟩, HFB.out⟩
theorem rtake_word (b : Int) (a : Option Addr) (cap : Nat) (l : List Ext) (n : Int) (w : World) (hr : Rx w a cap l) : Calls Try.prog 23 #[.int .i64 b, .slice a l.length cap, .int .i64 n] w (TakePost (takeO b l n) w) := by
  unfold takeO
  by_cases h0 : chkO b l = 0
  · by_cases hn : n < 1
    · rw [if_neg (by simp [h0]), if_pos hn]
      exact rtake_early b a cap l n w hr 0 h0 1 (.inr ⟨rfl, hn, rfl⟩)
    · rw [if_neg (by simp [h0]), if_neg hn]
      exact rtake_main b a cap l n w hr h0 hn
  · rw [if_pos h0]
    exact rtake_early b a cap l n w hr (chkO b l) rfl (chkO b l) (.inl ⟨h0, rfl⟩)
end Go.Proofs.Ytkfoeijhhfaceaa
/-
  The statements' awake.
-/
namespace Go.Proofs.Ytkfoeijhhfaceaa
open Go.RowKit Go.Shelf

theorem take_aw : takeO 10 [(0, 3), (5, 5)] 4 = ((5, 4), [(0, 3), (9, 1)], 0) := by decide +kernel
theorem give_aw : giveO 10 [(0, 3), (5, 5)] (3, 2) = ([(0, 10)], 0) := by decide +kernel
theorem two_row (w : World) : Rx (w.alloc (.cells #[.int .i64 0, .int .i64 3, .int .i64 5, .int .i64 5] 24)) (some ⟨w.heap.size, 0, none⟩) 2 [(0, 3), (5, 5)] := by
  have hb := heap_new w (.cells #[.int .i64 0, .int .i64 3, .int .i64 5, .int .i64 5] 24)
  refine ⟨Nat.le_refl _, by unfold maxLen; omega, (fun h => by cases h), fun _ => ⟨w.heap.size, 0, rfl, by rw [World.size_alloc]; omega, fun j hj => ?_⟩, fun j hj => ?_⟩
  · match j, hj with
    | 0, _ => exact ⟨Joins.cell_of_block hb 0, Joins.cell_of_block hb 1⟩
    | 1, _ => exact ⟨Joins.cell_of_block hb 2, Joins.cell_of_block hb 3⟩
  · match j, hj with
    | 0, _ => exact ⟨rfl, rfl⟩
    | 1, _ => exact ⟨rfl, rfl⟩

set_option maxHeartbeats 6400000 in
set_option maxRecDepth 100000 in
theorem awake_any (w : World) : Calls Try.prog 21 #[] w fun e w' => e = .returned (.bool true) ∧ Below w.heap.size w w' := by
  have HB := hid (bel_alloc w (.cells #[.int .i64 0, .int .i64 3, .int .i64 5, .int .i64 5] 24))
  have HR := hid (two_row w)
  have HT := hid (take_word 10 (some ⟨w.heap.size, 0, none⟩) 2 [(0, 3), (5, 5)] 4 (w.alloc (.cells #[.int .i64 0, .int .i64 3, .int .i64 5, .int .i64 5] 24)) (two_row w))
  unfold TakePost at HT
  rw [take_aw] at HT
  have HG : Hid (∀ W, Below w.heap.size w W → Rx W (some ⟨w.heap.size, 0, none⟩) 2 [(0, 3), (5, 5)] → Calls Try.prog 26 #[.int .i64 10, .slice (some ⟨w.heap.size, 0, none⟩) 2 2, .agg #[.int .i64 3, .int .i64 2]] W (RwPost ([(0, 10)], 0) W)) := fun W hW hr => by
    have := give_word 10 (some ⟨w.heap.size, 0, none⟩) 2 [(0, 3), (5, 5)] 3 2 W hr rfl
    rwa [give_aw] at this
  unfold RwPost at HG
  have heq : ∀ W, (binOp .eql 24 (.agg #[.int .i64 5, .int .i64 4]) (.agg #[.int .i64 5, .int .i64 4])).run Try.prog W = .ok (.bool true) W := fun W => by rw [run_eql24]; simp
  dsimp only [extV, List.length_cons, List.length_nil] at HT HG
  go_enter Try.func21, Try.ntmps21
  go_wp2_with fail
  refine HT.out.mono ?_
  rintro _ w1 ⟨v1, rfl, hown1, hb1⟩
  obtain ⟨g1, cap1, rfl⟩ := ownsRow_succ hown1
  have HB1 := hid (Bn (Bn HB.out hb1) (bel_alloc w1 (.cells #[.int .i64 5, .int .i64 4] 24)))
  have HR1 := hid ((HR.out.later hb1).later (bel_alloc w1 (.cells #[.int .i64 5, .int .i64 4] 24)))
  have HX : Hid (Xb (w1.alloc (.cells #[.int .i64 5, .int .i64 4] 24)) w1.heap.size (5, 4)) := heap_new w1 _
  have HG1 := hid (HG.out _ HB1.out HR1.out)
  clear hown1 hb1 HT HG HB HR HR1
  go_wp2_with fail
  refine HG1.out.mono ?_
  rintro _ w2 ⟨v2, rfl, hown2, hb2⟩
  obtain ⟨g2, cap2, rfl⟩ := ownsRow_succ hown2
  obtain ⟨a2, c2, hv2, hr2⟩ := Rx.own hown2 (fun x hx => by rw [List.mem_singleton] at hx; subst hx; exact ⟨rfl, rfl⟩)
  have hroom2 := hr2.room
  injection hv2 with e1 e2 e3
  subst e1 e3
  obtain ⟨b2, off2, ha, _, hc2⟩ := hr2.cells (by simp)
  cases ha
  obtain ⟨q0, q1⟩ := hc2 0 (by simp)
  obtain ⟨p0, p1⟩ := (HX.out.later hb2).cells
  have HB2 := hid (Bn HB1.out hb2)
  simp only [List.getD, List.getElem?_cons_zero, Option.getD_some, Nat.zero_mul, Nat.add_zero, Nat.zero_add] at q0 q1
  dsimp only at p0 p1
  dsimp only [List.length_cons, List.length_nil] at hroom2
  clear hown2 hb2 HG1 HX hr2 hc2 HB1 e2
  go_wp2
  go_ret
  exact ⟨rfl, HB2.out⟩
end Go.Proofs.Ytkfoeijhhfaceaa
/-
  What follows of rows: taken and given back, given and claimed, all others; which extent is the first that fits.
-/
namespace Go.Proofs.Ytkfoeijhhfaceaa

theorem sep_mem {x y : Ext} : ∀ {l : List Ext}, Nrm l → x ∈ l → y ∈ l → x = y ∨ x.1 + x.2 < y.1 ∨ y.1 + y.2 < x.1
  | [], _, hx, _ => by cases hx
  | z :: l, hn, hx, hy => by
    obtain ⟨_, h2⟩ := nrm_head hn
    rcases List.mem_cons.1 hx with hx1 | hx1
    · rcases List.mem_cons.1 hy with hy1 | hy1
      · exact .inl (hx1.trans hy1.symm)
      · exact .inr (.inl (by rw [hx1]; exact h2 y hy1))
    · rcases List.mem_cons.1 hy with hy1 | hy1
      · exact .inr (.inr (by rw [hy1]; exact h2 x hx1))
      · exact sep_mem (nrm_tail hn) hx1 hy1
theorem hld_all {r : List Ext} {e : Ext} (hr : Nrm r) (he : 1 ≤ e.2) (h : ∀ k, inE e k → inR r k) : hldB r e = true := by
  obtain ⟨x, hx, h1, h2⟩ := h e.1 ⟨Int.le_refl _, by omega⟩
  unfold hldB
  rw [List.any_eq_true]
  refine ⟨x, hx, ?_⟩
  simp only [Bool.and_eq_true, decide_eq_true_eq]
  refine ⟨h1, ?_⟩
  by_cases hc : e.1 + e.2 ≤ x.1 + x.2
  · exact hc
  · obtain ⟨y, hy, h3, h4⟩ := h (x.1 + x.2) ⟨by omega, by omega⟩
    rcases sep_mem hr hx hy with rfl | h5 | h5 <;> omega
theorem hld_in {l : List Ext} {e : Ext} (h : hldB l e = true) : ∃ x, x ∈ l ∧ x.1 ≤ e.1 ∧ e.1 + e.2 ≤ x.1 + x.2 := by
  unfold hldB at h
  rw [List.any_eq_true] at h
  obtain ⟨x, hx, h⟩ := h
  simp only [Bool.and_eq_true, decide_eq_true_eq] at h
  exact ⟨x, hx, h⟩
theorem both_zero {b : Int} {l : List Ext} {e : Ext} (hl : Row b l) (he : 0 ≤ e.1 ∧ 1 ≤ e.2 ∧ e.1 + e.2 ≤ b) : bothO b l e = 0 := by
  unfold bothO
  rw [row_chk hl, if_neg (show ¬ ((0 : Int) ≠ 0) from fun h => h rfl), if_pos ((lieB_iff b e).2 he)]
theorem not_met {l : List Ext} {e : Ext} (hl : Nrm l) (he : 1 ≤ e.2) (h : ∀ k, inE e k → ¬ inR l k) : metB l e = false := by
  cases hm : metB l e with
  | false => rfl
  | true =>
    have hp : ∀ x, x ∈ l → 1 ≤ x.2 := fun x hx => (hl.pos x hx).2
    obtain ⟨k, h1, h2⟩ := (meet_in hp he).1 ((met_iff hp he).1 hm)
    exact absurd h2 (h k h1)
theorem met_apart {l : List Ext} {e : Ext} (hl : Nrm l) (he : 1 ≤ e.2) (hm : metB l e = false) : ¬ meetR l e ∧ ∀ k, inE e k → ¬ inR l k := by
  have hp : ∀ x, x ∈ l → 1 ≤ x.2 := fun x hx => (hl.pos x hx).2
  have h1 : ¬ meetR l e := fun h => by rw [(met_iff hp he).2 h] at hm; cases hm
  exact ⟨h1, fun k h2 h3 => h1 ((meet_in hp he).2 ⟨k, h2, h3⟩)⟩
/-- A Take that tells OK. -/
theorem take_ok {b : Int} {l : List Ext} {n : Int} (h : (takeO b l n).2.2 = 0) : ∃ x, x ∈ l ∧ n ≤ x.2 ∧ 1 ≤ n ∧ Row b l ∧ takeO b l n = ((x.1, n), wout l (x.1, n), 0) ∧ ∀ y, y ∈ l → n ≤ y.2 → x.1 ≤ y.1 := by
  unfold takeO at h ⊢
  by_cases h0 : chkO b l = 0
  · rw [if_neg (by simp [h0])] at h ⊢
    by_cases hn : n < 1
    · rw [if_pos hn] at h; dsimp only at h; omega
    · rw [if_neg hn] at h ⊢
      have hrow := chk_row h0
      cases hf : l.find? (fun x => decide (n ≤ x.2)) with
      | none => rw [hf] at h; dsimp only at h; omega
      | some x =>
        have hx := List.mem_of_find?_eq_some hf
        have hp := List.find?_some hf
        refine ⟨x, hx, by simpa using hp, by omega, hrow, rfl, fun y hy hny => ?_⟩
        obtain ⟨_, us, vs, hl, has⟩ := List.find?_eq_some_iff_append.1 hf
        have hn2 := hrow.nrm
        rw [hl] at hy hn2
        rcases List.mem_append.1 hy with hy | hy
        · have := has y hy; simp at this; omega
        · rcases List.mem_cons.1 hy with rfl | hy
          · exact Int.le_refl _
          · have h1 := (List.pairwise_append.1 hn2.sep).2.1
            have h2 := (List.pairwise_cons.1 h1).1 y hy
            have h3 := hn2.pos x (by simp)
            omega
  · rw [if_pos h0] at h; exact absurd h h0
theorem take_back {b : Int} {l : List Ext} {n : Int} (h : (takeO b l n).2.2 = 0) : giveO b (takeO b l n).2.1 (takeO b l n).1 = (l, 0) := by
  obtain ⟨x, hx, hnx, hn, hrow, ht, _⟩ := take_ok h
  rw [ht]
  dsimp only
  have hxp := hrow.nrm.pos x hx
  have hxu := hrow.upto x hx
  obtain ⟨hw, hin⟩ := wout_ok (e := (x.1, n)) hrow hn
  have hsub : ∀ k, inE (x.1, n) k → inR l k := fun k hk => ⟨x, hx, hk.1, by have := hk.2; dsimp only at this; omega⟩
  have hap : ∀ k, inE (x.1, n) k → ¬ inR (wout l (x.1, n)) k := fun k hk h2 => ((hin k).1 h2).2 hk
  have hm := not_met hw.nrm hn hap
  have he : 0 ≤ (x.1, n).1 ∧ 1 ≤ (x.1, n).2 ∧ (x.1, n).1 + (x.1, n).2 ≤ b := ⟨hxp.1, hn, by dsimp only; omega⟩
  obtain ⟨h3, h4⟩ := with_ok hw he (met_apart hw.nrm hn hm).1
  unfold giveO
  rw [both_zero hw he, if_neg (show ¬ ((0 : Int) ≠ 0) from fun h => h rfl), hm, if_neg (by simp)]
  congr 1
  refine row_ext h3 hrow (fun k => ?_)
  rw [h4, hin]
  constructor
  · rintro (h5 | h5)
    · exact h5.1
    · exact hsub k h5
  · intro h5
    by_cases h6 : inE (x.1, n) k
    · exact .inr h6
    · exact .inl ⟨h5, h6⟩
/-- A Give that tells OK. -/
theorem give_ok {b : Int} {l : List Ext} {e : Ext} (h : (giveO b l e).2 = 0) : Row b l ∧ (0 ≤ e.1 ∧ 1 ≤ e.2 ∧ e.1 + e.2 ≤ b) ∧ metB l e = false ∧ giveO b l e = (withL l e, 0) := by
  unfold giveO at h ⊢
  by_cases h0 : bothO b l e = 0
  · rw [if_neg (by simp [h0])] at h ⊢
    obtain ⟨h1, h2⟩ := both_ok h0
    by_cases hm : metB l e = true
    · rw [if_pos hm] at h; dsimp only at h; omega
    · rw [if_neg hm]
      exact ⟨h1, h2, by simpa using hm, rfl⟩
  · rw [if_pos h0] at h; exact absurd h h0
theorem give_no {b : Int} {l : List Ext} {e : Ext} (h : (giveO b l e).2 ≠ 0) : (giveO b l e).1 = [] := by
  unfold giveO at h ⊢
  by_cases h0 : bothO b l e = 0
  · rw [if_neg (by simp [h0])] at h ⊢
    by_cases hm : metB l e = true
    · rw [if_pos hm]
    · rw [if_neg hm] at h; exact absurd rfl h
  · rw [if_pos h0]
theorem give_claim {b : Int} {l : List Ext} {e : Ext} (h : (giveO b l e).2 = 0) : claimO b (giveO b l e).1 e = (l, 0) := by
  obtain ⟨hrow, he, hm, hg⟩ := give_ok h
  rw [hg]
  dsimp only
  obtain ⟨hap, hno⟩ := met_apart hrow.nrm he.2.1 hm
  obtain ⟨h3, h4⟩ := with_ok hrow he hap
  obtain ⟨h5, h6⟩ := wout_ok (e := e) h3 he.2.1
  unfold claimO
  rw [both_zero h3 he, if_neg (show ¬ ((0 : Int) ≠ 0) from fun h => h rfl), if_pos (hld_all h3.nrm he.2.1 (fun k hk => (h4 k).2 (.inr hk)))]
  congr 1
  refine row_ext h5 hrow (fun k => ?_)
  rw [h6, h4]
  constructor
  · rintro ⟨h7 | h7, h8⟩
    · exact h7
    · exact absurd h7 h8
  · exact fun h7 => ⟨.inl h7, fun h8 => hno k h8 h7⟩
theorem fit_nil : Fit [] := fun x hx => by cases hx
theorem take_fit (b : Int) (l : List Ext) (n : Int) : Fit (takeO b l n).2.1 := by
  by_cases h : (takeO b l n).2.2 = 0
  · obtain ⟨x, hx, hnx, hn, hrow, ht, _⟩ := take_ok h
    rw [ht]
    exact row_fit (wout_ok (e := (x.1, n)) hrow hn).1
  · unfold takeO at h ⊢
    by_cases h0 : chkO b l = 0
    · rw [if_neg (by simp [h0])] at h ⊢
      by_cases hn : n < 1
      · rw [if_pos hn]; exact fit_nil
      · rw [if_neg hn] at h ⊢
        cases hf : l.find? (fun x => decide (n ≤ x.2)) with
        | none => exact fit_nil
        | some x => rw [hf] at h; exact absurd rfl h
    · rw [if_pos h0]; exact fit_nil
theorem give_fit (b : Int) (l : List Ext) (e : Ext) : Fit (giveO b l e).1 := by
  by_cases h : (giveO b l e).2 = 0
  · obtain ⟨hrow, he, hm, hg⟩ := give_ok h
    rw [hg]
    exact row_fit (with_ok hrow he (met_apart hrow.nrm he.2.1 hm).1).1
  · rw [give_no h]; exact fit_nil
theorem claim_fit (b : Int) (l : List Ext) (e : Ext) : Fit (claimO b l e).1 := by
  unfold claimO
  by_cases h0 : bothO b l e = 0
  · rw [if_neg (by simp [h0])]
    obtain ⟨h1, h2⟩ := both_ok h0
    split
    · exact row_fit (wout_ok h1 h2.2.1).1
    · exact fit_nil
  · rw [if_pos h0]; exact fit_nil
theorem other_fit (b : Int) (l : List Ext) : Fit (otherO b l).1 := by
  unfold otherO
  by_cases h : chkO b l ≠ 0
  · rw [if_pos h]; exact fit_nil
  · rw [if_neg h]; exact row_fit (btw_ok (chk_row (Decidable.not_not.1 h))).1
theorem sum_put (l : List Ext) (f t : Int) : sumE (putL l f t) = sumE l + (if t ≤ f then 0 else t - f) := by
  by_cases h : t ≤ f
  · rw [put_no h, if_pos h]; omega
  · rw [if_neg h]
    rcases snoc_or l with rfl | ⟨m, z, rfl⟩
    · rw [put_nil h]; simp [sumE]
    · by_cases hz : z.1 + z.2 = f
      · rw [put_join h hz, sumE_snoc, sumE_snoc]; dsimp only; omega
      · rw [put_more h hz, sumE_snoc (m ++ [z])]
theorem sum_btw (r : List Ext) : ∀ (s : List Ext × Int), (∀ x, x ∈ r → s.2 ≤ x.1) → Nrm r → sumE (r.foldl btwS s).1 + sumE r = sumE s.1 + ((r.foldl btwS s).2 - s.2) := by
  induction r with
  | nil => intro s _ _; simp [sumE]
  | cons x r ih =>
    intro s hs hn
    obtain ⟨h1, h2⟩ := nrm_head hn
    have hx := hs x (by simp)
    have := ih (btwS s x) (fun y hy => by have := h2 y hy; unfold btwS; dsimp only; omega) (nrm_tail hn)
    rw [List.foldl_cons, sumE_cons]
    have e1 : sumE (btwS s x).1 = sumE s.1 + (x.1 - s.2) := by
      unfold btwS
      dsimp only
      rw [sum_put]
      split <;> omega
    have e2 : (btwS s x).2 = x.1 + x.2 := rfl
    rw [e1, e2] at this
    omega
theorem sum_all {b : Int} {l : List Ext} (hl : Row b l) : sumE l + sumE (btw b l) = b := by
  have h1 := sum_btw l ([], 0) (fun x hx => (hl.nrm.pos x hx).1) hl.nrm
  obtain ⟨⟨_, _, _, h2⟩, _⟩ := btw_all b l ([], 0) nrm_nil (upto_nil _) (by simp) hl.lo (fun x hx => (hl.nrm.pos x hx).1) hl.nrm hl.upto
  unfold btw
  rw [sum_put]
  dsimp only at h1
  have e : sumE [] = 0 := rfl
  rw [e] at h1
  split <;> omega
theorem btw_twice {b : Int} {l : List Ext} (hl : Row b l) : btw b (btw b l) = l := by
  obtain ⟨h1, h2⟩ := btw_ok hl
  obtain ⟨h3, h4⟩ := btw_ok h1
  refine row_ext h3 hl (fun k => ?_)
  rw [h4, h2]
  constructor
  · rintro ⟨h5, h6, h7⟩
    by_cases h8 : inR l k
    · exact h8
    · exact absurd ⟨h5, h6, h8⟩ h7
  · rintro ⟨x, hx, h5⟩
    have := hl.nrm.pos x hx
    have := hl.upto x hx
    have h6 := h5.1
    have h7 := h5.2
    exact ⟨by omega, by omega, fun h => h.2.2 ⟨x, hx, h5⟩⟩
end Go.Proofs.Ytkfoeijhhfaceaa
