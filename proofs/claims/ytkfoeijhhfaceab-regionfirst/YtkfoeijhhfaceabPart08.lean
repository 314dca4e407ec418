/-
  The first blocks that fit: the contract of region's Take.
-/
import Derived.Test.YtkfoeijhhfaceabPart07
namespace Go.Proofs.Ytkfoeijhhfaceab
open Go.RowKit Go.Shelf
attribute [local go_sem] Oper.semAt_some

def takeO (b : Int) (l : List Ext) (n : Int) : Ext × List Ext × Int :=
  if chkO b l ≠ 0 then ((0, 0), [], chkO b l) else if n < 1 then ((0, 0), [], 1) else match l.find? (fun x => decide (n ≤ x.2)) with
    | some x => ((x.1, n), wout l (x.1, n), 0)
    | none => ((0, 0), [], 101)
def TakePost (o : Ext × List Ext × Int) (w : World) (e : Ending) (w' : World) : Prop := ∃ v, e = .returned (.tuple #[.agg (extV o.1), v, .int .i64 o.2.2]) ∧ w'.ownsRow w.heap.size 29 2 v o.2.1.length (o.2.1.flatMap extC) ∧ Below w.heap.size w w'
theorem results_three {fn : Func} {p q r : Tmp} {tp tq tr : TypeId} (h : fn.results = #[.cell p tp, .cell q tq, .cell r tr]) (tmps : Array Value) (W : World) (A B C : Nat) (x y z : Value) (hp : tmps.getD p undef = .pointer (some ⟨A, 0, none⟩)) (hq : tmps.getD q undef = .pointer (some ⟨B, 0, none⟩)) (hr : tmps.getD r undef = .pointer (some ⟨C, 0, none⟩))
    (h1 : (loadVar tp ⟨A, 0, none⟩).run Try.prog W = .ok x W) (h2 : (loadVar tq ⟨B, 0, none⟩).run Try.prog W = .ok y W) (h3 : (loadVar tr ⟨C, 0, none⟩).run Try.prog W = .ok z W) : (results fn tmps).run Try.prog W = .ok (.tuple #[x, y, z]) W := by
  have hp' : tmps[p]?.getD undef = .pointer (some ⟨A, 0, none⟩) := by simpa using hp
  have hq' : tmps[q]?.getD undef = .pointer (some ⟨B, 0, none⟩) := by simpa using hq
  have hr' : tmps[r]?.getD undef = .pointer (some ⟨C, 0, none⟩) := by simpa using hr
  simp [results, h, hp', hq', hr', asAddr, h1, h2, h3, Sem.run_bind]
theorem load_ext {W : World} {B : Nat} {x : Ext} (h : Xb W B x) : (loadVar 29 ⟨B, 0, none⟩).run Try.prog W = .ok (.agg (extV x)) W := run_loadVar_row W B 29 29 (extV x) (0, 0) _ h Try.underlying29 rfl (by kernel_rfl)
/-- The three results, set. -/
def set3 (W : World) (A B C : Nat) (x y : Int) (u : Value) (v : Value) : World := (((W.setCell ⟨A, 0, none⟩ (.int .i64 x)).setCell ⟨A, 1, none⟩ (.int .i64 y)).setCell ⟨B, 0, none⟩ u).setCell ⟨C, 0, none⟩ v
theorem set3_ok {W : World} {A B C : Nat} {q : Ext} {ub vb : Value} {tb tc : TypeId} (hA : Xb W A q) (hB : Boxed W B tb ub) (hC : Boxed W C tc vb) (h1 : A ≠ B) (h2 : A ≠ C) (h3 : B ≠ C) (x y : Int) (u v : Value) :
    Xb (set3 W A B C x y u v) A (x, y) ∧ Boxed (set3 W A B C x y u v) B tb u ∧ Boxed (set3 W A B C x y u v) C tc v := by
  unfold set3
  have a1 := hA.put (x, y)
  dsimp only at a1
  have b1 : Boxed ((W.setCell ⟨A, 0, none⟩ (.int .i64 x)).setCell ⟨A, 1, none⟩ (.int .i64 y)) B tb ub := (Below.heap_setCell _ ⟨A, 1, none⟩ _ B (Ne.symm h1)).trans ((Below.heap_setCell _ ⟨A, 0, none⟩ _ B (Ne.symm h1)).trans hB)
  have c1 : Boxed ((W.setCell ⟨A, 0, none⟩ (.int .i64 x)).setCell ⟨A, 1, none⟩ (.int .i64 y)) C tc vb := (Below.heap_setCell _ ⟨A, 1, none⟩ _ C (Ne.symm h2)).trans ((Below.heap_setCell _ ⟨A, 0, none⟩ _ C (Ne.symm h2)).trans hC)
  exact ⟨(a1.other h1 u).other h2 v, (b1.set u).other h3 v, ((c1.other (Ne.symm h3) u)).set v⟩
theorem set3_bel {w W : World} {n : Nat} (h : Below n w W) {A B C : Nat} (hA : n ≤ A) (hB : n ≤ B) (hC : n ≤ C) (x y : Int) (u v : Value) : Below n w (set3 W A B C x y u v) :=
  (((h.setCell (p := ⟨A, 0, none⟩) hA _).setCell (p := ⟨A, 1, none⟩) hA _).setCell (p := ⟨B, 0, none⟩) hB _).setCell (p := ⟨C, 0, none⟩) hC _
def AllLt (n : Int) (p : List Ext) : Prop := ∀ x, x ∈ p → ¬ n ≤ x.2
theorem allLt_snoc {n : Int} {p : List Ext} {x : Ext} (h : AllLt n p) (hx : ¬ n ≤ x.2) : AllLt n (p ++ [x]) := fun y hy => by
  rcases List.mem_append.1 hy with hy | hy
  · exact h y hy
  · rw [List.mem_singleton] at hy
    subst hy
    exact hx
theorem find_all {n : Int} {l : List Ext} (h : AllLt n l) : l.find? (fun x => decide (n ≤ x.2)) = none := by
  rw [List.find?_eq_none]
  intro x hx
  simpa using h x hx
theorem find_cut {n : Int} {p m : List Ext} {x : Ext} (h : AllLt n p) (hx : n ≤ x.2) : (p ++ x :: m).find? (fun x => decide (n ≤ x.2)) = some x := by
  rw [List.find?_append, find_all h, List.find?_cons]
  simp [hx]

theorem own_set_other {w : World} {base e sz n g : Nat} {v : Value} {xs : List Value} (h : w.ownsRow base e sz v n xs) (hg : g < base) (i : Nat) (u : Value) : (w.setCell ⟨g, i, none⟩ u).ownsRow base e sz v n xs :=
  h.kept ⟨rfl, rfl, rfl, (KeepsWalks.setCell w _ u).size, fun k _ hk => Below.heap_setCell _ _ _ k (fun e => hk (by rw [e]))⟩ (.inr (fun e => by have := (own_block h g e).1; omega))
/-- What is behind a Take that finds. -/
def TkX (s : Nat) (n : Int) (l pre : List Ext) (W : World) : Prop := ∃ p x v, pre = p ++ [x] ∧ AllLt n p ∧ n ≤ x.2 ∧ Xb W (s + 1 + 1) (x.1, n) ∧ Boxed W (s + 1 + 1 + 1) 22 v ∧ W.ownsRow s 29 2 v (wout l (x.1, n)).length ((wout l (x.1, n)).flatMap extC) ∧ Boxed W (s + 1 + 1 + 1 + 1) 25 (.int .i64 0)
theorem TkX.own {s : Nat} {n : Int} {l pre : List Ext} {W W' : World} {k : Nat} {row : Option Nat} (h : TkX s n l pre W) (hg : W.grownBy W' row) (hr : ∀ r, row = some r → k ≤ r ∧ ∃ o : Obj, W.heap[r]? = some o ∧ o.isCells = false) : TkX s n l pre W' := by
  obtain ⟨p, x, v, h1, h2, h3, h4, h5, h6, h7⟩ := h
  exact ⟨p, x, v, h1, h2, h3, h4.own hg hr, box_own h5 hg hr, own_own h6 hg hr, box_own h7 hg hr⟩

set_option maxHeartbeats 6400000 in
set_option maxRecDepth 100000 in
theorem take_early (b : Int) (a : Option Addr) (cap : Nat) (l : List Ext) (n : Int) (w : World) (hr : Rx w a cap l) (c : Int) (hc : chkO b l = c) (err : Int) (hor : (c ≠ 0 ∧ err = c) ∨ (c = 0 ∧ n < 1 ∧ err = 1)) :
    Calls Try.prog 8 #[.int .i64 b, .slice a l.length cap, .int .i64 n] w (TakePost ((0, 0), [], err) w) := by
  unfold TakePost
  have hxB := (Bn (Bn (Bn (Bn (bel_alloc w (.cells #[.slice a l.length cap] 22)) (bel_alloc _ (.cells #[.int .i64 n] 3))) (bel_alloc _ (.cells #[.int .i64 0, .int .i64 0] 29))) (bel_alloc _ (.cells #[.slice none 0 0] 22))) (bel_alloc _ (.cells #[.int .i64 0] 25)))
  have x0 := (heap_old _ (.cells #[.int .i64 0] 25) (heap_old _ (.cells #[.slice none 0 0] 22) (heap_old _ (.cells #[.int .i64 0, .int .i64 0] 29) (heap_old _ (.cells #[.int .i64 n] 3) (heap_new w (.cells #[.slice a l.length cap] 22))))))
  have x1 := (heap_old _ (.cells #[.int .i64 0] 25) (heap_old _ (.cells #[.slice none 0 0] 22) (heap_old _ (.cells #[.int .i64 0, .int .i64 0] 29) (heap_new (w.alloc (.cells #[.slice a l.length cap] 22)) (.cells #[.int .i64 n] 3)))))
  have x2 := (heap_old _ (.cells #[.int .i64 0] 25) (heap_old _ (.cells #[.slice none 0 0] 22) (heap_new ((w.alloc (.cells #[.slice a l.length cap] 22)).alloc (.cells #[.int .i64 n] 3)) (.cells #[.int .i64 0, .int .i64 0] 29))))
  have x3 := (heap_old _ (.cells #[.int .i64 0] 25) (heap_new (((w.alloc (.cells #[.slice a l.length cap] 22)).alloc (.cells #[.int .i64 n] 3)).alloc (.cells #[.int .i64 0, .int .i64 0] 29)) (.cells #[.slice none 0 0] 22)))
  have x4 := (heap_new ((((w.alloc (.cells #[.slice a l.length cap] 22)).alloc (.cells #[.int .i64 n] 3)).alloc (.cells #[.int .i64 0, .int .i64 0] 29)).alloc (.cells #[.slice none 0 0] 22)) (.cells #[.int .i64 0] 25))
  have xS : (((((w.alloc (.cells #[.slice a l.length cap] 22)).alloc (.cells #[.int .i64 n] 3)).alloc (.cells #[.int .i64 0, .int .i64 0] 29)).alloc (.cells #[.slice none 0 0] 22)).alloc (.cells #[.int .i64 0] 25)).heap.size = w.heap.size + 1 + 1 + 1 + 1 + 1 := by simp only [World.size_alloc]
  simp only [World.size_alloc] at x1 x2 x3 x4
  have HX0 := hid x0
  have HX1 := hid x1
  have HX2 := hid x2
  have HX3 := hid x3
  have HX4 := hid x4
  have HXB := hid hxB
  have HXS := hid xS
  clear hxB x0 x1 x2 x3 x4 xS
  have HC := hid (check_any b a cap l (((((w.alloc (.cells #[.slice a l.length cap] 22)).alloc (.cells #[.int .i64 n] 3)).alloc (.cells #[.int .i64 0, .int .i64 0] 29)).alloc (.cells #[.slice none 0 0] 22)).alloc (.cells #[.int .i64 0] 25)) (hr.later HXB.out))
  rw [hc] at HC
  clear hc hr
  dsimp only
  rcases hor with ⟨h0, rfl⟩ | ⟨rfl, hn, rfl⟩
  · have hd : decide (err = 0) = false := decide_eq_false h0
    go_enter Try.func8, Try.ntmps8
    go_wp2_with fail
    refine HC.out.mono ?_
    rintro _ w1 ⟨rfl, hb1⟩
    generalize (((((w.alloc (.cells #[.slice a l.length cap] 22)).alloc (.cells #[.int .i64 n] 3)).alloc (.cells #[.int .i64 0, .int .i64 0] 29)).alloc (.cells #[.slice none 0 0] 22)).alloc (.cells #[.int .i64 0] 25)) = WA at *
    have k1 := box_later HX1.out hb1
    have k2 : Xb w1 (w.heap.size + 1 + 1) (0, 0) := (show Xb WA (w.heap.size + 1 + 1) (0, 0) from HX2.out).later hb1
    have k3 := box_later HX3.out hb1
    have k4 := box_later HX4.out hb1
    obtain ⟨s, hs⟩ : ∃ s, s = w.heap.size := ⟨_, rfl⟩
    rw [← hs] at k1 k2 k3 k4 ⊢
    have HB1 := hid (Bn HXB.out hb1)
    have c1 := k1.cell
    obtain ⟨c2, c2'⟩ := k2.cells
    have f2 := k2.frozen 0
    have f2' := k2.frozen 1
    have c3 := k3.cell
    have f3 := k3.frozen
    have c4 := k4.cell
    have f4 := k4.frozen
    have HR1 := hid (set3_ok k2 k3 k4 (by omega) (by omega) (by omega) 0 0 (.slice none 0 0) (.int .i64 err))
    have HB2 := hid (set3_bel HB1.out (A := s + 1 + 1) (B := s + 1 + 1 + 1) (C := s + 1 + 1 + 1 + 1) (by omega) (by omega) (by omega) 0 0 (.slice none 0 0) (.int .i64 err))
    dsimp only at c2 c2'
    unfold set3 at HR1 HB2
    have HHS := hid hs
    clear hb1 HC k1 k2 k3 k4 HX0 HX1 HX2 HX3 HX4 HXB HXS hs
    go_wp2
    refine bodyPost_ret (results_three rfl _ _ (s + 1 + 1) (s + 1 + 1 + 1) (s + 1 + 1 + 1 + 1) _ _ _ rfl rfl rfl (load_ext HR1.out.1) (load_box HR1.out.2.1 Try.underlying22 rfl) (load_box HR1.out.2.2 Try.underlying25 rfl)) rfl ?_
    exact ⟨_, rfl, ⟨rfl, .inl ⟨rfl, rfl⟩⟩, HB2.out⟩
  · have hd : decide (n < 1) = true := decide_eq_true hn
    go_enter Try.func8, Try.ntmps8
    go_wp2_with fail
    refine HC.out.mono ?_
    rintro _ w1 ⟨rfl, hb1⟩
    generalize (((((w.alloc (.cells #[.slice a l.length cap] 22)).alloc (.cells #[.int .i64 n] 3)).alloc (.cells #[.int .i64 0, .int .i64 0] 29)).alloc (.cells #[.slice none 0 0] 22)).alloc (.cells #[.int .i64 0] 25)) = WA at *
    have k1 := box_later HX1.out hb1
    have k2 : Xb w1 (w.heap.size + 1 + 1) (0, 0) := (show Xb WA (w.heap.size + 1 + 1) (0, 0) from HX2.out).later hb1
    have k3 := box_later HX3.out hb1
    have k4 := box_later HX4.out hb1
    obtain ⟨s, hs⟩ : ∃ s, s = w.heap.size := ⟨_, rfl⟩
    rw [← hs] at k1 k2 k3 k4 ⊢
    have HB1 := hid (Bn HXB.out hb1)
    have c1 := k1.cell
    obtain ⟨c2, c2'⟩ := k2.cells
    have f2 := k2.frozen 0
    have f2' := k2.frozen 1
    have c3 := k3.cell
    have f3 := k3.frozen
    have c4 := k4.cell
    have f4 := k4.frozen
    have HR1 := hid (set3_ok k2 k3 k4 (by omega) (by omega) (by omega) 0 0 (.slice none 0 0) (.int .i64 1))
    have HB2 := hid (set3_bel HB1.out (A := s + 1 + 1) (B := s + 1 + 1 + 1) (C := s + 1 + 1 + 1 + 1) (by omega) (by omega) (by omega) 0 0 (.slice none 0 0) (.int .i64 1))
    dsimp only at c2 c2'
    unfold set3 at HR1 HB2
    have HHS := hid hs
    clear hb1 HC k1 k2 k3 k4 HX0 HX1 HX2 HX3 HX4 HXB HXS hs
    go_wp2
    refine bodyPost_ret (results_three rfl _ _ (s + 1 + 1) (s + 1 + 1 + 1) (s + 1 + 1 + 1 + 1) _ _ _ rfl rfl rfl (load_ext HR1.out.1) (load_box HR1.out.2.1 Try.underlying22 rfl) (load_box HR1.out.2.2 Try.underlying25 rfl)) rfl ?_
    exact ⟨_, rfl, ⟨rfl, .inl ⟨rfl, rfl⟩⟩, HB2.out⟩

set_option maxHeartbeats 6400000 in
set_option maxRecDepth 100000 in
theorem take_main (b : Int) (a : Option Addr) (cap : Nat) (l : List Ext) (n : Int) (w : World) (hr : Rx w a cap l) (hc : chkO b l = 0) (hn : ¬ n < 1) :
    Calls Try.prog 8 #[.int .i64 b, .slice a l.length cap, .int .i64 n] w (TakePost (match l.find? (fun x => decide (n ≤ x.2)) with | some x => ((x.1, n), wout l (x.1, n), 0) | none => ((0, 0), [], 101)) w) := by
  obtain ⟨o, ho⟩ : ∃ o : Ext × List Ext × Int, o = (match l.find? (fun x => decide (n ≤ x.2)) with | some x => ((x.1, n), wout l (x.1, n), 0) | none => ((0, 0), [], 101)) := ⟨_, rfl⟩
  have HO := hid ho
  rw [← ho]
  clear ho
  unfold TakePost
  have HRW := hid (row_wide (chk_row hc))
  have hxB := (Bn (Bn (Bn (Bn (bel_alloc w (.cells #[.slice a l.length cap] 22)) (bel_alloc _ (.cells #[.int .i64 n] 3))) (bel_alloc _ (.cells #[.int .i64 0, .int .i64 0] 29))) (bel_alloc _ (.cells #[.slice none 0 0] 22))) (bel_alloc _ (.cells #[.int .i64 0] 25)))
  have x0 := (heap_old _ (.cells #[.int .i64 0] 25) (heap_old _ (.cells #[.slice none 0 0] 22) (heap_old _ (.cells #[.int .i64 0, .int .i64 0] 29) (heap_old _ (.cells #[.int .i64 n] 3) (heap_new w (.cells #[.slice a l.length cap] 22))))))
  have x1 := (heap_old _ (.cells #[.int .i64 0] 25) (heap_old _ (.cells #[.slice none 0 0] 22) (heap_old _ (.cells #[.int .i64 0, .int .i64 0] 29) (heap_new (w.alloc (.cells #[.slice a l.length cap] 22)) (.cells #[.int .i64 n] 3)))))
  have x2 := (heap_old _ (.cells #[.int .i64 0] 25) (heap_old _ (.cells #[.slice none 0 0] 22) (heap_new ((w.alloc (.cells #[.slice a l.length cap] 22)).alloc (.cells #[.int .i64 n] 3)) (.cells #[.int .i64 0, .int .i64 0] 29))))
  have x3 := (heap_old _ (.cells #[.int .i64 0] 25) (heap_new (((w.alloc (.cells #[.slice a l.length cap] 22)).alloc (.cells #[.int .i64 n] 3)).alloc (.cells #[.int .i64 0, .int .i64 0] 29)) (.cells #[.slice none 0 0] 22)))
  have x4 := (heap_new ((((w.alloc (.cells #[.slice a l.length cap] 22)).alloc (.cells #[.int .i64 n] 3)).alloc (.cells #[.int .i64 0, .int .i64 0] 29)).alloc (.cells #[.slice none 0 0] 22)) (.cells #[.int .i64 0] 25))
  have xS : (((((w.alloc (.cells #[.slice a l.length cap] 22)).alloc (.cells #[.int .i64 n] 3)).alloc (.cells #[.int .i64 0, .int .i64 0] 29)).alloc (.cells #[.slice none 0 0] 22)).alloc (.cells #[.int .i64 0] 25)).heap.size = w.heap.size + 1 + 1 + 1 + 1 + 1 := by simp only [World.size_alloc]
  simp only [World.size_alloc] at x1 x2 x3 x4
  have HX0 := hid x0
  have HX1 := hid x1
  have HX2 := hid x2
  have HX3 := hid x3
  have HX4 := hid x4
  have HXB := hid hxB
  have HXS := hid xS
  clear hxB x0 x1 x2 x3 x4 xS
  have HC := hid (check_any b a cap l (((((w.alloc (.cells #[.slice a l.length cap] 22)).alloc (.cells #[.int .i64 n] 3)).alloc (.cells #[.int .i64 0, .int .i64 0] 29)).alloc (.cells #[.slice none 0 0] 22)).alloc (.cells #[.int .i64 0] 25)) (hr.later HXB.out))
  rw [hc] at HC
  have HR := hid hr
  have hdn : decide (n < 1) = false := decide_eq_false hn
  clear hc hr
  refine (callsIn_wide (n := 10)).1 ?_
  refine callsIn_of_wp_marks Try.func8 rfl trivial ?_ rfl
  simp only [Try.ntmps8, List.size_toArray, List.length_cons, List.length_nil, Nat.reduceAdd, Nat.reduceSub, Array.replicate_succ, Array.replicate_zero, List.push_toArray, List.append_toArray, List.nil_append, List.cons_append]
  gi_wp2_with fail
  refine ⟨trivial, ?_⟩
  refine (callsIn_wide.2 HC.out).mono ?_
  rintro _ w1 ⟨rfl, hb1⟩
  generalize (((((w.alloc (.cells #[.slice a l.length cap] 22)).alloc (.cells #[.int .i64 n] 3)).alloc (.cells #[.int .i64 0, .int .i64 0] 29)).alloc (.cells #[.slice none 0 0] 22)).alloc (.cells #[.int .i64 0] 25)) = WA at *
  have k0 := box_later HX0.out hb1
  have k1 := box_later HX1.out hb1
  have k2 : Xb w1 (w.heap.size + 1 + 1) (0, 0) := (show Xb WA (w.heap.size + 1 + 1) (0, 0) from HX2.out).later hb1
  have k3 := box_later HX3.out hb1
  have k4 := box_later HX4.out hb1
  have HB1 := hid (Bn HXB.out hb1)
  have HSA : Hid (w.heap.size + 1 + 1 + 1 + 1 + 1 ≤ w1.heap.size) := by
    show _ ≤ _
    have h1 := hb1.size
    have h2 := HXS.out
    omega
  have c0 := k0.cell
  have c1 := k1.cell
  have K0 := hid k0
  have K1 := hid k1
  have K2 := hid k2
  have K3 := hid k3
  have K4 := hid k4
  clear hb1 HC k0 k1 k2 k3 k4 HX0 HX1 HX2 HX3 HX4 HXB HXS
  have hzB := (Bn (bel_alloc w1 (.cells #[.slice a l.length cap] 22)) (bel_alloc _ (.cells #[.slice (some ⟨w1.heap.size, 0, none⟩) 1 1] 42)))
  have z0 := (heap_old _ (.cells #[.slice (some ⟨w1.heap.size, 0, none⟩) 1 1] 42) (heap_new w1 (.cells #[.slice a l.length cap] 22)))
  have z1 := (heap_new (w1.alloc (.cells #[.slice a l.length cap] 22)) (.cells #[.slice (some ⟨w1.heap.size, 0, none⟩) 1 1] 42))
  have zS : ((w1.alloc (.cells #[.slice a l.length cap] 22)).alloc (.cells #[.slice (some ⟨w1.heap.size, 0, none⟩) 1 1] 42)).heap.size = w1.heap.size + 1 + 1 := by simp only [World.size_alloc]
  simp only [World.size_alloc] at z1
  have HZ0 := hid z0
  have HZ1 := hid z1
  have HZB := hid hzB
  have HZS := hid zS
  clear hzB z0 z1 zS
  gi_wp2_with fail
  refine ⟨trivial, ?_⟩
  refine (callsIn_wide.2 (each_word _ 1 1 _)).mono ?_
  rintro _ w4 ⟨rfl, hw4⟩
  simp only [World.size_alloc] at hw4 ⊢
  subst hw4
  gi_wp2_with fail
  generalize ((w1.alloc (.cells #[.slice a l.length cap] 22)).alloc (.cells #[.slice (some ⟨w1.heap.size, 0, none⟩) 1 1] 42)) = W5 at *
  have j0 := box_later K0.out HZB.out
  have j1 := box_later K1.out HZB.out
  have j2 := K2.out.later HZB.out
  have j3 := box_later K3.out HZB.out
  have j4 := box_later K4.out HZB.out
  have hR1 := HR.out.later HB1.out
  have hR5 := hR1.later HZB.out
  have hsz5 := HZS.out
  have hsA := HSA.out
  have HB5 := hid (Bn HB1.out HZB.out)
  obtain ⟨s, hs⟩ : ∃ s, s = w.heap.size := ⟨_, rfl⟩
  rw [← hs] at j0 j1 j2 j3 j4 hsA ⊢
  clear K0 K1 K2 K3 K4 c0 c1
  obtain ⟨t, ht⟩ : ∃ t, t = w1.heap.size := ⟨_, rfl⟩
  rw [← ht] at HZ0 HZ1 hsz5 hsA ⊢
  refine range_each (d := 10) Ok [(a, cap, l)] (fun i => i = s + 1 + 1 ∨ i = s + 1 + 1 + 1 ∨ i = s + 1 + 1 + 1 + 1) s t (t + 1) 1
    (Ro.one HZ0.out ⟨by omega, by omega⟩ hR5 (HR.out.kept (by omega) (by rw [← hs]; rintro i (rfl | rfl | rfl) <;> omega))) (by rw [flat_one]; exact row_ok HRW.out) (by simp) (by simp) HZ1.out rfl (by omega)
    (fun pre W => Boxed W s 22 (.slice a l.length cap) ∧ Boxed W (s + 1) 3 (.int .i64 n) ∧ Xb W (s + 1 + 1) (0, 0) ∧ Boxed W (s + 1 + 1 + 1) 22 (.slice none 0 0) ∧ Boxed W (s + 1 + 1 + 1 + 1) 25 (.int .i64 0) ∧ AllLt n pre)
    (fun c pre W => c = .ret ∧ TkX s n l pre W)
    (fun pre W W' row h hg hr => ⟨box_own h.1 hg hr, box_own h.2.1 hg hr, h.2.2.1.own hg hr, box_own h.2.2.2.1 hg hr, box_own h.2.2.2.2.1 hg hr, h.2.2.2.2.2⟩)
    (fun c pre W W' row h hg hr => ⟨h.1, h.2.own hg hr⟩)
    ⟨j0, j1, j2, j3, j4, fun x hx => by cases hx⟩ ?assign ?body ?done ?stop
  case assign =>
    intro ll y z W K hK
    simp only [List.setIfInBounds_toArray, List.set_cons_zero, List.set_cons_succ] at hK ⊢
    gi_wp2
    exact hK
  case body =>
    rintro ll pre y z B W ⟨h0, h1, h2, h3, h4, h5⟩ ⟨p1, p2, p3⟩ _ _ hX hsW hBW
    dsimp only at p1 p2 p3
    have HHS := hid hs
    have HHT := hid ht
    have HSW := hid hsW
    have HS5 := hid hsz5
    have HSA2 := hid hsA
    have H0 := hid h0
    have H1 := hid h1
    have H2 := hid h2
    have H3 := hid h3
    have H4 := hid h4
    have H5 := hid h5
    have d1 := h1.cell
    obtain ⟨c0, c1⟩ := hX.cells
    dsimp only at c0 c1
    have HRW2 := hid (HR.out.later (HB5.out.trans (by rw [← hs]; exact hBW)))
    clear hs hsW hsz5 HZ0 HZ1 h0 h1 h2 h3 h4 h5 hX j0 j1 j2 j3 j4 hR5 hR1 hsA ht hBW
    simp only [List.setIfInBounds_toArray, List.set_cons_zero, List.set_cons_succ]
    by_cases hit : n ≤ z
    · have hA := bel_alloc W (.cells #[.int .i64 y, .int .i64 n] 29)
      have HF : Hid (Xb (W.alloc (.cells #[.int .i64 y, .int .i64 n] 29)) W.heap.size (y, n)) := heap_new W _
      have HA := hid hA
      clear hA
      gi_wp2_with fail
      rename_i K0 hK0
      refine Go.wpIn_mono (Q := Exit.then K0 (fun _ _ _ => False)) ?_ (fun e a' w' h => by cases e <;> first | exact h | exact h.elim)
      obtain ⟨Bf, hBf⟩ : ∃ B, B = W.heap.size := ⟨_, rfl⟩
      have HBF := hid hBf
      rw [← hBf] at HF ⊢
      clear hBf
      generalize W.alloc (.cells #[.int .i64 y, .int .i64 n] 29) = W1 at *
      have H0a := hid (box_later H0.out HA.out)
      refine round_held (S := fun V => Xb V Bf (y, n) ∧ Boxed V s 22 (.slice a l.length cap) ∧ (∃ q, Xb V (s + 1 + 1) q) ∧ (∃ q, Boxed V (s + 1 + 1 + 1) 22 q) ∧ (∃ q, Boxed V (s + 1 + 1 + 1 + 1) 25 q)) (by kernel_rfl) (by kernel_rfl) (fun _ _ h => h) ⟨HF.out, H0a.out, ⟨_, H2.out.later HA.out.drew⟩, ⟨_, box_later H3.out HA.out.drew⟩, ⟨_, box_later H4.out HA.out.drew⟩⟩ (fun hS0 => ?_)
      have HZ0 : Hid (Below W.heap.size W W1.drew) := HA.out.drew
      refine Ord.take (i := 0) (d := 34) (v := .agg #[.int .i64 y, .int .i64 n]) rfl rfl (by as_aux_lemma => kernel_rfl) (by as_aux_lemma => kernel_rfl) (by as_aux_lemma => kernel_rfl) (fun _ _ _ h => h) (by rfl) ?hA0 (by assumption) ?_
      case hA0 => intro w hSw; have e := hSw.1.cells.1; have e' := hSw.1.cells.2; go_simp; try with_reducible rfl
      simp only [List.setIfInBounds_toArray, List.set_cons_zero, List.set_cons_succ]
      refine Ord.take (i := 1) (d := 35) (v := .slice a l.length cap) rfl rfl (by as_aux_lemma => kernel_rfl) (by as_aux_lemma => kernel_rfl) (by as_aux_lemma => kernel_rfl) (fun _ _ _ h => h) (by rfl) ?hA1 (by assumption) ?_
      case hA1 => intro w hSw; have e := hSw.2.1.cell; go_simp; try with_reducible rfl
      simp only [List.setIfInBounds_toArray, List.set_cons_zero, List.set_cons_succ]
      refine Ord.take (i := 2) (d := 36) (v := .agg #[.int .i64 y, .int .i64 n]) rfl rfl (by as_aux_lemma => kernel_rfl) (by as_aux_lemma => kernel_rfl) (by as_aux_lemma => kernel_rfl) (fun _ _ _ h => h) (by rfl) ?hA2 (by assumption) ?_
      case hA2 => intro w hSw; have e := hSw.1.cells.1; have e' := hSw.1.cells.2; go_simp; try with_reducible rfl
      simp only [List.setIfInBounds_toArray, List.set_cons_zero, List.set_cons_succ]
      have HWO := hid (without_word y n a cap l W1.drew (HRW2.out.later HZ0.out) HRW.out p1 (by omega) (by omega))
      unfold RowPost at HWO
      refine wpAnyH_ready (rs := [3]) (by as_aux_lemma => kernel_rfl) (by simp) (AllReadyH.cons rfl (fun K hK => ?_) AllReadyH.nil)
      go_simp
      refine HWO.out.mono ?_
      rintro _ v1 ⟨rv, rfl, hown, hbv⟩
      have hS1 := And.intro (hS0.1.later hbv) (box_later hS0.2.1 hbv)
      have x2 := H2.out.later (Bn HZ0.out hbv)
      have x3 := box_later H3.out (Bn HZ0.out hbv)
      have x4 := box_later H4.out (Bn HZ0.out hbv)
      have HV1 := hid (Bn HZ0.out hbv)
      have HOW := hid (own_base hown (show W.heap.size ≤ W1.drew.heap.size from HZ0.out.size))
      obtain ⟨ra, rc, rfl⟩ : ∃ ra rc, rv = .slice ra (wout l (y, n)).length rc := by
        rcases hown.2 with ⟨rfl, h0⟩ | ⟨g, cap, _, rfl, _⟩
        · exact ⟨none, 0, by rw [h0]⟩
        · exact ⟨_, _, rfl⟩
      refine hK.out _ _ ⟨hS1.1, hS1.2, ⟨_, x2⟩, ⟨_, x3⟩, ⟨_, x4⟩⟩ (fun _ => ?_)
      clear hK K hown hbv
      try simp only [List.setIfInBounds_toArray, List.set_cons_zero, List.set_cons_succ]
      have hne : Bf ≠ s + 1 + 1 ∧ Bf ≠ s + 1 + 1 + 1 ∧ Bf ≠ s + 1 + 1 + 1 + 1 := by
        have h1 := HBF.out; have h2 := HSW.out; have h3 := HS5.out; have h4 := HSA2.out
        omega
      have HS3 := hid (set3_ok x2 x3 x4 (by omega) (by omega) (by omega) y n (.slice ra (wout l (y, n)).length rc) (.int .i64 0))
      unfold set3 at HS3
      obtain ⟨rl, hrl⟩ : ∃ rl, rl = (wout l (y, n)).length := ⟨_, rfl⟩
      rw [← hrl] at HS3 HOW ⊢
      have HRL := hid hrl
      clear hrl
      obtain ⟨g0, g1⟩ := x2.cells
      have f0 := x2.frozen 0
      have f1 := x2.frozen 1
      have y2 := x2.put (y, n)
      dsimp only at g0 g1 y2
      have hX1 := (hS1.1.other (i := 0) hne.1 (.int .i64 y)).other (i := 1) hne.1 (.int .i64 n)
      have hB1 := (hS1.2.other (B' := s + 1 + 1) (by omega) (.int .i64 y))
      have hB1' : Boxed ((v1.setCell ⟨s + 1 + 1, 0, none⟩ (.int .i64 y)).setCell ⟨s + 1 + 1, 1, none⟩ (.int .i64 n)) s 22 (.slice a l.length cap) := (Below.heap_setCell _ ⟨s + 1 + 1, 1, none⟩ _ s (by show s ≠ s + 1 + 1; omega)).trans hB1
      have y3 : Boxed ((v1.setCell ⟨s + 1 + 1, 0, none⟩ (.int .i64 y)).setCell ⟨s + 1 + 1, 1, none⟩ (.int .i64 n)) (s + 1 + 1 + 1) 22 (.slice none 0 0) := (Below.heap_setCell _ ⟨s + 1 + 1, 1, none⟩ _ _ (by show s + 1 + 1 + 1 ≠ s + 1 + 1; omega)).trans ((Below.heap_setCell _ ⟨s + 1 + 1, 0, none⟩ _ _ (by show s + 1 + 1 + 1 ≠ s + 1 + 1; omega)).trans x3)
      have y4 : Boxed ((v1.setCell ⟨s + 1 + 1, 0, none⟩ (.int .i64 y)).setCell ⟨s + 1 + 1, 1, none⟩ (.int .i64 n)) (s + 1 + 1 + 1 + 1) 25 (.int .i64 0) := (Below.heap_setCell _ ⟨s + 1 + 1, 1, none⟩ _ _ (by show s + 1 + 1 + 1 + 1 ≠ s + 1 + 1; omega)).trans ((Below.heap_setCell _ ⟨s + 1 + 1, 0, none⟩ _ _ (by show s + 1 + 1 + 1 + 1 ≠ s + 1 + 1; omega)).trans x4)
      refine wpAnyH_ready (rs := [4]) (by as_aux_lemma => kernel_rfl) (by simp) (AllReadyH.cons rfl (fun K hK => ?_) AllReadyH.nil)
      go_simp
      refine hK.out _ _ ⟨hX1, hB1', ⟨_, y2⟩, ⟨_, y3⟩, ⟨_, y4⟩⟩ (fun _ => ?_)
      clear hK K
      have g3 := y3.cell
      have f3 := y3.frozen
      refine wpAnyH_ready (rs := [5]) (by as_aux_lemma => kernel_rfl) (by simp) (AllReadyH.cons rfl (fun K hK => ?_) AllReadyH.nil)
      go_simp
      refine hK.out _ _ ⟨hX1.other hne.2.1 _, hB1'.other (by omega) _, ⟨_, y2.other (by omega) _⟩, ⟨_, y3.set _⟩, ⟨_, y4.other (by omega) _⟩⟩ (fun _ => ?_)
      clear hK K
      have z4 := y4.other (B' := s + 1 + 1 + 1) (by omega) (.slice ra rl rc)
      have g4 := z4.cell
      have f4 := z4.frozen
      refine wpAnyH_ready (rs := [6]) (by as_aux_lemma => kernel_rfl) (by simp) (AllReadyH.cons rfl (fun K hK => ?_) AllReadyH.nil)
      go_simp
      refine hK.out _ _ ⟨(hX1.other hne.2.1 _).other hne.2.2 _, (hB1'.other (by omega) _).other (by omega) _, ⟨_, (y2.other (by omega) _).other (by omega) _⟩, ⟨_, (y3.set _).other (by omega) _⟩, ⟨_, z4.set _⟩⟩ (fun _ => ?_)
      clear hK K
      refine wpAnyH_done (by as_aux_lemma => kernel_rfl) ?_ _
      refine hK0 _ _ ?_
      have HV2 : Hid (Fb s W5.heap.size (fun i => i = s + 1 + 1 ∨ i = s + 1 + 1 + 1 ∨ i = s + 1 + 1 + 1 + 1) W ((((v1.setCell ⟨s + 1 + 1, 0, none⟩ (.int .i64 y)).setCell ⟨s + 1 + 1, 1, none⟩ (.int .i64 n)).setCell ⟨s + 1 + 1 + 1, 0, none⟩ (.slice ra rl rc)).setCell ⟨s + 1 + 1 + 1 + 1, 0, none⟩ (.int .i64 0))) :=
        ((((Fb.below HV1.out (by have := HS5.out; have := HSA2.out; omega) HSW.out).trans (Fb.set _ _ (by omega) (.inl (.inl rfl)))).trans (Fb.set _ _ (by omega) (.inl (.inl rfl)))).trans (Fb.set _ _ (by omega) (.inl (.inr (.inl rfl))))).trans (Fb.set _ _ (by omega) (.inl (.inr (.inr rfl))))
      have HOE : Hid (((((v1.setCell ⟨s + 1 + 1, 0, none⟩ (.int .i64 y)).setCell ⟨s + 1 + 1, 1, none⟩ (.int .i64 n)).setCell ⟨s + 1 + 1 + 1, 0, none⟩ (.slice ra rl rc)).setCell ⟨s + 1 + 1 + 1 + 1, 0, none⟩ (.int .i64 0)).ownsRow s 29 2 (.slice ra rl rc) rl ((wout l (y, n)).flatMap extC)) := by
        have hlow : W5.heap.size ≤ W.heap.size := HSW.out
        have e5 := HS5.out
        have eA := HSA2.out
        exact own_base (own_set_other (own_set_other (own_set_other (own_set_other HOW.out (by omega) _ _) (by omega) _ _) (by omega) _ _) (by omega) _ _) (by omega)
      clear g0 g1 f0 f1 g3 f3 g4 f4 hK0 K0
      gi_wp2_with fail
      refine ⟨HV2.out, rfl, pre, (y, z), .slice ra rl rc, rfl, H5.out, hit, HS3.out.1, HS3.out.2.1, ?_, HS3.out.2.2⟩
      rw [← HRL.out]
      exact HOE.out
    · have hd : decide (n ≤ z) = false := decide_eq_false hit
      gi_wp2_with fail
      exact ⟨Fb.refl _ _ _ _, H0.out, H1.out, H2.out, H3.out, H4.out, allLt_snoc H5.out (by dsimp only; omega)⟩
  case done =>
    rintro D W hD ⟨h0, h1, h2, h3, h4, h5⟩ hB hd
    rw [flat_one] at h5
    have ho := HO.out
    rw [find_all h5] at ho
    dsimp only at ho
    subst ho
    have HR1 := hid (set3_ok h2 h3 h4 (by omega) (by omega) (by omega) 0 0 (.slice none 0 0) (.int .i64 101))
    have HB2 := hid (set3_bel ((HB5.out.mono (by omega)).trans hB) (A := s + 1 + 1) (B := s + 1 + 1 + 1) (C := s + 1 + 1 + 1 + 1) (by omega) (by omega) (by omega) 0 0 (.slice none 0 0) (.int .i64 101))
    have HD2 : Hid ((set3 W (s + 1 + 1) (s + 1 + 1 + 1) (s + 1 + 1 + 1 + 1) 0 0 (.slice none 0 0) (.int .i64 101)).heap[D]? = some (.deferred (some []))) := by
      have e1 : D ≠ s + 1 + 1 := by omega
      have e2 : D ≠ s + 1 + 1 + 1 := by omega
      have e3 : D ≠ s + 1 + 1 + 1 + 1 := by omega
      exact (Below.heap_setCell _ ⟨s + 1 + 1 + 1 + 1, 0, none⟩ _ D e3).trans ((Below.heap_setCell _ ⟨s + 1 + 1 + 1, 0, none⟩ _ D e2).trans ((Below.heap_setCell _ ⟨s + 1 + 1, 1, none⟩ _ D e1).trans ((Below.heap_setCell _ ⟨s + 1 + 1, 0, none⟩ _ D e1).trans hd)))
    obtain ⟨c2, c2'⟩ := h2.cells
    have f2 := h2.frozen 0
    have f2' := h2.frozen 1
    have c3 := h3.cell
    have f3 := h3.frozen
    have c4 := h4.cell
    have f4 := h4.frozen
    dsimp only at c2 c2'
    unfold set3 at HR1 HB2 HD2
    have HHS := hid hs
    have HDD := hid hD
    have HS5 := hid hsz5
    have HSA2 := hid hsA
    clear h0 h1 h2 h3 h4 h5 hd hB hD hs hsz5 hsA ht HZ0 HZ1 j0 j1 j2 j3 j4 hR5 hR1
    gi_wp2_with fail
    refine ⟨by simp, .inl ⟨_, _, rfl, run_takeDeferred HD2.out, ?_⟩⟩
    refine ⟨_, results_three rfl _ _ (s + 1 + 1) (s + 1 + 1 + 1) (s + 1 + 1 + 1 + 1) _ _ _ rfl rfl rfl (load_ext (putObj_cells (o := .deferred none) HR1.out.1 HD2.out)) (load_box (putObj_cells (o := .deferred none) HR1.out.2.1 HD2.out) Try.underlying22 rfl) (load_box (putObj_cells (o := .deferred none) HR1.out.2.2 HD2.out) Try.underlying25 rfl), _, rfl, ⟨rfl, .inl ⟨rfl, rfl⟩⟩, ?_⟩
    have hs := HHS.out
    have := HDD.out
    have := HS5.out
    have := HSA2.out
    rw [← hs]
    exact HB2.out.trans (belowK_b (w := w) (by omega) _ D _ _ (by omega) HD2.out rfl rfl)
  case stop =>
    rintro D c pre W hD hpre ⟨rfl, p, x, v, rfl, h2, h3, h4, h5, h6, h7⟩ hB hd
    rw [flat_one] at hpre
    have ho := HO.out
    have hfd : l.find? (fun x => decide (n ≤ x.2)) = some x := by
      obtain ⟨m, hm⟩ := hpre
      rw [← hm, List.append_assoc, show p ++ ([x] ++ m) = p ++ x :: m from rfl]
      exact find_cut h2 h3
    rw [hfd] at ho
    dsimp only at ho
    subst ho
    have HB2 := hid ((HB5.out.mono (by omega)).trans hB)
    have H4 := hid h4
    have H5 := hid h5
    have H6 := hid h6
    have H7 := hid h7
    have HD2 := hid hd
    have HHS := hid hs
    have HDD := hid hD
    have HS5 := hid hsz5
    have HSA2 := hid hsA
    clear h2 h3 h4 h5 h6 h7 hd hB hD hs hsz5 hsA ht HZ0 HZ1 j0 j1 j2 j3 j4 hR5 hR1 hpre hfd
    gi_wp2_with fail
    refine ⟨by simp, .inl ⟨_, _, rfl, run_takeDeferred HD2.out, ?_⟩⟩
    refine ⟨_, results_three rfl _ _ (s + 1 + 1) (s + 1 + 1 + 1) (s + 1 + 1 + 1 + 1) _ _ _ rfl rfl rfl (load_ext (putObj_cells (o := .deferred none) H4.out HD2.out)) (load_box (putObj_cells (o := .deferred none) H5.out HD2.out) Try.underlying22 rfl) (load_box (putObj_cells (o := .deferred none) H7.out HD2.out) Try.underlying25 rfl), v, rfl, ?_, ?_⟩
    · rw [← HHS.out]
      exact ownsRow_putObj H6.out _ HD2.out rfl
    have hs := HHS.out
    have := HDD.out
    have := HS5.out
    have := HSA2.out
    rw [← hs]
    exact HB2.out.trans (belowK_b (w := w) (by omega) _ D _ _ (by omega) HD2.out rfl rfl)
theorem take_word (b : Int) (a : Option Addr) (cap : Nat) (l : List Ext) (n : Int) (w : World) (hr : Rx w a cap l) : Calls Try.prog 8 #[.int .i64 b, .slice a l.length cap, .int .i64 n] w (TakePost (takeO b l n) w) := by
  unfold takeO
  by_cases h0 : chkO b l = 0
  · by_cases hn : n < 1
    · rw [if_neg (by simp [h0]), if_pos hn]
      exact take_early b a cap l n w hr 0 h0 1 (.inr ⟨rfl, hn, rfl⟩)
    · rw [if_neg (by simp [h0]), if_neg hn]
      exact take_main b a cap l n w hr h0 hn
  · rw [if_pos h0]
    exact take_early b a cap l n w hr (chkO b l) rfl (chkO b l) (.inl ⟨h0, rfl⟩)
end Go.Proofs.Ytkfoeijhhfaceab
