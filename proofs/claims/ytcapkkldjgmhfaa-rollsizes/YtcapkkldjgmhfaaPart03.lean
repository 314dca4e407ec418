/-
  The contract of the statements' awake.
-/
import Derived.Test.YtcapkkldjgmhfaaPart02
import Derived.Lib.SlBytesConst
namespace Go.Proofs.Ytcapkkldjgmhfaa
open Go.RowKit

theorem lit_ri (w : World) (zs : List Int) (m : Nat × Nat) (n : Nat) (hn : n = zs.length) (hm : n ≤ 1000) (hf : ∀ z ∈ zs, 0 ≤ z ∧ z ≤ 255) : Ri (w.alloc (.cells (zs.map (Value.int .u8)).toArray 5 m)) .u8 (some ⟨w.heap.size, 0, none⟩) n zs := by
  subst hn
  refine ⟨Nat.le_refl _, by unfold maxLen; omega, fun _ => ⟨w.heap.size, 0, rfl, by simp, fun j hj => ?_⟩, fun j => ?_⟩
  · have := Joins.cell_of_block (heap_new w (.cells (zs.map (Value.int .u8)).toArray 5 m)) j
    rw [Nat.zero_add]
    refine this.trans ?_
    simp [List.getD, List.getElem?_eq_getElem hj]
  · by_cases hj : j < zs.length
    · have hm : zs.getD j 0 ∈ zs := by
        simp only [List.getD, List.getElem?_eq_getElem hj, Option.getD_some]
        exact List.getElem_mem hj
      have := hf _ hm
      exact wf_mk_u8 this.1 this.2
    · rw [getD_out _ _ (by omega)]; exact wf_zero _
def s7 : List Int := [49, 50, 51, 52, 53, 54, 55]
theorem s7_cut : cutO 2 3 0 s7 = ([2, 2, 2, 1], 0) := by decide +kernel

set_option maxHeartbeats 3200000 in
set_option maxRecDepth 100000 in
theorem awake_any (w : World) : Calls Try.prog 16 #[] w fun e w' => e = .returned (.bool true) ∧ Below w.heap.size w w' := by
  have hC := cuts_word 2 3 0 (some ⟨w.heap.size, 0, none⟩) 7 s7 _ (lit_ri w s7 (7, 8) 7 rfl (by omega) (by decide))
  unfold CutPost at hC
  rw [s7_cut] at hC
  have HC : Hid (Calls Try.prog 19 #[.agg #[.int .i64 2, .int .i64 3, .int .i64 0], .slice (some ⟨w.heap.size, 0, none⟩) 7 7] (w.alloc (.cells #[.int .u8 49, .int .u8 50, .int .u8 51, .int .u8 52, .int .u8 53, .int .u8 54, .int .u8 55] 5 (7, 8))) fun e w' =>
    ∃ v, e = .returned (.tuple #[v, .int .i64 0]) ∧ w'.ownsRow (w.heap.size + 1) 3 1 v 4 [.int .i64 2, .int .i64 2, .int .i64 2, .int .i64 1] ∧ Below w.heap.size w w') := by
    refine Calls.mono hC ?_
    rintro e w' ⟨v, h1, h2, h3⟩
    rw [World.size_alloc] at h2
    exact ⟨v, h1, h2, Bn (bel_alloc w _) h3⟩
  have kc := Lib.run_convert_bytes_const (P := Try.prog) w 25 5 #[.int .u8 49, .int .u8 50, .int .u8 51, .int .u8 52, .int .u8 53, .int .u8 54, .int .u8 55] 7 7 Try.underlying25 Try.underlying5
  simp only [List.size_toArray, List.length_cons, List.length_nil, Nat.reduceAdd] at kc
  have HG := hid (fun W => gear_word 0 W (by omega) (by omega))
  have HGR := hid (fun W => gear_ref 0 W (by omega) (by omega))
  clear hC
  go_enter Try.func16, Try.ntmps16
  go_wp2_with fail
  refine HC.out.mono ?_
  rintro _ w1 ⟨v, rfl, hown, hb⟩
  obtain ⟨g, cap, rfl⟩ := ownsRow_succ hown
  have c0 := hown.cellAt 0 (by omega)
  have c3 := hown.cellAt 3 (by omega)
  simp only [List.getElem?_cons_zero, List.getElem?_cons_succ] at c0 c3
  have HB := hid hb
  clear hown hb HC kc
  generalize gearZ 0 = gz at *
  have hgg : (gz == gz) = true := by simp
  go_wp2_with fail
  refine (HG.out w1).mono ?_
  rintro _ w2 ⟨rfl, hw⟩
  obtain rfl := hw.symm
  go_wp2_with fail
  refine (HGR.out w1).mono ?_
  rintro _ w3 ⟨rfl, hw3⟩
  obtain rfl := hw3.symm
  go_wp2_with fail
  go_ret
  exact ⟨rfl, HB.out⟩
end Go.Proofs.Ytcapkkldjgmhfaa
/-
  Arguments that are settings.
-/
namespace Go.Proofs.Ytcapkkldjgmhfaa
open Go.ChangeShapes Go.WideShapes Go.ChangeAt Go.RowKit

theorem wf_u64 {x : Int} (h : (Lit.int .u64 x).wf = true) : 0 ≤ x ∧ x < 18446744073709551616 := by
  have h1 : IntKind.u64.min = 0 := rfl
  have h2 : IntKind.u64.max = 18446744073709551615 := rfl
  simp only [Lit.wf, Bool.and_eq_true, decide_eq_true_eq] at h
  omega
theorem Try.cells23 : Try.prog.cellsOf 23 = 3 := by kernel_rfl
theorem open_conf {H : Type} {enc : TypeId × Value → H} {W : World} {base : Nat} {v : Value} {d : DataW H} {p : List MemPlace} (hv : Value.okWide Try.prog W .any base 23 v) (h : DataW.Trod enc Try.prog W 0 (fun _ => true) true 23 v d p) : ∃ l m b : Int, v = .agg #[.int .i64 l, .int .i64 m, .int .i64 b] := by
  obtain ⟨v0, v1, v2, y0, y1, y2, n, rfl, _, _, g0, g1, g2⟩ := Joins.open_agg3 Try.underlying23 (by kernel_rfl) Try.cells23 hv h
  obtain ⟨z0, e0, _, _⟩ := DataW.trod_int Try.underlying3 g0
  obtain ⟨z1, e1, _, _⟩ := DataW.trod_int Try.underlying3 g1
  obtain ⟨z2, e2, _, _⟩ := DataW.trod_int Try.underlying3 g2
  have e0' : v0 = .int .i64 z0 := by simpa using e0
  have e1' : v1 = .int .i64 z1 := by simpa using e1
  have e2' : v2 = .int .i64 z2 := by simpa using e2
  subst e0' e1' e2'
  exact ⟨z0, z1, z2, rfl⟩
end Go.Proofs.Ytcapkkldjgmhfaa
/-
  Plain facts on the chunks of a row.
-/
namespace Go.Proofs.Ytcapkkldjgmhfaa

theorem with_most {l m b : Int} : ∀ (bs : List Int) (s h : Int), s < m → (withL l m b s h bs).1 ≤ m
  | [], s, h, hs => by rw [withL]; dsimp only; omega
  | x :: r, s, h, hs => by
    rw [withL]
    split
    · dsimp only; omega
    · rename_i he
      have hne := not_end he
      exact with_most r (s + 1) _ (by omega)
theorem with_end {l m b : Int} : ∀ (bs : List Int) (s h : Int), (withL l m b s h bs).1 < s + (bs.length : Int) → endB l m b (withL l m b s h bs).1 (withL l m b s h bs).2 = true
  | [], s, h, hs => by rw [withL] at hs; simp at hs
  | x :: r, s, h, hs => by
    rw [withL] at hs ⊢
    split
    · rename_i he; exact he
    · rename_i he
      rw [if_neg he, List.length_cons] at hs
      exact with_end r (s + 1) _ (by omega)
theorem end_least {l m b n h : Int} (hlm : l ≤ m) (he : endB l m b n h = true) : l ≤ n := by
  unfold endB at he
  rw [Bool.or_eq_true, beq_iff_eq, Bool.and_eq_true, decide_eq_true_eq] at he
  rcases he with rfl | he
  · exact hlm
  · exact he.1
def sumC : List Pt → Nat
  | [] => 0
  | x :: r => x.2.1 + sumC r
theorem parts_facts {l m b : Int} (hc : chkC l m b = 0) : ∀ (f st : Nat) (bs : List Int), bs.length ≤ f →
    (∀ x ∈ partsF l m b f st bs, 1 ≤ x.2.1 ∧ (x.2.1 : Int) ≤ m ∧ x.2.1 ≤ bs.length) ∧ sumC (partsF l m b f st bs) = bs.length ∧ (∀ i, i + 1 < (partsF l m b f st bs).length → l ≤ (((partsF l m b f st bs).map fun x => (x.2.1 : Int)).getD i 0))
  | 0, st, bs, hf => by
    have : bs = [] := List.eq_nil_of_length_eq_zero (by omega)
    subst this
    simp [partsF, sumC]
  | f + 1, st, [], hf => by simp [partsF, sumC]
  | f + 1, st, x :: r, hf => by
    obtain ⟨k1, k2, k3, k4, k5⟩ := chkC_ok hc
    have h1 := with_cnt l m b (x :: r) 0 0
    have h2 := h1.2.2 (by simp)
    have h3 := with_most (l := l) (m := m) (b := b) (x :: r) 0 0 (by omega)
    have h4 := with_end (l := l) (m := m) (b := b) (x :: r) 0 0
    rw [partsF]
    generalize withL l m b 0 0 (x :: r) = R at *
    obtain ⟨n, hn⟩ : ∃ n, n = R.1.toNat := ⟨_, rfl⟩
    rw [← hn]
    have hnz : R.1 = (n : Int) := by omega
    have hdl : ((x :: r).drop n).length = (x :: r).length - n := List.length_drop
    obtain ⟨i1, i2, i3⟩ := parts_facts hc f (st + n) ((x :: r).drop n) (by rw [hdl]; omega)
    refine ⟨fun y hy => ?_, ?_, fun i hi => ?_⟩
    · rcases List.mem_cons.1 hy with rfl | hy
      · dsimp only; omega
      · have := i1 y hy; rw [hdl] at this; omega
    · rw [sumC, i2, hdl]; dsimp only; omega
    · cases i with
      | zero =>
        rw [List.map_cons, List.getD_cons_zero]
        dsimp only
        rw [← hnz]
        refine end_least k2 (h4 ?_)
        have hne : 0 < (partsF l m b f (st + n) ((x :: r).drop n)).length := by simp at hi; omega
        have hpl := parts_len l m b f (st + n) ((x :: r).drop n)
        rw [hdl] at hpl
        omega
      | succ i =>
        rw [List.map_cons, List.getD_cons_succ]
        refine i3 i ?_
        rw [List.length_cons] at hi
        omega
theorem sum_map (xs : List Pt) : ((sumC xs : Nat) : Int) = (xs.map fun x => (x.2.1 : Int)).foldl (· + ·) 0 := by
  have key : ∀ (xs : List Pt) (a : Int), (xs.map fun x => (x.2.1 : Int)).foldl (· + ·) a = a + ((sumC xs : Nat) : Int) := by
    intro xs
    induction xs with
    | nil => intro a; simp [sumC]
    | cons x r ih => intro a; rw [List.map_cons, List.foldl_cons, ih, sumC]; omega
  rw [key]; omega
/-- What the lengths of the chunks are. -/
theorem cuts_facts {l m b : Int} (hc : chkC l m b = 0) (bs : List Int) : (∀ z ∈ cutsL l m b bs, 1 ≤ z ∧ z ≤ m ∧ z ≤ (bs.length : Int)) ∧ (cutsL l m b bs).foldl (· + ·) 0 = (bs.length : Int) ∧ (∀ i, i + 1 < (cutsL l m b bs).length → l ≤ (cutsL l m b bs).getD i 0) ∧ (cutsL l m b bs).length ≤ bs.length := by
  obtain ⟨h1, h2, h3⟩ := parts_facts hc bs.length 0 bs (Nat.le_refl _)
  unfold cutsL
  refine ⟨fun z hz => ?_, by rw [← sum_map, h2], fun i hi => h3 i (by simpa using hi), by rw [List.length_map]; exact parts_len l m b _ _ _⟩
  obtain ⟨x, hx, rfl⟩ := List.mem_map.1 hz
  have := h1 x hx
  omega
theorem fold_acc (X : List Int) (a : Int) : X.foldl (· + ·) a = a + X.foldl (· + ·) 0 := by
  induction X generalizing a with
  | nil => simp
  | cons x X ih => rw [List.foldl_cons, ih (a + x), List.foldl_cons, ih (0 + x)]; omega
theorem fold_take (X : List Int) (k : Nat) (hk : k < X.length) : (X.take (k + 1)).foldl (· + ·) 0 = (X.take k).foldl (· + ·) 0 + X.getD k 0 := by
  rw [List.take_add_one, List.getElem?_eq_getElem hk, List.foldl_append]
  simp [List.getD, List.getElem?_eq_getElem hk]
theorem fold_pos : ∀ (X : List Int), (∀ z ∈ X, 1 ≤ z) → 0 ≤ X.foldl (· + ·) 0
  | [], _ => by simp
  | x :: X, h => by
    rw [List.foldl_cons, fold_acc]
    have h1 := h x (List.mem_cons_self ..)
    have h2 := fold_pos X (fun z hz => h z (List.mem_cons_of_mem _ hz))
    omega
theorem fold_rng (X : List Int) (h : ∀ z ∈ X, 1 ≤ z) (k : Nat) : 0 ≤ (X.take k).foldl (· + ·) 0 ∧ (X.take k).foldl (· + ·) 0 ≤ X.foldl (· + ·) 0 := by
  have h1 := fold_pos (X.take k) (fun z hz => h z (List.take_subset _ _ hz))
  have h2 := fold_pos (X.drop k) (fun z hz => h z (List.drop_subset _ _ hz))
  refine ⟨h1, ?_⟩
  have e : X.foldl (· + ·) 0 = (X.take k).foldl (· + ·) 0 + (X.drop k).foldl (· + ·) 0 := by
    conv => lhs; rw [← List.take_append_drop k X]
    rw [List.foldl_append, fold_acc]
  omega
theorem cutO_fits (l m b : Int) (bs : List Int) (hm : bs.length ≤ 9223372036854775807) (j : Nat) : (Lit.int .i64 ((cutO l m b bs).1.getD j 0)).wf = true := by
  unfold cutO
  by_cases hc : chkC l m b = 0
  · rw [if_neg (by simp [hc])]
    split
    · simp; exact wf_zero _
    · obtain ⟨h1, _⟩ := cuts_facts hc bs
      dsimp only
      by_cases hj : j < (cutsL l m b bs).length
      · have hmem : (cutsL l m b bs).getD j 0 ∈ cutsL l m b bs := by
          simp only [List.getD, List.getElem?_eq_getElem hj, Option.getD_some]
          exact List.getElem_mem hj
        have := h1 _ hmem
        exact wf_mk_i64 (by omega) (by omega)
      · rw [getD_out _ _ (by omega)]; exact wf_zero _
  · rw [if_pos hc]
    simp; exact wf_zero _
end Go.Proofs.Ytcapkkldjgmhfaa
