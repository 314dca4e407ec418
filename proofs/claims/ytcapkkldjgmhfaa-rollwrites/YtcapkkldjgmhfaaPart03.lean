/-
  The contract of the statements' awake.
-/
import Derived.Test.YtcapkkldjgmhfaaPart02
import Derived.Lib.SlBytesConst
import Derived.Test.YtcapkkldjgmhfaaPart01
namespace Go.Proofs.Ytcapkkldjgmhfaa
open Go.RowKit

theorem lit_ri (w : World) (zs : List Int) (m : Nat × Nat) (n : Nat) (hn : n = zs.length) (hm : n ≤ 1000) (hf : ∀ z ∈ zs, 0 ≤ z ∧ z ≤ 255) : Ri (w.alloc (.cells (zs.map (Value.int .u8)).toArray 5 m)) .u8 (some ⟨w.heap.size, 0, none⟩) n zs := by
  subst hn
  refine ⟨Nat.le_refl _, by unfold maxLen; omega, fun _ => ⟨w.heap.size, 0, rfl, by simp, fun j hj => ?_⟩, fun j => ?_⟩
  · have := Joins.cell_of_block (heap_new w (.cells (zs.map (Value.int .u8)).toArray 5 m)) j
    rw [Nat.zero_add]
    refine this.trans ?_
    simp [List.getD, List.getElem?_eq_getElem hj]
  · by_cases hj : j < zs.length
    · have hm : zs.getD j 0 ∈ zs := by
        simp only [List.getD, List.getElem?_eq_getElem hj, Option.getD_some]
        exact List.getElem_mem hj
      have := hf _ hm
      exact wf_mk_u8 this.1 this.2
    · rw [getD_out _ _ (by omega)]; exact wf_zero _
def s7 : List Int := [49, 50, 51, 52, 53, 54, 55]
theorem s7_cut : cutO 2 3 0 s7 = ([2, 2, 2, 1], 0) := by decide +kernel

set_option maxHeartbeats 3200000 in
set_option maxRecDepth 100000 in
theorem awake_any (w : World) : Calls Try.prog 16 #[] w fun e w' => e = .returned (.bool true) ∧ Below w.heap.size w w' := by
  have hC := cuts_word 2 3 0 (some ⟨w.heap.size, 0, none⟩) 7 s7 _ (lit_ri w s7 (7, 8) 7 rfl (by omega) (by decide))
  unfold CutPost at hC
  rw [s7_cut] at hC
  have HC : Hid (Calls Try.prog 19 #[.agg #[.int .i64 2, .int .i64 3, .int .i64 0], .slice (some ⟨w.heap.size, 0, none⟩) 7 7] (w.alloc (.cells #[.int .u8 49, .int .u8 50, .int .u8 51, .int .u8 52, .int .u8 53, .int .u8 54, .int .u8 55] 5 (7, 8))) fun e w' =>
    ∃ v, e = .returned (.tuple #[v, .int .i64 0]) ∧ w'.ownsRow (w.heap.size + 1) 3 1 v 4 [.int .i64 2, .int .i64 2, .int .i64 2, .int .i64 1] ∧ Below w.heap.size w w') := by
    refine Calls.mono hC ?_
    rintro e w' ⟨v, h1, h2, h3⟩
    rw [World.size_alloc] at h2
    exact ⟨v, h1, h2, Bn (bel_alloc w _) h3⟩
  have kc := Lib.run_convert_bytes_const (P := Try.prog) w 25 5 #[.int .u8 49, .int .u8 50, .int .u8 51, .int .u8 52, .int .u8 53, .int .u8 54, .int .u8 55] 7 7 Try.underlying25 Try.underlying5
  simp only [List.size_toArray, List.length_cons, List.length_nil, Nat.reduceAdd] at kc
  have HG := hid (fun W => gear_word 0 W (by omega) (by omega))
  have HGR := hid (fun W => gear_ref 0 W (by omega) (by omega))
  clear hC
  go_enter Try.func16, Try.ntmps16
  go_wp2_with fail
  refine HC.out.mono ?_
  rintro _ w1 ⟨v, rfl, hown, hb⟩
  obtain ⟨g, cap, rfl⟩ := ownsRow_succ hown
  have c0 := hown.cellAt 0 (by omega)
  have c3 := hown.cellAt 3 (by omega)
  simp only [List.getElem?_cons_zero, List.getElem?_cons_succ] at c0 c3
  have HB := hid hb
  clear hown hb HC kc
  generalize gearZ 0 = gz at *
  have hgg : (gz == gz) = true := by simp
  go_wp2_with fail
  refine (HG.out w1).mono ?_
  rintro _ w2 ⟨rfl, hw⟩
  obtain rfl := hw.symm
  go_wp2_with fail
  refine (HGR.out w1).mono ?_
  rintro _ w3 ⟨rfl, hw3⟩
  obtain rfl := hw3.symm
  go_wp2_with fail
  go_ret
  exact ⟨rfl, HB.out⟩
end Go.Proofs.Ytcapkkldjgmhfaa
/-
  Arguments that are settings.
-/
namespace Go.Proofs.Ytcapkkldjgmhfaa
open Go.ChangeShapes Go.WideShapes Go.ChangeAt Go.RowKit

theorem wf_u64 {x : Int} (h : (Lit.int .u64 x).wf = true) : 0 ≤ x ∧ x < 18446744073709551616 := by
  have h1 : IntKind.u64.min = 0 := rfl
  have h2 : IntKind.u64.max = 18446744073709551615 := rfl
  simp only [Lit.wf, Bool.and_eq_true, decide_eq_true_eq] at h
  omega
theorem Try.cells23 : Try.prog.cellsOf 23 = 3 := by kernel_rfl
theorem open_conf {H : Type} {enc : TypeId × Value → H} {W : World} {base : Nat} {v : Value} {d : DataW H} {p : List MemPlace} (hv : Value.okWide Try.prog W .any base 23 v) (h : DataW.Trod enc Try.prog W 0 (fun _ => true) true 23 v d p) : ∃ l m b : Int, v = .agg #[.int .i64 l, .int .i64 m, .int .i64 b] := by
  obtain ⟨v0, v1, v2, y0, y1, y2, n, rfl, _, _, g0, g1, g2⟩ := Joins.open_agg3 Try.underlying23 (by kernel_rfl) Try.cells23 hv h
  obtain ⟨z0, e0, _, _⟩ := DataW.trod_int Try.underlying3 g0
  obtain ⟨z1, e1, _, _⟩ := DataW.trod_int Try.underlying3 g1
  obtain ⟨z2, e2, _, _⟩ := DataW.trod_int Try.underlying3 g2
  have e0' : v0 = .int .i64 z0 := by simpa using e0
  have e1' : v1 = .int .i64 z1 := by simpa using e1
  have e2' : v2 = .int .i64 z2 := by simpa using e2
  subst e0' e1' e2'
  exact ⟨z0, z1, z2, rfl⟩
end Go.Proofs.Ytcapkkldjgmhfaa
/-
  Plain facts on the chunks of a row.
-/
namespace Go.Proofs.Ytcapkkldjgmhfaa

theorem with_most {l m b : Int} : ∀ (bs : List Int) (s h : Int), s < m → (withL l m b s h bs).1 ≤ m
  | [], s, h, hs => by rw [withL]; dsimp only; omega
  | x :: r, s, h, hs => by
    rw [withL]
    split
    · dsimp only; omega
    · rename_i he
      have hne := not_end he
      exact with_most r (s + 1) _ (by omega)
theorem with_end {l m b : Int} : ∀ (bs : List Int) (s h : Int), (withL l m b s h bs).1 < s + (bs.length : Int) → endB l m b (withL l m b s h bs).1 (withL l m b s h bs).2 = true
  | [], s, h, hs => by rw [withL] at hs; simp at hs
  | x :: r, s, h, hs => by
    rw [withL] at hs ⊢
    split
    · rename_i he; exact he
    · rename_i he
      rw [if_neg he, List.length_cons] at hs
      exact with_end r (s + 1) _ (by omega)
theorem end_least {l m b n h : Int} (hlm : l ≤ m) (he : endB l m b n h = true) : l ≤ n := by
  unfold endB at he
  rw [Bool.or_eq_true, beq_iff_eq, Bool.and_eq_true, decide_eq_true_eq] at he
  rcases he with rfl | he
  · exact hlm
  · exact he.1
def sumC : List Pt → Nat
  | [] => 0
  | x :: r => x.2.1 + sumC r
theorem parts_facts {l m b : Int} (hc : chkC l m b = 0) : ∀ (f st : Nat) (bs : List Int), bs.length ≤ f →
    (∀ x ∈ partsF l m b f st bs, 1 ≤ x.2.1 ∧ (x.2.1 : Int) ≤ m ∧ x.2.1 ≤ bs.length) ∧ sumC (partsF l m b f st bs) = bs.length ∧ (∀ i, i + 1 < (partsF l m b f st bs).length → l ≤ (((partsF l m b f st bs).map fun x => (x.2.1 : Int)).getD i 0))
  | 0, st, bs, hf => by
    have : bs = [] := List.eq_nil_of_length_eq_zero (by omega)
    subst this
    simp [partsF, sumC]
  | f + 1, st, [], hf => by simp [partsF, sumC]
  | f + 1, st, x :: r, hf => by
    obtain ⟨k1, k2, k3, k4, k5⟩ := chkC_ok hc
    have h1 := with_cnt l m b (x :: r) 0 0
    have h2 := h1.2.2 (by simp)
    have h3 := with_most (l := l) (m := m) (b := b) (x :: r) 0 0 (by omega)
    have h4 := with_end (l := l) (m := m) (b := b) (x :: r) 0 0
    rw [partsF]
    generalize withL l m b 0 0 (x :: r) = R at *
    obtain ⟨n, hn⟩ : ∃ n, n = R.1.toNat := ⟨_, rfl⟩
    rw [← hn]
    have hnz : R.1 = (n : Int) := by omega
    have hdl : ((x :: r).drop n).length = (x :: r).length - n := List.length_drop
    obtain ⟨i1, i2, i3⟩ := parts_facts hc f (st + n) ((x :: r).drop n) (by rw [hdl]; omega)
    refine ⟨fun y hy => ?_, ?_, fun i hi => ?_⟩
    · rcases List.mem_cons.1 hy with rfl | hy
      · dsimp only; omega
      · have := i1 y hy; rw [hdl] at this; omega
    · rw [sumC, i2, hdl]; dsimp only; omega
    · cases i with
      | zero =>
        rw [List.map_cons, List.getD_cons_zero]
        dsimp only
        rw [← hnz]
        refine end_least k2 (h4 ?_)
        have hne : 0 < (partsF l m b f (st + n) ((x :: r).drop n)).length := by simp at hi; omega
        have hpl := parts_len l m b f (st + n) ((x :: r).drop n)
        rw [hdl] at hpl
        omega
      | succ i =>
        rw [List.map_cons, List.getD_cons_succ]
        refine i3 i ?_
        rw [List.length_cons] at hi
        omega
theorem sum_map (xs : List Pt) : ((sumC xs : Nat) : Int) = (xs.map fun x => (x.2.1 : Int)).foldl (· + ·) 0 := by
  have key : ∀ (xs : List Pt) (a : Int), (xs.map fun x => (x.2.1 : Int)).foldl (· + ·) a = a + ((sumC xs : Nat) : Int) := by
    intro xs
    induction xs with
    | nil => intro a; simp [sumC]
    | cons x r ih => intro a; rw [List.map_cons, List.foldl_cons, ih, sumC]; omega
  rw [key]; omega
/-- What the lengths of the chunks are. -/
theorem cuts_facts {l m b : Int} (hc : chkC l m b = 0) (bs : List Int) : (∀ z ∈ cutsL l m b bs, 1 ≤ z ∧ z ≤ m ∧ z ≤ (bs.length : Int)) ∧ (cutsL l m b bs).foldl (· + ·) 0 = (bs.length : Int) ∧ (∀ i, i + 1 < (cutsL l m b bs).length → l ≤ (cutsL l m b bs).getD i 0) ∧ (cutsL l m b bs).length ≤ bs.length := by
  obtain ⟨h1, h2, h3⟩ := parts_facts hc bs.length 0 bs (Nat.le_refl _)
  unfold cutsL
  refine ⟨fun z hz => ?_, by rw [← sum_map, h2], fun i hi => h3 i (by simpa using hi), by rw [List.length_map]; exact parts_len l m b _ _ _⟩
  obtain ⟨x, hx, rfl⟩ := List.mem_map.1 hz
  have := h1 x hx
  omega
theorem fold_acc (X : List Int) (a : Int) : X.foldl (· + ·) a = a + X.foldl (· + ·) 0 := by
  induction X generalizing a with
  | nil => simp
  | cons x X ih => rw [List.foldl_cons, ih (a + x), List.foldl_cons, ih (0 + x)]; omega
theorem fold_take (X : List Int) (k : Nat) (hk : k < X.length) : (X.take (k + 1)).foldl (· + ·) 0 = (X.take k).foldl (· + ·) 0 + X.getD k 0 := by
  rw [List.take_add_one, List.getElem?_eq_getElem hk, List.foldl_append]
  simp [List.getD, List.getElem?_eq_getElem hk]
theorem fold_pos : ∀ (X : List Int), (∀ z ∈ X, 1 ≤ z) → 0 ≤ X.foldl (· + ·) 0
  | [], _ => by simp
  | x :: X, h => by
    rw [List.foldl_cons, fold_acc]
    have h1 := h x (List.mem_cons_self ..)
    have h2 := fold_pos X (fun z hz => h z (List.mem_cons_of_mem _ hz))
    omega
theorem fold_rng (X : List Int) (h : ∀ z ∈ X, 1 ≤ z) (k : Nat) : 0 ≤ (X.take k).foldl (· + ·) 0 ∧ (X.take k).foldl (· + ·) 0 ≤ X.foldl (· + ·) 0 := by
  have h1 := fold_pos (X.take k) (fun z hz => h z (List.take_subset _ _ hz))
  have h2 := fold_pos (X.drop k) (fun z hz => h z (List.drop_subset _ _ hz))
  refine ⟨h1, ?_⟩
  have e : X.foldl (· + ·) 0 = (X.take k).foldl (· + ·) 0 + (X.drop k).foldl (· + ·) 0 := by
    conv => lhs; rw [← List.take_append_drop k X]
    rw [List.foldl_append, fold_acc]
  omega
theorem cutO_fits (l m b : Int) (bs : List Int) (hm : bs.length ≤ 9223372036854775807) (j : Nat) : (Lit.int .i64 ((cutO l m b bs).1.getD j 0)).wf = true := by
  unfold cutO
  by_cases hc : chkC l m b = 0
  · rw [if_neg (by simp [hc])]
    split
    · simp; exact wf_zero _
    · obtain ⟨h1, _⟩ := cuts_facts hc bs
      dsimp only
      by_cases hj : j < (cutsL l m b bs).length
      · have hmem : (cutsL l m b bs).getD j 0 ∈ cutsL l m b bs := by
          simp only [List.getD, List.getElem?_eq_getElem hj, Option.getD_some]
          exact List.getElem_mem hj
        have := h1 _ hmem
        exact wf_mk_i64 (by omega) (by omega)
      · rw [getD_out _ _ (by omega)]; exact wf_zero _
  · rw [if_pos hc]
    simp; exact wf_zero _
end Go.Proofs.Ytcapkkldjgmhfaa
/-
  A range over an iterator that keeps variables of its own in memory and writes them between two rounds; the rounds never leave the loop.
-/
namespace Go.Proofs.Ytcapkkldjgmhfaa
open Go.RowKit Go.Shelf

/-- The iterator tells just xs, one by one, if every round goes on. T b: what it turns by itself of what lies from block b on; Kp: what a round keeps for it. -/
def Tells {α : Type} (P : Program) (gf : Nat) (lb : Array Value) (encs : α → Array Value) (T : Nat → World → World → Prop) (Kp : World → World → Prop) (xs : List α) (w0 : World) : Prop :=
  ∀ (l : Nat) (J : List α → World → Prop) (W : World), Below w0.heap.size w0 W → (∀ s A B, T W.heap.size A B → J s A → J s B) →
    (∀ pre x A, pre ++ [x] <+: xs → J pre A → YieldAt Fence.wide 8 P l (encs x) A fun e B => e = .returned (.bool true) ∧ J (pre ++ [x]) B ∧ Kp A B) →
    J [] W → CallsIn Fence.wide 9 P gf (#[.func (.yield l) #[] #[]] ++ lb) W fun e B => (∃ v, e = .returned v) ∧ J xs B
/-- How a round ends: it goes on, the two blocks of the loop's books lie as they lay. -/
def RoundOk {α : Type} (l : Nat) (o : Obj) (Kp : World → World → Prop) (I : List α → World → Prop) (xs : List α) (A : World) : Exit → Act → World → Prop
  | .normal, _, B => B.heap[l + 1]? = some o ∧ B.heap[l]? = some (.deferred (some [])) ∧ Kp A B ∧ I xs B
  | _, _, _ => False
theorem range_whole {α : Type} {P : Program} {g : Operand} {ps : Array Tmp} {assign body : Code} {Q : Exit → Act → World → Prop} {a : Act} {w : World} {gf : Nat} {lb : Array Value} {encs : α → Array Value} {T : Nat → World → World → Prop} {Kp : World → World → Prop} {xs : List α}
    (hg : a.eval g = .func (.func gf) #[] lb) (eg : ∀ args w, (callFunc gf args).run P w = .ok (.enter gf args) w) (hseq : Tells P gf lb encs T Kp xs w) (hps : ∀ x, (encs x).size = ps.size)
    (hT : ∀ b A B i, T b A B → i < b → i < A.heap.size → B.heap[i]? = A.heap[i]?)
    (hKt : ∀ {A B C : World}, Kp A B → Kp B C → Kp A C) (hKp : ∀ (A : World) (r r' : Loop), A.heap[w.heap.size + 1]? = some (.loop r) → Kp A (A.putObj (w.heap.size + 1) (.loop r')))
    (I : List α → World → Prop) (hIT : ∀ b s A B, w.heap.size + 2 ≤ b → T b A B → I s A → I s B) (hIa : ∀ s A o, I s A → I s (A.alloc o))
    (hIp : ∀ s (A : World) (r r' : Loop), A.heap[w.heap.size + 1]? = some (.loop r) → I s A → I s (A.putObj (w.heap.size + 1) (.loop r'))) (h0 : I [] w)
    (hround : ∀ (pre : List α) (x : α) (A : World) (r : Loop), pre ++ [x] <+: xs → I pre A → A.heap[w.heap.size + 1]? = some (.loop r) → A.heap[w.heap.size]? = some (.deferred (some [])) →
      assign.wpIn (Fence.wide.inRound (w.heap.size + 1)) 8 P (Exit.then (fun a₁ A1 => A1.heap[w.heap.size + 1]? = some (.loop r) ∧ ∀ r' : Loop, body.wpIn (Fence.wide.inRound (w.heap.size + 1)) 8 P (RoundOk w.heap.size (.loop r') Kp I (pre ++ [x]) A) a₁ (A1.putObj (w.heap.size + 1) (.loop r'))) (fun _ _ _ => False))
        { tmps := (ps.zip (encs x)).foldl (fun t (p, v) => t.setIfInBounds p v) a.tmps, defers := [] } A)
    (hdone : ∀ (A : World), I xs A → A.heap[w.heap.size]? = some (.deferred (some [])) → Q .normal { a with defers := { target := .collected w.heap.size, args := #[] } :: a.defers } A) :
    (Code.rangeFunc g ps assign body).wpIn Fence.wide 10 P Q a w := by
  refine wpIn_rangeFunc fun fn hfn => ?_
  obtain ⟨r0, hr0⟩ : ∃ r0 : Loop, r0 = { state := .ready, pending := none, fn, tmps := a.tmps, params := ps, assign, body, defers := w.heap.size } := ⟨_, rfl⟩
  have hsz1 : (w.alloc (.deferred (some []))).heap.size = w.heap.size + 1 := World.size_alloc _ _
  obtain ⟨W1, hW1⟩ : ∃ W1, W1 = (w.alloc (.deferred (some []))).alloc (.loop r0) := ⟨_, rfl⟩
  have hL1 : W1.heap[w.heap.size + 1]? = some (.loop r0) := by rw [hW1, ← hsz1]; exact heap_new _ _
  have hD1 : W1.heap[w.heap.size]? = some (.deferred (some [])) := by rw [hW1]; exact heap_old _ _ (heap_new w _)
  have hS1 : W1.heap.size = w.heap.size + 2 := by rw [hW1, World.size_alloc, hsz1]
  have hb1 : Below w.heap.size w W1 := by rw [hW1]; exact Bn (bel_alloc w _) (bel_alloc _ _)
  refine ⟨w.heap.size + 1, [{ target := .collected w.heap.size, args := #[] }], W1, { target := .fn (.func gf) lb, args := #[.func (.yield (w.heap.size + 1)) #[] #[]] }, W1, gf, #[.func (.yield (w.heap.size + 1)) #[] #[]] ++ lb, W1, ?_, ?_, fun _ _ => trivial, ?_, fun _ => by omega, ?_⟩
  · rw [hW1, hr0]; exact run_enterLoop_outer _ _ _ _ _
  · simp only [resolve, hg]
    simp [go_sem]
  · simp [invoke, go_sem, eg]
  · have hcall := hseq (w.heap.size + 1) (fun pre A => I pre A ∧ A.heap[w.heap.size + 1]? = some (.loop r0) ∧ A.heap[w.heap.size]? = some (.deferred (some []))) W1 hb1
      (fun s A B ht h => ⟨hIT _ s A B (by omega) ht h.1, (hT _ A B _ ht (by omega) (Array.getElem?_eq_some_iff.1 h.2.1).1).trans h.2.1, (hT _ A B _ ht (by omega) (Array.getElem?_eq_some_iff.1 h.2.2).1).trans h.2.2⟩)
      (fun pre x A hx h => by
        obtain ⟨hi, hl, hd⟩ := h
        have hy := run_yield (P := P) (args := encs x) hl (by rw [hr0]; exact hps x)
        refine ⟨_, _, _, _, hy, roundIn_of_wpIn trivial ?_⟩
        have hr := hround pre x A r0 hx hi hl hd
        rw [hr0]
        refine Go.wpIn_mono hr ?_
        intro e a1 A1 h1
        cases e with
        | normal =>
          obtain ⟨hl1, h2⟩ := h1
          refine ⟨_, run_beginRound hl1 (by rw [hr0]), ?_⟩
          refine Go.wpIn_mono (h2 { r0 with state := .busy }) ?_
          intro e a3 B h3
          cases e with
          | normal =>
            obtain ⟨hlB, hdB, hkB, hiB⟩ := h3
            have hre := run_endRound (P := P) none hlB
            refine ⟨_, _, hre, rfl, ⟨hIp _ B _ _ hlB hiB, ?_, ?_⟩, hKt hkB (hKp B _ _ hlB)⟩
            · rw [World.putObj_heap_same (Array.getElem?_eq_some_iff.1 hlB).1, hr0]; rfl
            · exact (World.putObj_heap_other (by omega)).trans hdB
          | _ => exact h3.elim
        | _ => exact h1)
      ⟨by rw [hW1]; exact hIa _ _ _ (hIa _ _ _ h0), hL1, hD1⟩
    refine hcall.mono ?_
    rintro e B ⟨⟨v, rfl⟩, hi, hl, hd⟩
    have hel := run_endLoop (P := P) hl (by rw [hr0]; simp)
    refine ⟨none, B.putObj (w.heap.size + 1) (.loop { r0 with state := .exhausted }), ?_, hdone _ (hIp _ B r0 _ hl hi) ((World.putObj_heap_other (by omega)).trans hd)⟩
    rw [hel, hr0]
end Go.Proofs.Ytcapkkldjgmhfaa
/-
  The parts of a row, told one by one: the contract of roll's parts, whatever is begun.
-/
namespace Go.Proofs.Ytcapkkldjgmhfaa
open Go.RowKit Go.Shelf
attribute [local go_sem] Oper.semAt_some

/-- What the iterator turns by itself: it lays blocks, and writes variables of its own type. -/
structure Tq (b : Nat) (A B : World) : Prop where
  bel : Below 0 A B
  same : ∀ i, i < A.heap.size → (i < b ∨ ∀ (cs : Array Value) (fr : Nat × Nat), A.heap[i]? ≠ some (.cells cs 61 fr)) → B.heap[i]? = A.heap[i]?
theorem Tq.of_below {b : Nat} {A B : World} (h : Below A.heap.size A B) : Tq b A B := ⟨h.mono (Nat.zero_le _), fun i hi _ => h.block i hi⟩
theorem Tq.put {b : Nat} {A : World} {X : Nat} {s h : Int} (hX : b ≤ X) (hB : Bg A X s h) (s' h' : Int) : Tq b A (put2 A X s' h') := by
  refine ⟨put2_bel (Below.refl 0 A) (Nat.zero_le _) s' h', fun i hi h => ?_⟩
  refine put2_other hB ?_
  rintro rfl
  rcases h with h | h
  · omega
  · exact h _ _ hB
theorem Ri.put2 {A : World} {a : Option Addr} {cap : Nat} {zs : List Int} (hr : Ri A .u8 a cap zs) {X : Nat} {s h : Int} (hB : Bg A X s h) (hne : ∀ b off, a = some ⟨b, off, none⟩ → b ≠ X) (s' h' : Int) : Ri (put2 A X s' h') .u8 a cap zs := by
  refine ⟨hr.room, hr.most, fun h0 => ?_, hr.fits⟩
  obtain ⟨b, off, ha, hbw, hc⟩ := hr.cells h0
  refine ⟨b, off, ha, Nat.lt_of_lt_of_le hbw (put2_bel (Below.refl 0 A) (Nat.zero_le _) s' h').size, fun j hj => ?_⟩
  have e := hc j hj
  rw [← e]
  unfold World.cell?
  rw [put2_other hB (hne b off ha)]
/-- What a round keeps for the iterator: its variables, and the block of the bytes. -/
structure Kw (N gb : Nat) (A B : World) : Prop where
  size : A.heap.size ≤ B.heap.size
  old : 0 < N → B.heap[gb]? = A.heap[gb]?
  typ : ∀ (i : Nat) (cs : Array Value) (t : TypeId) (fr : Nat × Nat), t = 61 ∨ t = 23 → A.heap[i]? = some (.cells cs t fr) → B.heap[i]? = some (.cells cs t fr)
theorem Kw.trans {N gb : Nat} {A B C : World} (h : Kw N gb A B) (k : Kw N gb B C) : Kw N gb A C := ⟨Nat.le_trans h.size k.size, fun h0 => (k.old h0).trans (h.old h0), fun i cs t fr ht hi => k.typ i cs t fr ht (h.typ i cs t fr ht hi)⟩
theorem Kw.put {N gb : Nat} (A : World) (l : Nat) (r r' : Loop) (h : A.heap[l]? = some (.loop r)) (hg : 0 < N → gb ≠ l) : Kw N gb A (A.putObj l (.loop r')) := by
  refine ⟨by simp, fun h0 => World.putObj_heap_other (hg h0), fun i cs t fr _ hi => ?_⟩
  have hne : i ≠ l := by
    rintro rfl
    rw [hi] at h
    cases h
  exact (World.putObj_heap_other hne).trans hi
theorem Kw.ri {N gb : Nat} {A B : World} (h : Kw N gb A B) {a : Option Addr} {cap : Nat} {zs : List Int} (hr : Ri A .u8 a cap zs) (hN : N = zs.length) (hg : ∀ b off, a = some ⟨b, off, none⟩ → b = gb) : Ri B .u8 a cap zs := by
  refine ⟨hr.room, hr.most, fun h0 => ?_, hr.fits⟩
  obtain ⟨b, off, ha, hbw, hc⟩ := hr.cells h0
  have hb := hg b off ha
  refine ⟨b, off, ha, Nat.lt_of_lt_of_le hbw h.size, fun j hj => ?_⟩
  have e := hc j hj
  rw [← e]
  unfold World.cell?
  rw [hb, h.old (by omega)]
/-- The parts, the first of them behind a chunk that is begun. -/
def partsH (l m b : Int) : Nat → Int → Int → Nat → List Int → List Pt
  | 0, _, _, _, _ => []
  | _ + 1, _, _, _, [] => []
  | f + 1, s, h, st, x :: r => (st, ((withL l m b s h (x :: r)).1 - s).toNat, withL l m b s h (x :: r)) :: partsF l m b f (st + ((withL l m b s h (x :: r)).1 - s).toNat) ((x :: r).drop ((withL l m b s h (x :: r)).1 - s).toNat)
theorem partsH_zero (l m b : Int) (f st : Nat) (bs : List Int) : partsH l m b f 0 0 st bs = partsF l m b f st bs := by
  cases f with
  | zero => rfl
  | succ f => cases bs with
    | nil => rfl
    | cons x r => rw [partsH, partsF, Int.sub_zero]

set_option maxHeartbeats 6400000 in
set_option maxRecDepth 100000 in
theorem parts_tells (l m b s0 h0 : Int) (a : Option Addr) (cap : Nat) (bs : List Int) (n₀ Bo Bb Bc gb off : Nat) (W0 : World) (hc : chkC l m b = 0) (hr : Ri W0 .u8 a cap bs) (hn0 : n₀ ≤ W0.heap.size) (ha : 0 < bs.length → a = some ⟨gb, off, none⟩ ∧ gb < n₀)
    (hs0 : 0 ≤ s0) (hs1 : s0 < m) (hh0 : 0 ≤ h0) (hh1 : h0 < 18446744073709551616) (ho : W0.heap[Bo]? = some (.cells #[.int .i64 s0, .int .u64 h0] 61 (0, 0))) (hbb : W0.heap[Bb]? = some (.cells #[.slice a bs.length cap] 25 (0, 0))) (hcc : W0.heap[Bc]? = some (.cells #[.int .i64 l, .int .i64 m, .int .i64 b] 23 (0, 0))) :
    Tells Try.prog 36 #[.pointer (some ⟨Bo, 0, none⟩), .pointer (some ⟨Bb, 0, none⟩), .pointer (some ⟨Bc, 0, none⟩)] (encP gb off) Tq (Kw bs.length gb) (partsH l m b bs.length s0 h0 0 bs) W0 := fun ll J W hW hJ hY hJi => by
  have HJ := hid hJ
  have HY := hid hY
  have HO := hid ((hW.block Bo (Array.getElem?_eq_some_iff.1 ho).1).trans ho)
  have HBB := hid ((hW.block Bb (Array.getElem?_eq_some_iff.1 hbb).1).trans hbb)
  have HCC := hid ((hW.block Bc (Array.getElem?_eq_some_iff.1 hcc).1).trans hcc)
  have HR := hid (hr.later hW)
  have HN0 : Hid (n₀ ≤ W.heap.size) := Nat.le_trans hn0 hW.size
  have HC := hid hc
  have HA := hid ha
  have hroom := hr.room
  have hmost := hr.most
  unfold maxLen at hmost
  obtain ⟨k1, k2, k3, k4, k5⟩ := chkC_ok hc
  obtain ⟨len, hl⟩ : ∃ n, n = bs.length := ⟨_, rfl⟩
  have HL := hid hl
  obtain ⟨xs, hxs⟩ : ∃ xs, xs = partsH l m b bs.length s0 h0 0 bs := ⟨_, rfl⟩
  have HXS := hid hxs
  rw [← hxs]
  rw [← hl] at hroom HBB
  rw [← hxs] at HY
  have co0 := Joins.cell_of_block HO.out 0
  have co1 := Joins.cell_of_block HO.out 1
  have cb0 := Joins.cell_of_block HBB.out 0
  simp only [List.getElem?_toArray, List.getElem?_cons_zero, List.getElem?_cons_succ] at co0 co1 cb0
  have hbA := bel_alloc W (.cells #[.int .i64 s0, .int .u64 h0] 61)
  have eA : Bg (W.alloc (.cells #[.int .i64 s0, .int .u64 h0] 61)) W.heap.size s0 h0 := heap_new W _
  have hcb1 := (hbA.cell (p := ⟨Bb, 0, none⟩) (Array.getElem?_eq_some_iff.1 HBB.out).1).trans cb0
  have HXX := hid eA
  have HJ0 := hid (hJ [] W _ (Tq.of_below hbA) hJi)
  have HO1 := hid (heap_old W (.cells #[.int .i64 s0, .int .u64 h0] 61) HO.out)
  have HBB1 := hid (heap_old W (.cells #[.int .i64 s0, .int .u64 h0] 61) HBB.out)
  have HCC1 := hid (heap_old W (.cells #[.int .i64 s0, .int .u64 h0] 61) HCC.out)
  have HR1 := hid (HR.out.later hbA)
  clear hY hJ hr ha hc ho hbb hcc hW hl hxs eA hbA
  refine callsIn_of_wp Try.func36 rfl trivial ?_ rfl
  simp only [Try.ntmps36, List.size_toArray, List.length_cons, List.length_nil, Nat.reduceAdd, Nat.reduceSub, Array.replicate_succ, Array.replicate_zero, List.push_toArray, List.append_toArray, List.nil_append, List.cons_append]
  gi_wp2_with fail
  clear co0 co1 cb0 hcb1 HO HBB HCC HR hJi HO1 HBB1
  obtain ⟨X, hX⟩ : ∃ X, X = W.heap.size := ⟨_, rfl⟩
  have HX := hid hX
  rw [← hX] at HXX HN0 HJ ⊢
  have HXW : Hid (X < (W.alloc (.cells #[.int .i64 s0, .int .u64 h0] 61)).heap.size) := by show _ < _; rw [World.size_alloc, hX]; omega
  clear hX HX
  generalize W.alloc (.cells #[.int .i64 s0, .int .u64 h0] 61) = W1 at *
  gi_loopw [6] (fun p wr => ∃ (pre rest : List Pt) (st f : Nat) (aa : Option Addr) (s h : Int), 0 ≤ s ∧ s < m ∧ 0 ≤ h ∧ h < 18446744073709551616 ∧ st ≤ len ∧ p = .slice aa (len - st) (cap - st) ∧ Hid (st < len → aa = some ⟨gb, off + st, none⟩ ∧ gb < n₀) ∧ Hid (len - st ≤ f) ∧ Hid (xs = pre ++ rest) ∧ Hid (rest = partsH l m b f s h st (bs.drop st)) ∧ Hid (J pre wr) ∧ Hid (Bg wr X s h) ∧ Hid (wr.heap[Bc]? = some (.cells #[.int .i64 l, .int .i64 m, .int .i64 b] 23 (0, 0))) ∧ Hid (Ri wr .u8 a cap bs)) (fun p _ => lenV p)
  case atStart => exact ⟨[], xs, 0, len, a, s0, h0, hs0, hs1, hh0, hh1, Nat.zero_le _, rfl, fun h => by rw [HL.out] at h; exact HA.out h, Nat.sub_le _ _, rfl, by rw [List.drop_zero, HL.out]; exact HXS.out, HJ0.out, HXX.out, HCC1.out, HR1.out⟩
  case round =>
    clear HJ0 HXX HCC1 HR1 HXW HXS
    obtain ⟨pre, rest, st, f, aa, s, h, hsa, hsb, hha, hhb, hst, rfl, HAA, HF, HX1, HX2, HJp, HG, HCB, HRR⟩ := hrel
    by_cases hlt : st < len
    · obtain ⟨rfl, hgn⟩ := HAA.out hlt
      have hd := drop_at bs st (by rw [← HL.out]; exact hlt)
      have hdl : (bs.drop st).length = len - st := by rw [List.length_drop, HL.out]
      have HWW := hid (with_word l m b s h (some ⟨gb, off + st, none⟩) (cap - st) (bs.drop st) wr (HRR.out.dropR st gb off (by rw [← HL.out]; exact hlt) (HA.out (by rw [← HL.out]; omega)).1) HC.out hsa hsb hha hhb)
      rw [hdl] at HWW
      have hpos : (0 : Int) < ((len - st : Nat) : Int) := by omega
      have ca0 := Joins.cell_of_block HG.out 0
      have ca1 := Joins.cell_of_block HG.out 1
      have cc0 := Joins.cell_of_block HCB.out 0
      have cc1 := Joins.cell_of_block HCB.out 1
      have cc2 := Joins.cell_of_block HCB.out 2
      simp only [List.getElem?_toArray, List.getElem?_cons_zero, List.getElem?_cons_succ] at ca0 ca1 cc0 cc1 cc2
      obtain ⟨R, hRe⟩ : ∃ R, R = withL l m b s h (bs.drop st) := ⟨_, rfl⟩
      have HRE := hid hRe
      rw [← hRe] at HWW
      have hcn := with_cnt l m b (bs.drop st) s h
      rw [← hRe, hdl] at hcn
      have hcp := hcn.2.2 (by rw [hd]; simp)
      have hmst := with_most (l := l) (m := m) (b := b) (bs.drop st) s h hsb
      rw [← hRe] at hmst
      have hrng := with_rng l m b (bs.drop st) s h ⟨hha, hhb⟩
      rw [← hRe] at hrng
      obtain ⟨f', rfl⟩ : ∃ f', f = f' + 1 := ⟨f - 1, by have := HF.out; omega⟩
      have HX3 : Hid (rest = (st, (R.1 - s).toNat, R) :: partsF l m b f' (st + (R.1 - s).toNat) ((bs.drop st).drop (R.1 - s).toNat)) := by
        show _ = _
        rw [HX2.out, hRe, hd, partsH]
      obtain ⟨n, hn⟩ : ∃ n, n = (R.1 - s).toNat := ⟨_, rfl⟩
      rw [← hn] at HX3
      have hnz : R.1 - s = (n : Int) := by omega
      have hn1 : 1 ≤ n := by omega
      have hn2 : n ≤ len - st := by omega
      obtain ⟨r1, r2⟩ := R
      dsimp only at hnz HWW hrng HX3 hcn hcp hmst
      have hrl : r1 ≤ 9223372036854775807 := by omega
      have hrg : -9223372036854775808 ≤ r1 := by omega
      clear hRe hd hdl hcn hcp hn
      gi_wp2_with fail
      refine ⟨trivial, ?_⟩
      refine (callsIn_wide.2 HWW.out).mono ?_
      rintro _ w1 ⟨rfl, hb1⟩
      have hG1 := (hb1.block X (Array.getElem?_eq_some_iff.1 HG.out).1).trans HG.out
      have hC1 := (hb1.block Bc (Array.getElem?_eq_some_iff.1 HCB.out).1).trans HCB.out
      have hbA := bel_alloc w1 (.cells #[.int .i64 r1, .int .u64 r2] 61)
      have eA : Bg (w1.alloc (.cells #[.int .i64 r1, .int .u64 r2] 61)) w1.heap.size r1 r2 := heap_new w1 _
      have hb2 := Bn hb1 hbA
      have HJ2 := hid (HJ.out pre wr _ (Tq.of_below hb2) HJp.out)
      have HG2 := hid (heap_old w1 (.cells #[.int .i64 r1, .int .u64 r2] 61) hG1)
      have HC2 := hid (heap_old w1 (.cells #[.int .i64 r1, .int .u64 r2] 61) hC1)
      have HR2 := hid (HRR.out.later hb2)
      have HT2 := hid eA
      have ct0 := Joins.cell_of_block eA 0
      have ct1 := Joins.cell_of_block eA 1
      have cg0 := Joins.cell_of_block HG2.out 0
      simp only [List.getElem?_toArray, List.getElem?_cons_zero, List.getElem?_cons_succ] at ct0 ct1 cg0
      clear HWW ca0 ca1 cc0 cc1 cc2 hb1 hG1 hC1 hbA hb2 HJp HRR HG HCB eA
      gi_wp2_with fail
      have hbD : Below (w1.alloc (.cells #[.int .i64 r1, .int .u64 r2] 61)).heap.size (w1.alloc (.cells #[.int .i64 r1, .int .u64 r2] 61)) (w1.alloc (.cells #[.int .i64 r1, .int .u64 r2] 61)).drew := (Below.refl _ _).drew
      have HJ3 := hid (HJ.out pre _ _ (Tq.of_below hbD) HJ2.out)
      refine wpIn_region_any (by kernel_rfl) ?_
      change wpAnyIn _ _ _ _ _ _ _ _ _ (w1.alloc (.cells #[.int .i64 r1, .int .u64 r2] 61)).drew
      have HG3 : Hid (Bg (w1.alloc (.cells #[.int .i64 r1, .int .u64 r2] 61)).drew X s h) := HG2.out
      have HC3 : Hid ((w1.alloc (.cells #[.int .i64 r1, .int .u64 r2] 61)).drew.heap[Bc]? = _) := HC2.out
      have HR3 := hid (HR2.out.later hbD)
      have HT3 : Hid (Bg (w1.alloc (.cells #[.int .i64 r1, .int .u64 r2] 61)).drew w1.heap.size r1 r2) := HT2.out
      clear hbD HJ2 HG2 HC2 HR2 HT2 ct0 ct1 cg0
      obtain ⟨Y, hYe⟩ : ∃ Y, Y = w1.heap.size := ⟨_, rfl⟩
      rw [← hYe] at HT3 ⊢
      clear hYe
      generalize (w1.alloc (.cells #[.int .i64 r1, .int .u64 r2] 61)).drew = w2 at *
      have hs1 : (n : Int) ≤ ((len - st : Nat) : Int) := by omega
      have hs2 : (n : Int) ≤ ((cap - st : Nat) : Int) := by omega
      have hs3 : (0 : Int) ≤ (n : Int) := by omega
      have hs4 : n ≤ cap - st := by omega
      refine InO.take (i := 0) (d := 23) (v := ?v0) rfl rfl rfl (by as_aux_lemma => kernel_rfl) (by as_aux_lemma => kernel_rfl) (by as_aux_lemma => kernel_rfl) (fun _ _ _ h => h) (by rfl) ?h0 ?g0 ?_
      case h0 => intro w; go_simp; try with_reducible rfl
      case g0 => intro w; go_simp; try rfl
      simp only [List.setIfInBounds_toArray, List.set_cons_zero, List.set_cons_succ]
      refine InO.take (i := 1) (d := 24) (v := ?v1) rfl rfl rfl (by as_aux_lemma => kernel_rfl) (by as_aux_lemma => kernel_rfl) (by as_aux_lemma => kernel_rfl) (fun _ _ _ h => h) (by rfl) ?h1 ?g1 ?_
      case h1 => intro w; go_simp; try with_reducible rfl
      case g1 => intro w; go_simp; try rfl
      simp only [List.setIfInBounds_toArray, List.set_cons_zero, List.set_cons_succ]
      refine InO.take (i := 2) (d := 25) (v := ?v2) rfl rfl rfl (by as_aux_lemma => kernel_rfl) (by as_aux_lemma => kernel_rfl) (by as_aux_lemma => kernel_rfl) (fun _ _ _ h => h) (by rfl) ?h2 ?g2 ?_
      case h2 => intro w; go_simp; try with_reducible rfl
      case g2 => intro w; go_simp; try rfl
      simp only [List.setIfInBounds_toArray, List.set_cons_zero, List.set_cons_succ]
      refine InO.take (i := 3) (d := 26) (v := ?v3) rfl rfl rfl (by as_aux_lemma => kernel_rfl) (by as_aux_lemma => kernel_rfl) (by as_aux_lemma => kernel_rfl) (fun _ _ _ h => h) (by rfl) ?h3 ?g3 ?_
      case h3 => intro w; go_simp; try with_reducible rfl
      case g3 => intro w; go_simp; try rfl
      simp only [List.setIfInBounds_toArray, List.set_cons_zero, List.set_cons_succ]
      refine InO.take (i := 4) (d := 27) (v := ?v4) rfl rfl rfl (by as_aux_lemma => kernel_rfl) (by as_aux_lemma => kernel_rfl) (by as_aux_lemma => kernel_rfl) (fun _ _ _ h => h) (by rfl) ?h4 ?g4 ?_
      case h4 => intro w; go_simp; try with_reducible rfl
      case g4 => intro w; go_simp; try rfl
      simp only [List.setIfInBounds_toArray, List.set_cons_zero, List.set_cons_succ]
      have ct0 := Joins.cell_of_block HT3.out 0
      have ct1 := Joins.cell_of_block HT3.out 1
      simp only [List.getElem?_toArray, List.getElem?_cons_zero, List.getElem?_cons_succ] at ct0 ct1
      obtain ⟨fn, tmps, assign, body, hy, hRd⟩ := HY.out pre (st, n, r1, r2) w2 ⟨partsF l m b f' (st + n) ((bs.drop st).drop n), by rw [HX1.out, HX3.out]; simp⟩ HJ3.out
      unfold encP at hy
      dsimp only at hy
      refine wpAnyIn_ready (rs := [5]) (by as_aux_lemma => kernel_rfl) (by simp) (AllReadyIn.cons rfl (fun K hK => ?_) AllReadyIn.nil)
      go_simp
      refine hK _ _ ?_
      clear hK K ct0 ct1
      refine wpAnyIn_ready (rs := [6]) (by as_aux_lemma => kernel_rfl) (by simp) (AllReadyIn.cons rfl (fun K hK => ?_) AllReadyIn.nil)
      go_simp
      refine hRd.mono ?_
      rintro e w3 ⟨rfl, hJ3, hk3⟩
      · dsimp only
        refine hK _ _ ?_
        clear hK K hRd hy
        have hG4 : Bg w3 X s h := hk3.typ X _ 61 _ (.inl rfl) HG3.out
        have HC4 := hid (hk3.typ Bc _ 23 _ (.inr rfl) HC3.out)
        have HR4 := hid (hk3.ri HR3.out rfl (fun b' off' e => by have h1 := HA.out (by rw [← HL.out]; omega); rw [h1.1] at e; cases e; rfl))
        have HXl : Hid (X ≤ X) := Nat.le_refl _
        have HJ4 := hid (HJ.out _ _ _ (Tq.put (Nat.le_refl _) hG4 0 0) hJ3)
        have HG4 := hid (hG4.set 0 0)
        have HCC4 := hid ((put2_other (s' := 0) (h' := 0) hG4 (j := Bc) (fun e => by rw [e] at HC4; have h1 := (show w3.heap[X]? = _ from hG4).symm.trans HC4.out; injection h1 with h1; injection h1 with _ h2 _; simp at h2)).trans HC4.out)
        have HRR4 := hid (Ri.put2 HR4.out hG4 (fun b' off' e => by have h1 := HA.out (by rw [← HL.out]; omega); rw [h1.1] at e; cases e; have h2 := h1.2; have h3 := HN0.out; omega) 0 0)
        clear hk3 hJ3 HG3 HC3 HR3 HJ3 HT3
        try simp only [List.setIfInBounds_toArray, List.set_cons_zero, List.set_cons_succ]
        refine wpAnyIn_ready (rs := [7]) (by as_aux_lemma => kernel_rfl) (by simp) (AllReadyIn.cons rfl (fun K hK => ?_) AllReadyIn.nil)
        go_simp
        refine hK _ _ ?_
        clear hK K
        refine wpAnyIn_done (by as_aux_lemma => kernel_rfl) ?_ _
        have fz0 := Joins.unfrozen_of_block hG4 0
        have fz1 := Joins.unfrozen_of_block hG4 1
        have cg0 := Joins.cell_of_block hG4 0
        have cg1 := Joins.cell_of_block hG4 1
        simp only [List.getElem?_toArray, List.getElem?_cons_zero, List.getElem?_cons_succ] at cg0 cg1
        unfold put2 at HJ4 HG4 HCC4 HRR4
        clear hG4
        gi_wp2_with fail
        refine ⟨⟨pre ++ [(st, n, r1, r2)], partsF l m b f' (st + n) ((bs.drop st).drop n), st + n, f', _, 0, 0, by omega, by omega, by omega, by omega, by omega, by rw [Nat.sub_sub, Nat.sub_sub], fun h => ?_, by show _ ≤ _; have := HF.out; omega, by show _ = _; rw [HX1.out, HX3.out]; simp, by show _ = _; rw [List.drop_drop, partsH_zero], HJ4.out, HG4.out, HCC4.out, HRR4.out⟩, by simp only [lenV]; omega⟩
        rw [if_neg (by omega), Nat.add_assoc]
        exact ⟨rfl, hgn⟩
    · have hse : st = len := by omega
      subst hse
      have hz0 : ¬ (0 : Int) < ((st - st : Nat) : Int) := by omega
      have hnil : rest = [] := by
        rw [HX2.out, show bs.drop st = [] from by rw [HL.out, List.drop_length]]
        cases f <;> rfl
      subst hnil
      have hJe := HJp.out
      gi_wp2_with fail
      go_end0
      exact ⟨⟨_, rfl⟩, by rw [HX1.out, List.append_nil]; exact hJe⟩
end Go.Proofs.Ytcapkkldjgmhfaa
