/-
  A row with some blocks: the contract of region's with.
-/
import Derived.Test.YtkfoeijhhfaceabPart05
import Derived.Test.YtkfoeijhhfaceabPart06
namespace Go.Proofs.Ytkfoeijhhfaceab
open Go.RowKit Go.Shelf
attribute [local go_sem] Oper.semAt_some

theorem range_break {ts : Array Value} {df : List Deferred} {g q d id : Nat} {assign body : Code} {Q : Exit → Act → World → Prop} {w : World} (P : Ext → Prop) (L : List Rw) (T : Nat → Prop) (n₀ gR Bo cap : Nat) (hro : Ro w w.heap.size T gR L) (hP : ∀ x, x ∈ flatR L → P x) (hL : L.length ≤ 3) (hcap : L.length ≤ cap)
    (hbo : w.heap[Bo]? = some (.cells #[.slice (some ⟨gR, 0, none⟩) L.length cap] 42 (0, 0))) (hg : Act.eval ⟨ts, df⟩ (.tmp g) = .func (.func 19) #[] #[.pointer (some ⟨Bo, 0, none⟩)]) (hn : n₀ ≤ w.heap.size)
    (I J : List Ext → World → Prop) (hI : OwnFrom w.heap.size I) (hJ : OwnFrom w.heap.size J) (h0 : I [] w)
    (hassign : ∀ (l : Nat) (y z : Int) (W : World) (K : Act → World → Prop), K ⟨(ts.setIfInBounds q (.agg #[.int .i64 y, .int .i64 z])).setIfInBounds d (.pointer (some ⟨W.heap.size, 0, none⟩)), []⟩ (W.alloc (.cells #[.int .i64 y, .int .i64 z] 29)) →
      assign.wpIn (Fence.wide.inRound l) 8 Try.prog (Exit.then K (fun _ _ _ => False)) ⟨ts.setIfInBounds q (.agg #[.int .i64 y, .int .i64 z]), []⟩ W)
    (hbody : ∀ (l : Nat) (pre : List Ext) (y z : Int) (B : Nat) (W : World), I pre W → P (y, z) → (∀ x, x ∈ pre → P x) → pre.length ≤ (flatR L).length → Xb W B (y, z) → w.heap.size ≤ W.heap.size → Below n₀ w W →
      body.wpIn (Fence.wide.inRound l) 8 Try.prog (rndQ n₀ w.heap.size T I (fun c pre W => c = .exit id ∧ J pre W) (pre ++ [(y, z)]) W) ⟨(ts.setIfInBounds q (.agg #[.int .i64 y, .int .i64 z])).setIfInBounds d (.pointer (some ⟨B, 0, none⟩)), []⟩ W)
    (hexit : ∀ a W, Q .normal a W → (Code.exit id).wpIn Fence.wide 10 Try.prog Q a W)
    (hfin : ∀ (D : Nat) (W : World), w.heap.size ≤ D → (I (flatR L) W ∨ ∃ pre, pre <+: flatR L ∧ J pre W) → Below n₀ w W → W.heap[D]? = some (.deferred (some [])) → Q .normal ⟨ts, { target := .collected D, args := #[] } :: df⟩ W) :
    (Code.rangeFunc (.tmp g) #[q] assign body).wpIn Fence.wide 10 Try.prog Q ⟨ts, df⟩ w :=
  range_each P L T n₀ gR Bo cap hro hP hL hcap hbo hg hn I (fun c pre W => c = .exit id ∧ J pre W) hI (fun c pre W W' row h hg hr => ⟨h.1, hJ pre W W' row h.2 hg hr⟩) h0 hassign hbody
    (fun D W hD hi hb hd => hfin D W hD (.inl hi) hb hd)
    (fun D c pre W hD hp h hb hd => by obtain ⟨rfl, hj⟩ := h; exact hexit _ _ (hfin D W hD (.inr ⟨pre, hp, hj⟩) hb hd))
def AllLe (e0 : Int) (p : List Ext) : Prop := ∀ x, x ∈ p → x.1 ≤ e0
def Brk (s : Nat) (e0 e1 : Int) (pre : List Ext) (W : World) : Prop := ∃ p x, pre = p ++ [x] ∧ Boxed W (s + 1) 3 (.int .i64 (p.length : Int)) ∧ Xb W s (e0, e1) ∧ AllLe e0 p ∧ ¬ x.1 ≤ e0
theorem allLe_snoc {e0 : Int} {p : List Ext} {x : Ext} (h : AllLe e0 p) (hx : x.1 ≤ e0) : AllLe e0 (p ++ [x]) := fun y hy => by
  rcases List.mem_append.1 hy with hy | hy
  · exact h y hy
  · rw [List.mem_singleton] at hy
    subst hy
    exact hx
theorem ahead_all {l : List Ext} {e : Ext} (h : ∀ x, x ∈ l → x.1 ≤ e.1) : aheadN l e = l.length := by
  unfold aheadN
  induction l with
  | nil => rfl
  | cons x l ih =>
    rw [List.takeWhile_cons, if_pos (by simpa using h x (by simp)), List.length_cons, ih (fun y hy => h y (by simp [hy])), List.length_cons]
theorem ahead_cut {p m : List Ext} {x e : Ext} (h : ∀ x, x ∈ p → x.1 ≤ e.1) (hx : ¬ x.1 ≤ e.1) : aheadN (p ++ x :: m) e = p.length := by
  unfold aheadN
  induction p with
  | nil => rw [List.nil_append, List.takeWhile_cons, if_neg (by simpa using hx)]
  | cons y p ih =>
    rw [List.cons_append, List.takeWhile_cons, if_pos (by simpa using h y (by simp)), List.length_cons, ih (fun z hz => h z (by simp [hz])), List.length_cons]

set_option maxHeartbeats 6400000 in
set_option maxRecDepth 100000 in
theorem with_word (e0 e1 : Int) (a : Option Addr) (cap : Nat) (l : List Ext) (w : World) (hr : Rx w a cap l) (hrow : Row 4096 l) (he0 : 0 ≤ e0) (he1 : 1 ≤ e1) (he2 : e0 + e1 ≤ 4096) :
    Calls Try.prog 16 #[.slice a l.length cap, .agg #[.int .i64 e0, .int .i64 e1]] w (RowPost (withL l (e0, e1)) w) := by
  unfold RowPost
  have hxB := (Bn (Bn (Bn (bel_alloc w (.cells #[.int .i64 e0, .int .i64 e1] 29)) (bel_alloc _ (.cells #[.int .i64 0] 3))) (bel_alloc _ (.cells #[.slice a l.length cap] 22))) (bel_alloc _ (.cells #[.slice (some ⟨w.heap.size + 1 + 1, 0, none⟩) 1 1] 42)))
  have x0 := (heap_old _ (.cells #[.slice (some ⟨w.heap.size + 1 + 1, 0, none⟩) 1 1] 42) (heap_old _ (.cells #[.slice a l.length cap] 22) (heap_old _ (.cells #[.int .i64 0] 3) (heap_new w (.cells #[.int .i64 e0, .int .i64 e1] 29)))))
  have x1 := (heap_old _ (.cells #[.slice (some ⟨w.heap.size + 1 + 1, 0, none⟩) 1 1] 42) (heap_old _ (.cells #[.slice a l.length cap] 22) (heap_new (w.alloc (.cells #[.int .i64 e0, .int .i64 e1] 29)) (.cells #[.int .i64 0] 3))))
  have x2 := (heap_old _ (.cells #[.slice (some ⟨w.heap.size + 1 + 1, 0, none⟩) 1 1] 42) (heap_new ((w.alloc (.cells #[.int .i64 e0, .int .i64 e1] 29)).alloc (.cells #[.int .i64 0] 3)) (.cells #[.slice a l.length cap] 22)))
  have x3 := (heap_new (((w.alloc (.cells #[.int .i64 e0, .int .i64 e1] 29)).alloc (.cells #[.int .i64 0] 3)).alloc (.cells #[.slice a l.length cap] 22)) (.cells #[.slice (some ⟨w.heap.size + 1 + 1, 0, none⟩) 1 1] 42))
  have xS : ((((w.alloc (.cells #[.int .i64 e0, .int .i64 e1] 29)).alloc (.cells #[.int .i64 0] 3)).alloc (.cells #[.slice a l.length cap] 22)).alloc (.cells #[.slice (some ⟨w.heap.size + 1 + 1, 0, none⟩) 1 1] 42)).heap.size = w.heap.size + 1 + 1 + 1 + 1 := by simp only [World.size_alloc]
  simp only [World.size_alloc] at x1 x2 x3
  have HX0 := hid x0
  have HX1 := hid x1
  have HX2 := hid x2
  have HX3 := hid x3
  have HXB := hid hxB
  have HXS := hid xS
  clear hxB x0 x1 x2 x3 xS
  have HR := hid hr
  have HRW := hid hrow
  clear hr hrow
  refine (callsIn_wide (n := 10)).1 ?_
  refine callsIn_of_wp_marks Try.func16 rfl trivial ?_ rfl
  simp only [Try.ntmps16, List.size_toArray, List.length_cons, List.length_nil, Nat.reduceAdd, Nat.reduceSub, Array.replicate_succ, Array.replicate_zero, List.push_toArray, List.append_toArray, List.nil_append, List.cons_append]
  gi_wp2_with fail
  refine ⟨trivial, ?_⟩
  refine (callsIn_wide.2 (each_word _ 1 1 _)).mono ?_
  rintro _ w4 ⟨rfl, hw4⟩
  simp only [World.size_alloc] at hw4 ⊢
  subst hw4
  gi_wp2_with fail
  generalize ((((w.alloc (.cells #[.int .i64 e0, .int .i64 e1] 29)).alloc (.cells #[.int .i64 0] 3)).alloc (.cells #[.slice a l.length cap] 22)).alloc (.cells #[.slice (some ⟨w.heap.size + 1 + 1, 0, none⟩) 1 1] 42)) = W5 at *
  have hR5 := HR.out.later HXB.out
  have hsz5 := HXS.out
  obtain ⟨s, hs⟩ : ∃ s, s = w.heap.size := ⟨_, rfl⟩
  rw [← hs] at HX0 HX1 HX2 HX3 hsz5 ⊢
  refine range_break (d := 6) (id := 0) Ok [(a, cap, l)] (fun i => i = s + 1) s (s + 1 + 1) (s + 1 + 1 + 1) 1
    (Ro.one HX2.out ⟨by omega, by omega⟩ hR5 (HR.out.kept (by omega) (by rw [← hs]; rintro i rfl; omega))) (by rw [flat_one]; exact row_ok HRW.out) (by simp) (by simp) HX3.out rfl (by omega)
    (fun pre W => Boxed W (s + 1) 3 (.int .i64 (pre.length : Int)) ∧ Xb W s (e0, e1) ∧ AllLe e0 pre)
    (Brk s e0 e1)
    (fun pre W W' row h hg hr => ⟨box_own h.1 hg hr, h.2.1.own hg hr, h.2.2⟩)
    (fun pre W W' row h hg hr => by obtain ⟨p, x, h1, h2, h3, h4⟩ := h; exact ⟨p, x, h1, box_own h2 hg hr, h3.own hg hr, h4⟩)
    ⟨HX1.out, HX0.out, fun x hx => by cases hx⟩ ?assign ?body ?exit ?fin
  case assign =>
    intro ll y z W K hK
    simp only [List.setIfInBounds_toArray, List.set_cons_zero, List.set_cons_succ] at hK ⊢
    gi_wp2
    exact hK
  case body =>
    rintro ll pre y z B W ⟨h1, h2, h3⟩ ⟨p1, p2, p3⟩ hpp hpl hX hsW _
    rw [flat_one] at hpl
    have hll := (row_len HRW.out).2
    dsimp only at p1 p2 p3
    have H1 := hid h1
    have H2 := hid h2
    have H3 := hid h3
    obtain ⟨c0, c1⟩ := hX.cells
    obtain ⟨d0, d1⟩ := h2.cells
    have d2 := h1.cell
    have f2 := h1.frozen
    dsimp only at c0 c1 d0 d1
    have hlz : (pre.length : Int) ≤ 4096 := by omega
    obtain ⟨n, hn⟩ : ∃ n, n = pre.length := ⟨_, rfl⟩
    have HN := hid hn
    rw [← hn] at hlz d2
    clear hs hsW hsz5 HX0 HX1 HX2 HX3 h1 h2 h3 hpl hll hpp hX hn
    simp only [List.setIfInBounds_toArray, List.set_cons_zero, List.set_cons_succ]
    by_cases hlt : e0 < y
    · gi_wp2_with fail
      exact ⟨Fb.refl _ _ _ _, rfl, pre, (y, z), rfl, H1.out, H2.out, H3.out, by dsimp only; omega⟩
    · gi_wp2_with fail
      refine ⟨Fb.set W _ (Nat.le_succ s) (.inl rfl), ?_, H2.out.other (by omega) _, ?_⟩
      · show Boxed _ (s + 1) 3 (.int .i64 ((pre ++ [(y, z)]).length : Int))
        rw [List.length_append, ← HN.out]
        exact H1.out.set _
      · exact allLe_snoc H3.out (by dsimp only; omega)
  case exit =>
    intro a W h
    exact wpIn_exit h
  case fin =>
    rintro D W hD hor hB hd
    have hst : Boxed W (s + 1) 3 (.int .i64 (aheadN l (e0, e1) : Int)) ∧ Xb W s (e0, e1) := by
      rw [flat_one] at hor
      rcases hor with ⟨h1, h2, h3⟩ | ⟨pre, ⟨m, hm⟩, p, x, rfl, h2, h3, h4, h5⟩
      · rw [ahead_all (e := (e0, e1)) h3]; exact ⟨h1, h2⟩
      · rw [← hm, List.append_assoc]
        rw [show p ++ ([x] ++ m) = p ++ x :: m from rfl, ahead_cut (e := (e0, e1)) h4 h5]
        exact ⟨h2, h3⟩
    have HAL := hid (ahead_le l (e0, e1))
    obtain ⟨n, hn⟩ : ∃ n, n = aheadN l (e0, e1) := ⟨_, rfl⟩
    have HWL : Hid (withL l (e0, e1) = (l.take n ++ [(e0, e1)] ++ l.drop n).foldl joinS []) := by show _ = _; rw [hn]; rfl
    rw [← hn] at hst HAL
    clear hn
    obtain ⟨h1, h2⟩ := hst
    have H1 := hid h1
    have H2 := hid h2
    have HD := hid hd
    have HHS := hid hs
    have HS5 := hid hsz5
    have HDD := hid hD
    have HB := hid hB
    clear hs hsz5 hD hB hd h1 h2 hor hR5 HX0 HX1 HX2 HX3
    obtain ⟨t0, ht0⟩ : ∃ t0, t0 = W.heap.size := ⟨_, rfl⟩
    have hyB := (Bn (Bn (bel_alloc W (.cells #[.slice none 0 0] 22)) (bel_alloc _ (.cells #[.pointer (some ⟨W.heap.size, 0, none⟩)] 46))) (bel_alloc _ (.cells #[.func (.func 21) #[] #[.pointer (some ⟨W.heap.size + 1, 0, none⟩)]] 44)))
    have y0 := (heap_old _ (.cells #[.func (.func 21) #[] #[.pointer (some ⟨W.heap.size + 1, 0, none⟩)]] 44) (heap_old _ (.cells #[.pointer (some ⟨W.heap.size, 0, none⟩)] 46) (heap_new W (.cells #[.slice none 0 0] 22))))
    have y1 := (heap_old _ (.cells #[.func (.func 21) #[] #[.pointer (some ⟨W.heap.size + 1, 0, none⟩)]] 44) (heap_new (W.alloc (.cells #[.slice none 0 0] 22)) (.cells #[.pointer (some ⟨W.heap.size, 0, none⟩)] 46)))
    have y2 := (heap_new ((W.alloc (.cells #[.slice none 0 0] 22)).alloc (.cells #[.pointer (some ⟨W.heap.size, 0, none⟩)] 46)) (.cells #[.func (.func 21) #[] #[.pointer (some ⟨W.heap.size + 1, 0, none⟩)]] 44))
    have yS : (((W.alloc (.cells #[.slice none 0 0] 22)).alloc (.cells #[.pointer (some ⟨W.heap.size, 0, none⟩)] 46)).alloc (.cells #[.func (.func 21) #[] #[.pointer (some ⟨W.heap.size + 1, 0, none⟩)]] 44)).heap.size = W.heap.size + 1 + 1 + 1 := by simp only [World.size_alloc]
    simp only [World.size_alloc] at y1 y2
    have HY0 := hid y0
    have HY1 := hid y1
    have HY2 := hid y2
    have HYB := hid hyB
    have HYS := hid yS
    clear hyB y0 y1 y2 yS
    have HT0 := hid ht0
    clear ht0
    gi_wp2_with fail
    refine ⟨trivial, ?_⟩
    refine (callsIn_wide.2 (putter_word _ _)).mono ?_
    rintro _ w4 ⟨rfl, hw4⟩
    simp only [World.size_alloc] at hw4 ⊢
    subst hw4
    gi_wp2_with fail
    generalize (((W.alloc (.cells #[.slice none 0 0] 22)).alloc (.cells #[.pointer (some ⟨W.heap.size, 0, none⟩)] 46)).alloc (.cells #[.func (.func 21) #[] #[.pointer (some ⟨W.heap.size + 1, 0, none⟩)]] 44)) = V at *
    have H1V := hid (box_later H1.out HYB.out)
    have H2V := hid (H2.out.later HYB.out)
    have HDV := hid ((HYB.out.block D (Array.getElem?_eq_some_iff.1 HD.out).1).trans HD.out)
    have hal := HAL.out
    have hroom := HR.out.room
    have hn0 := HR.out.none0
    rename_i K1 hK1 K0 hK0
    refine Go.wpIn_mono (Q := Exit.then K0 (fun _ _ _ => False)) ?_ (fun e a' w' h => by cases e <;> first | exact h | exact h.elim)
    refine wpIn_wide.2 ?_
    obtain ⟨a3, ha3⟩ : ∃ a3, a3 = (if cap = n then a else a.map fun x => x.add (n * 2)) := ⟨_, rfl⟩
    have HA3 := hid ha3
    obtain ⟨n3, hn3⟩ : ∃ n3, n3 = l.length - n := ⟨_, rfl⟩
    have HN3 := hid hn3
    clear ha3 hn3
    refine wp_region_held_drew (S := fun U => Boxed U (s + 1) 3 (.int .i64 (n : Int)) ∧ Xb U s (e0, e1)) (by kernel_rfl) ⟨H1V.out, H2V.out⟩ (fun hS => ?_)
    obtain ⟨Vd, hVd⟩ : ∃ Vd, Vd = V.drew := ⟨_, rfl⟩
    have HBD : Hid (Below V.heap.size V Vd) := by rw [hVd]; exact (Below.refl _ V).drew
    have HSD : Hid (Vd.heap.size = V.heap.size) := by rw [hVd]; rfl
    rw [← hVd] at hS ⊢
    clear hVd
    have hzB := (Bn (Bn (bel_alloc Vd (.cells #[.int .i64 e0, .int .i64 e1] 29)) (bel_alloc _ (.cells #[.slice a n cap, .slice (some ⟨Vd.heap.size, 0, none⟩) 1 1, .slice a3 n3 (cap - n)] 22))) (bel_alloc _ (.cells #[.slice (some ⟨Vd.heap.size + 1, 0, none⟩) 3 3] 42)))
    have z0 := (heap_old _ (.cells #[.slice (some ⟨Vd.heap.size + 1, 0, none⟩) 3 3] 42) (heap_old _ (.cells #[.slice a n cap, .slice (some ⟨Vd.heap.size, 0, none⟩) 1 1, .slice a3 n3 (cap - n)] 22) (heap_new Vd (.cells #[.int .i64 e0, .int .i64 e1] 29))))
    have z1 := (heap_old _ (.cells #[.slice (some ⟨Vd.heap.size + 1, 0, none⟩) 3 3] 42) (heap_new (Vd.alloc (.cells #[.int .i64 e0, .int .i64 e1] 29)) (.cells #[.slice a n cap, .slice (some ⟨Vd.heap.size, 0, none⟩) 1 1, .slice a3 n3 (cap - n)] 22)))
    have z2 := (heap_new ((Vd.alloc (.cells #[.int .i64 e0, .int .i64 e1] 29)).alloc (.cells #[.slice a n cap, .slice (some ⟨Vd.heap.size, 0, none⟩) 1 1, .slice a3 n3 (cap - n)] 22)) (.cells #[.slice (some ⟨Vd.heap.size + 1, 0, none⟩) 3 3] 42))
    have zS : (((Vd.alloc (.cells #[.int .i64 e0, .int .i64 e1] 29)).alloc (.cells #[.slice a n cap, .slice (some ⟨Vd.heap.size, 0, none⟩) 1 1, .slice a3 n3 (cap - n)] 22)).alloc (.cells #[.slice (some ⟨Vd.heap.size + 1, 0, none⟩) 3 3] 42)).heap.size = Vd.heap.size + 1 + 1 + 1 := by simp only [World.size_alloc]
    simp only [World.size_alloc] at z1 z2
    have HZ0 := hid z0
    have HZ1 := hid z1
    have HZ2 := hid z2
    have HZB := hid hzB
    have HZS := hid zS
    clear hzB z0 z1 z2 zS
    refine Ord.take (i := 0) (d := 22) (v := ?vD0) rfl rfl (by as_aux_lemma => kernel_rfl) (by as_aux_lemma => kernel_rfl) (by as_aux_lemma => kernel_rfl) (fun _ _ _ h => h) (by rfl) ?hD0 (by assumption) ?_
    case hD0 => intro w hSw; go_simp; try with_reducible rfl
    simp only [List.setIfInBounds_toArray, List.set_cons_zero, List.set_cons_succ]
    refine Ord.take (i := 1) (d := 23) (v := .int .i64 (n : Int)) rfl rfl (by as_aux_lemma => kernel_rfl) (by as_aux_lemma => kernel_rfl) (by as_aux_lemma => kernel_rfl) (fun _ _ _ h => h) (by rfl) ?hD1 (by assumption) ?_
    case hD1 => intro w hSw; have e := hSw.1.cell; go_simp; try with_reducible rfl
    simp only [List.setIfInBounds_toArray, List.set_cons_zero, List.set_cons_succ]
    refine Ord.take (i := 2) (d := 24) (v := .slice a n cap) rfl rfl (by as_aux_lemma => kernel_rfl) (by as_aux_lemma => kernel_rfl) (by as_aux_lemma => kernel_rfl) (fun _ _ _ h => h) (by rfl) ?hD2 (by assumption) ?_
    case hD2 => intro w hSw; go_simp; intro h; omega
    simp only [List.setIfInBounds_toArray, List.set_cons_zero, List.set_cons_succ]
    refine Ord.take (i := 3) (d := 25) (v := .agg #[.int .i64 e0, .int .i64 e1]) rfl rfl (by as_aux_lemma => kernel_rfl) (by as_aux_lemma => kernel_rfl) (by as_aux_lemma => kernel_rfl) (fun _ _ _ h => h) (by rfl) ?hD3 (by assumption) ?_
    case hD3 => intro w hSw; have e := hSw.2.cells.1; have e' := hSw.2.cells.2; go_simp; try with_reducible rfl
    simp only [List.setIfInBounds_toArray, List.set_cons_zero, List.set_cons_succ]
    refine Ord.take (i := 5) (d := 27) (v := ?vD5) rfl rfl (by as_aux_lemma => kernel_rfl) (by as_aux_lemma => kernel_rfl) (by as_aux_lemma => kernel_rfl) (fun _ _ _ h => h) (by rfl) ?hD5 (by assumption) ?_
    case hD5 => intro w hSw; go_simp; try with_reducible rfl
    simp only [List.setIfInBounds_toArray, List.set_cons_zero, List.set_cons_succ]
    refine Ord.take (i := 6) (d := 28) (v := .int .i64 (n : Int)) rfl rfl (by as_aux_lemma => kernel_rfl) (by as_aux_lemma => kernel_rfl) (by as_aux_lemma => kernel_rfl) (fun _ _ _ h => h) (by rfl) ?hD6 (by assumption) ?_
    case hD6 => intro w hSw; have e := hSw.1.cell; go_simp; try with_reducible rfl
    simp only [List.setIfInBounds_toArray, List.set_cons_zero, List.set_cons_succ]
    refine Ord.take (i := 7) (d := 29) (v := .slice a3 n3 (cap - n)) rfl rfl (by as_aux_lemma => kernel_rfl) (by as_aux_lemma => kernel_rfl) (by as_aux_lemma => kernel_rfl) (fun _ _ _ h => h) (by rfl) ?hD7 (by assumption) ?_
    case hD7 => intro w hSw; rw [HA3.out, HN3.out]; go_simp
    simp only [List.setIfInBounds_toArray, List.set_cons_zero, List.set_cons_succ]
    refine wpAnyH_ready (rs := [4]) (by as_aux_lemma => kernel_rfl) (by simp) (AllReadyH.cons rfl (fun K hK => ?_) AllReadyH.nil)
    go_simp
    have hS1 : Boxed (Vd.alloc (.cells #[.int .i64 e0, .int .i64 e1] 29)) (s + 1) 3 (.int .i64 (n : Int)) ∧ Xb (Vd.alloc (.cells #[.int .i64 e0, .int .i64 e1] 29)) s (e0, e1) := ⟨hS.1.alloc _, heap_old _ _ hS.2⟩
    refine hK.out _ _ hS1 (fun _ => ?_)
    clear hK K
    try simp only [List.setIfInBounds_toArray, List.set_cons_zero, List.set_cons_succ]
    refine wpAnyH_ready (rs := [8]) (by as_aux_lemma => kernel_rfl) (by simp) (AllReadyH.cons rfl (fun K hK => ?_) AllReadyH.nil)
    go_simp
    have hS2 := And.intro (hS1.1.alloc (.cells #[.slice a n cap, .slice (some ⟨Vd.heap.size, 0, none⟩) 1 1, .slice a3 n3 (cap - n)] 22)) (heap_old _ (.cells #[.slice a n cap, .slice (some ⟨Vd.heap.size, 0, none⟩) 1 1, .slice a3 n3 (cap - n)] 22) hS1.2)
    refine hK.out _ _ hS2 (fun _ => ?_)
    clear hK K
    try simp only [List.setIfInBounds_toArray, List.set_cons_zero, List.set_cons_succ]
    refine wpAnyH_ready (rs := [9]) (by as_aux_lemma => kernel_rfl) (by simp) (AllReadyH.cons rfl (fun K hK => ?_) AllReadyH.nil)
    go_simp
    refine (each_word _ 3 3 _).mono ?_
    rintro _ w5 ⟨rfl, hw5⟩
    simp only [World.size_alloc] at hw5 ⊢
    subst hw5
    refine hK.out _ _ ⟨hS2.1.alloc _, heap_old _ _ hS2.2⟩ (fun _ => ?_)
    clear hK K
    try simp only [List.setIfInBounds_toArray, List.set_cons_zero, List.set_cons_succ]
    refine wpAnyH_done (by as_aux_lemma => kernel_rfl) ?_ _
    refine hK0 _ _ ?_
    clear hK0 K0 hS hS1 hS2
    generalize (((Vd.alloc (.cells #[.int .i64 e0, .int .i64 e1] 29)).alloc (.cells #[.slice a n cap, .slice (some ⟨Vd.heap.size, 0, none⟩) 1 1, .slice a3 n3 (cap - n)] 22)).alloc (.cells #[.slice (some ⟨Vd.heap.size + 1, 0, none⟩) 3 3] 42)) = U at *
    have HBU := hid (Bn HBD.out HZB.out)
    have hDlt := (Array.getElem?_eq_some_iff.1 HD.out).1
    have HDL : Hid (D < t0) := by rw [HT0.out]; exact hDlt
    have hW0 : Below w.heap.size w W := HXB.out.trans (by rw [← HHS.out]; exact HB.out)
    have hU0 := Bn (Bn hW0 HYB.out) HBU.out
    have hRU := HR.out.later hU0
    have HU0 := hid hU0
    have yb0 := box_later (box_later HY0.out HBD.out) HZB.out
    have yb1 := box_later (box_later HY1.out HBD.out) HZB.out
    have yb2 := box_later (box_later HY2.out HBD.out) HZB.out
    have hsV := HYS.out
    have hsVd := HSD.out
    have hsU := HZS.out
    have hht := HT0.out
    have HDU := hid ((HBU.out.block D (Array.getElem?_eq_some_iff.1 HDV.out).1).trans HDV.out)
    rw [hsVd, hsV, ← hht] at HZ0 HZ1 HZ2 hsU
    rw [← hht] at yb0 yb1 yb2
    rw [hsVd, hsV, ← hht]
    have hst : s + 1 + 1 + 1 + 1 ≤ t0 := by have h1 := HB.out.size; have h2 := HS5.out; omega
    have HST := hid hst
    have HYB0 := hid yb0
    have HYB1 := hid yb1
    have HYB2 := hid yb2
    have hdr := hRU.drop HAL.out
    rw [← HA3.out] at hdr
    have HDR := hid hdr
    have HRU := hid hRU
    have HKL : Hid (∀ (T : Nat → Prop), (∀ i, T i → w.heap.size ≤ i) → 0 < l.length → Kept U.heap.size T a) := fun T hT => HR.out.kept (by have := HU0.out.size; omega) hT
    have HSU := hid hsU
    have htk : (l.take n).length = n := by rw [List.length_take]; have := HAL.out; omega
    have HTK := hid htk
    have HLD : Hid ((l.drop n).length = n3) := by show _ = _; rw [List.length_drop, HN3.out]
    have HSS : Hid (w.heap.size = s) := HHS.out.symm
    clear hsV hsVd hht yb0 yb1 yb2 hdr hRU hU0 hW0 HZB HYB HBD HB HXB H1V H2V HDV HZS HYS HSD hst htk hal hroom hn0 HD H1 H2 hDlt
    gi_wp2_with fail
    refine range_eachZ (d := 9) Ok [(a, cap, l.take n), (some ⟨t0 + 1 + 1 + 1, 0, none⟩, 1, [(e0, e1)]), (a3, cap - n, l.drop n)] (fun i => i = t0) t0 (t0 + 1 + 1 + 1 + 1) (t0 + 1 + 1 + 1 + 1 + 1) 3
      ⟨?hblk, ⟨by omega, by omega⟩, ?hrows⟩ ?hP (by simp) (by simp) HZ2.out rfl (by omega)
      (fun pre W => (∃ v, Pu W (t0 + 1) t0 U.heap.size v (pre.foldl joinS [])) ∧ Boxed W (t0 + 1 + 1) 44 (.func (.func 21) #[] #[.pointer (some ⟨t0 + 1, 0, none⟩)])) (fun c pre W => False)
      (fun pre W W' row h hg hr => ⟨h.1.elim (fun v hv => ⟨v, hv.ownK hg hr⟩), box_own h.2 hg hr⟩) (fun c pre W W' row h hg hr => h)
      ⟨⟨_, Pu.nil HYB1.out HYB0.out⟩, HYB2.out⟩ (Zb t0) (zb_own t0 _) (fun pre W y z h => h.1.elim (fun v hv => zb_new hv _)) ?assign ?body ?done ?stop
    case hblk =>
      refine HZ1.out.trans ?_
      simp [rwV, HTK.out, HLD.out]
    case hrows =>
      intro x hx
      simp only [List.mem_cons, List.not_mem_nil, or_false] at hx
      have hT : ∀ i, i = t0 → w.heap.size ≤ i := by rintro i rfl; have := HSS.out; have := HST.out; omega
      rcases hx with rfl | rfl | rfl
      · exact ⟨HRU.out.take n, fun h0 => HKL.out _ hT (by simp only [HTK.out] at h0; have := HAL.out; omega)⟩
      · refine ⟨⟨by simp, by show 1 ≤ maxLen; unfold maxLen; omega, (fun h => by cases h), fun _ => ⟨t0 + 1 + 1 + 1, 0, rfl, by omega, fun j hj => ?_⟩, fun j hj => ?_⟩, fun _ b off h => by cases h; exact ⟨by omega, by omega⟩⟩
        · obtain rfl : j = 0 := by simp at hj; omega
          exact ⟨Joins.cell_of_block HZ0.out 0, Joins.cell_of_block HZ0.out 1⟩
        · obtain rfl : j = 0 := by simp at hj; omega
          exact ⟨wf_mk_i64 (by show _ ≤ e0; omega) (by show e0 ≤ _; omega), wf_mk_i64 (by show _ ≤ e1; omega) (by show e1 ≤ _; omega)⟩
      · refine ⟨HDR.out.1, fun h0 b off h => ?_⟩
        have hlt : n < l.length := by simp only [List.length_drop] at h0; omega
        obtain ⟨b', off', h1, h2⟩ := HDR.out.2 hlt
        dsimp only at h
        rw [h2] at h
        cases h
        exact HKL.out _ hT (by omega) _ _ h1
    case hP =>
      intro x hx
      simp only [flatR, List.flatMap_cons, List.flatMap_nil, List.append_nil, List.mem_append, List.mem_singleton] at hx
      rcases hx with hx | rfl | hx
      · exact row_ok HRW.out x (List.mem_of_mem_take hx)
      · exact ⟨he0, he1, he2⟩
      · exact row_ok HRW.out x (List.mem_of_mem_drop hx)
    case assign =>
      intro ll y z W K hK
      simp only [List.setIfInBounds_toArray, List.set_cons_zero, List.set_cons_succ] at hK ⊢
      gi_wp2
      exact hK
    case body =>
      rintro ll pre y z B X ⟨⟨v, h1⟩, h3⟩ ⟨p1, p2, p3⟩ hpp hpl hX hz hsW _
      have q1 := join_bw pre hpp
      have hll := (row_len HRW.out).2
      have hpl2 : pre.length ≤ 4097 := by
        refine Nat.le_trans hpl ?_
        simp only [flatR, List.flatMap_cons, List.flatMap_nil, List.append_nil, List.length_append, List.length_singleton, HTK.out, List.length_drop]
        have := HAL.out
        omega
      dsimp only at p1 p2 p3
      have HSN : Hid ((pre ++ [(y, z)]).foldl joinS [] = putL (pre.foldl joinS []) y (y + z)) := join_snoc pre (y, z)
      have HSW := hid hsW
      have H3 := hid h3
      have HX := hid hX
      obtain ⟨acc, hacc⟩ : ∃ acc, acc = pre.foldl joinS [] := ⟨_, rfl⟩
      rw [← hacc] at h1 q1 HSN
      have H1 := hid h1
      have HNE := hid (zb_ne h1 hz)
      have HNB := hid (x_not_box hX h1.box)
      have HBL : Hid (B < X.heap.size) := (Array.getElem?_eq_some_iff.1 hX).1
      have HEX : Hid (∀ V, Calls Try.prog 18 #[.agg #[.int .i64 y, .int .i64 z]] V fun e w' => e = .returned (.int .i64 (y + z)) ∧ Below V.heap.size V w') := fun V => end_word (y, z) V (by dsimp only; omega) (by dsimp only; omega)
      have HQ0 := hid q1
      have HPL := hid hpl2
      clear hsW HZ0 HZ1 HZ2 h1 h3 hpl hll hpp hX q1 hz hacc hpl2 hsU
      simp only [List.setIfInBounds_toArray, List.set_cons_zero, List.set_cons_succ]
      gi_wp2_with fail
      refine Go.wpIn_mono (Q := Exit.then (fun _ V => Fb t0 U.heap.size (fun i => i = t0) X V ∧ (∃ v, Pu V (t0 + 1) t0 U.heap.size v ((pre ++ [(y, z)]).foldl joinS [])) ∧ Boxed V (t0 + 1 + 1) 44 (.func (.func 21) #[] #[.pointer (some ⟨t0 + 1, 0, none⟩)])) (fun _ _ _ => False)) ?_ (fun e a' w' h => by cases e <;> first | exact h | exact h.elim)
      refine round_held (S := fun V => Xb V B (y, z) ∧ Boxed V (t0 + 1 + 1) 44 (.func (.func 21) #[] #[.pointer (some ⟨t0 + 1, 0, none⟩)])) (by kernel_rfl) (by kernel_rfl) (fun _ _ h => h) ⟨HX.out, H3.out⟩ (fun hS0 => ?_)
      have HZ0 : Hid (Below X.heap.size X X.drew) := (Below.refl _ X).drew
      refine Ord.take (i := 0) (d := 33) (v := ?vE0) rfl rfl (by as_aux_lemma => kernel_rfl) (by as_aux_lemma => kernel_rfl) (by as_aux_lemma => kernel_rfl) (fun _ _ _ h => h) (by rfl) ?hE0 (by assumption) ?_
      case hE0 => intro w hSw; have e := hSw.2.cell; go_simp; try with_reducible rfl
      simp only [List.setIfInBounds_toArray, List.set_cons_zero, List.set_cons_succ]
      refine Ord.take (i := 1) (d := 34) (v := ?vE1) rfl rfl (by as_aux_lemma => kernel_rfl) (by as_aux_lemma => kernel_rfl) (by as_aux_lemma => kernel_rfl) (fun _ _ _ h => h) (by rfl) ?hE1 (by assumption) ?_
      case hE1 => intro w hSw; go_simp; try with_reducible rfl
      simp only [List.setIfInBounds_toArray, List.set_cons_zero, List.set_cons_succ]
      refine Ord.take (i := 2) (d := 35) (v := .int .i64 y) rfl rfl (by as_aux_lemma => kernel_rfl) (by as_aux_lemma => kernel_rfl) (by as_aux_lemma => kernel_rfl) (fun _ _ _ h => h) (by rfl) ?hE2 (by assumption) ?_
      case hE2 => intro w hSw; have e := hSw.1.cells.1; have e' := hSw.1.cells.2; go_simp; try with_reducible rfl
      simp only [List.setIfInBounds_toArray, List.set_cons_zero, List.set_cons_succ]
      refine Ord.take (i := 3) (d := 36) (v := .agg #[.int .i64 y, .int .i64 z]) rfl rfl (by as_aux_lemma => kernel_rfl) (by as_aux_lemma => kernel_rfl) (by as_aux_lemma => kernel_rfl) (fun _ _ _ h => h) (by rfl) ?hE3 (by assumption) ?_
      case hE3 => intro w hSw; have e := hSw.1.cells.1; have e' := hSw.1.cells.2; go_simp; try with_reducible rfl
      simp only [List.setIfInBounds_toArray, List.set_cons_zero, List.set_cons_succ]
      refine wpAnyH_ready (rs := [4]) (by as_aux_lemma => kernel_rfl) (by simp) (AllReadyH.cons rfl (fun K hK => ?_) AllReadyH.nil)
      go_simp
      refine (HEX.out _).mono ?_
      rintro _ E1 ⟨rfl, hbE1⟩
      have hS1 := And.intro (hS0.1.later hbE1) (box_later hS0.2 hbE1)
      have HZ1 := hid (HZ0.out.trans (hbE1.mono HZ0.out.size))
      refine hK.out _ _ hS1 (fun _ => ?_)
      clear hK K
      try simp only [List.setIfInBounds_toArray, List.set_cons_zero, List.set_cons_succ]
      refine wpAnyH_ready (rs := [5]) (by as_aux_lemma => kernel_rfl) (by simp) (AllReadyH.cons rfl (fun K hK => ?_) AllReadyH.nil)
      go_simp
      have HPT := put_any y (y + z) (t0 + 1) t0 U.heap.size t0 v acc E1 (H1.out.kept HZ1.out) (HQ0.out.bd (by have := HPL.out; omega)) p1 (by omega) (by have := HSU.out; omega) (by have := HSU.out; omega) (Nat.le_refl _) (by have := HSU.out; omega) (Nat.le_trans HSW.out HZ1.out.size)
      unfold PutPost at HPT
      refine HPT.mono ?_
      clear HPT
      rintro _ u1 ⟨⟨x, rfl⟩, ⟨vu1, hpu1, _⟩, hfu1, hku1⟩
      have hSu1 := And.intro ((hku1 B (Nat.lt_of_lt_of_le HBL.out HZ1.out.size) HNB.out HNE.out).trans hS1.1) (hfu1.keep hS1.2 (by have := HSU.out; omega) (by omega))
      refine hK.out _ _ hSu1 (fun _ => ?_)
      clear hK K
      try simp only [List.setIfInBounds_toArray, List.set_cons_zero, List.set_cons_succ]
      refine wpAnyH_done (by as_aux_lemma => kernel_rfl) ?_ _
      refine ⟨(Fb.below HZ1.out (by have := HSU.out; omega) HSW.out).trans hfu1, ⟨vu1, ?_⟩, hSu1.2⟩
      rw [HSN.out]
      exact hpu1
    case done =>
      rintro D2 X hD2 ⟨⟨v, h1⟩, h3⟩ hBX hd2
      have efl : flatR [(a, cap, l.take n), (some ⟨t0 + 1 + 1 + 1, 0, none⟩, 1, [(e0, e1)]), (a3, cap - n, l.drop n)] = l.take n ++ [(e0, e1)] ++ l.drop n := by simp [flatR]
      rw [efl, ← HWL.out] at h1
      have c1 := h1.box.cell
      have HP1 := hid h1
      have HD2 := hid hd2
      have HDD2 := hid hD2
      have hne : D ≠ D2 := by have := HDL.out; have := HSU.out; omega
      have hbx := hBX
      have hD1 : X.heap[D]? = some (.deferred (some [])) := (hBX.block D HDL.out).trans HDU.out
      have HD1 := hid hD1
      have HFB := hid (HU0.out.trans (hBX.mono (by have := HSS.out; have := HST.out; omega)))
      have HNE := hid hne
      clear hd2 h1 h3 hBX hD2 hD1 hbx hsU HZ0 HZ1 HZ2 hne efl
      gi_wp2_with fail
      refine ⟨by simp, .inl ⟨_, _, rfl, run_takeDeferred HD2.out, ?_⟩⟩
      have hd1 : (X.putObj D2 (.deferred none)).heap[D]? = some (.deferred (some [])) := (World.putObj_heap_other HNE.out).trans HD1.out
      refine ⟨by simp, .inl ⟨_, _, rfl, run_takeDeferred hd1, ?_⟩⟩
      refine ⟨_, results_tmp rfl _ _ _, v, rfl, ?_, ?_⟩
      · exact own_base (ownsRow_putObj (ownsRow_putObj HP1.out.own _ HD2.out rfl) _ hd1 rfl) (by have := HSU.out; have := HST.out; have := HSS.out; omega)
      · have e1 := HSU.out
        have e2 := HST.out
        have e3 := HSS.out
        have e4 := HDD2.out
        have e5 := HDD.out
        have e6 := HS5.out
        exact (HFB.out.trans (belowK_b (w := w) (Nat.le_refl _) _ D2 _ _ (by omega) HD2.out rfl rfl)).trans (belowK_b (w := w) (Nat.le_refl _) _ D _ _ (by omega) hd1 rfl rfl)
    case stop =>
      rintro D c pre W _ _ h _ _
      exact h.elim
end Go.Proofs.Ytkfoeijhhfaceab
/-
  The contracts of region's Has, checkBoth, Claim, Give, Other and All.
-/
namespace Go.Proofs.Ytkfoeijhhfaceab
open Go.RowKit Go.Shelf
attribute [local go_sem] Oper.semAt_some

def hasO (l : List Ext) (e : Ext) : Bool := decide (chkO 4096 l = 0) && lieB 4096 e && hldB l e
def bothO (b : Int) (l : List Ext) (e : Ext) : Int := if chkO b l ≠ 0 then chkO b l else if lieB b e = true then 0 else 100
def claimO (b : Int) (l : List Ext) (e : Ext) : List Ext × Int := if bothO b l e ≠ 0 then ([], bothO b l e) else if hldB l e = true then (wout l e, 0) else ([], 102)
def giveO (b : Int) (l : List Ext) (e : Ext) : List Ext × Int := if bothO b l e ≠ 0 then ([], bothO b l e) else if metB l e = true then ([], 102) else (withL l e, 0)
def otherO (b : Int) (l : List Ext) : List Ext × Int := if chkO b l ≠ 0 then ([], chkO b l) else (btw b l, 0)
/-- A row and an error are handed back. -/
def RwPost (o : List Ext × Int) (w : World) (e : Ending) (w' : World) : Prop := ∃ v, e = .returned (.tuple #[v, .int .i64 o.2]) ∧ w'.ownsRow w.heap.size 29 2 v o.1.length (o.1.flatMap extC) ∧ Below w.heap.size w w'
theorem both_ok {b : Int} {l : List Ext} {e : Ext} (h : bothO b l e = 0) : Row b l ∧ 0 ≤ e.1 ∧ 1 ≤ e.2 ∧ e.1 + e.2 ≤ b := by
  unfold bothO at h
  by_cases h1 : chkO b l ≠ 0
  · rw [if_pos h1] at h; exact absurd h h1
  · rw [if_neg h1] at h
    by_cases h2 : lieB b e = true
    · exact ⟨chk_row (Decidable.not_not.1 h1), (lieB_iff b e).1 h2⟩
    · rw [if_neg h2] at h; omega
set_option maxHeartbeats 6400000 in
set_option maxRecDepth 100000 in
theorem both_word (b : Int) (a : Option Addr) (cap : Nat) (l : List Ext) (e0 e1 : Int) (w : World) (hr : Rx w a cap l) (he : (Lit.int .i64 e0).wf = true) :
    Calls Try.prog 14 #[.int .i64 b, .slice a l.length cap, .agg #[.int .i64 e0, .int .i64 e1]] w fun e w' => e = .returned (.int .i64 (bothO b l (e0, e1))) ∧ Below w.heap.size w w' := by
  have hB := bel_alloc w (.cells #[.int .i64 e0, .int .i64 e1] 29)
  have HXE : Hid (Xb (w.alloc (.cells #[.int .i64 e0, .int .i64 e1] 29)) w.heap.size (e0, e1)) := heap_new w _
  have HC := hid (check_any b a cap l (w.alloc (.cells #[.int .i64 e0, .int .i64 e1] 29)) (hr.later hB))
  have HB := hid hB
  unfold bothO
  clear hB hr
  by_cases h0 : chkO b l = 0
  · have hrow := chk_row h0
    have HL : Hid (∀ W, Calls Try.prog 17 #[.int .i64 b, .agg #[.int .i64 e0, .int .i64 e1]] W fun e w' => e = .returned (.bool (lieB b (e0, e1))) ∧ Below W.heap.size W w') := fun W => lies_word b (e0, e1) W hrow.lo hrow.hi he
    rw [h0] at HC ⊢
    rw [if_neg (by simp)]
    clear h0 hrow he
    generalize l.length = n at *
    by_cases hl : lieB b (e0, e1) = true
    · rw [if_pos hl]
      rw [hl] at HL
      go_enter Try.func14, Try.ntmps14
      go_wp2_with fail
      refine HC.out.mono ?_
      rintro _ w1 ⟨rfl, hb1⟩
      obtain ⟨c0, c1⟩ := (HXE.out.later hb1).cells
      have HB1 := hid (Bn HB.out hb1)
      have HL1 := hid (HL.out w1)
      dsimp only at c0 c1
      clear hb1 HC HXE HB HL
      go_wp2_with fail
      refine HL1.out.mono ?_
      rintro _ w2 ⟨rfl, hb2⟩
      have HB2 := hid (Bn HB1.out hb2)
      clear hb2 HB1 HL1 c0 c1
      go_wp2
      go_ret
      exact ⟨rfl, HB2.out⟩
    · rw [if_neg hl]
      rw [show lieB b (e0, e1) = false from by simpa using hl] at HL
      go_enter Try.func14, Try.ntmps14
      go_wp2_with fail
      refine HC.out.mono ?_
      rintro _ w1 ⟨rfl, hb1⟩
      obtain ⟨c0, c1⟩ := (HXE.out.later hb1).cells
      have HB1 := hid (Bn HB.out hb1)
      have HL1 := hid (HL.out w1)
      dsimp only at c0 c1
      clear hb1 HC HXE HB HL
      go_wp2_with fail
      refine HL1.out.mono ?_
      rintro _ w2 ⟨rfl, hb2⟩
      have HB2 := hid (Bn HB1.out hb2)
      clear hb2 HB1 HL1 c0 c1
      go_wp2
      go_ret
      exact ⟨rfl, HB2.out⟩
  · rw [if_pos h0]
    generalize chkO b l = c at *
    have hd : decide (c = 0) = false := decide_eq_false h0
    generalize l.length = n at *
    clear HXE he
    go_enter Try.func14, Try.ntmps14
    go_wp2_with fail
    refine HC.out.mono ?_
    rintro _ w1 ⟨rfl, hb1⟩
    have HB1 := hid (Bn HB.out hb1)
    clear hb1 HC HB
    go_wp2
    go_ret
    exact ⟨rfl, HB1.out⟩

set_option maxHeartbeats 6400000 in
set_option maxRecDepth 100000 in
theorem give_word (b : Int) (a : Option Addr) (cap : Nat) (l : List Ext) (e0 e1 : Int) (w : World) (hr : Rx w a cap l) (he : (Lit.int .i64 e0).wf = true) :
    Calls Try.prog 9 #[.int .i64 b, .slice a l.length cap, .agg #[.int .i64 e0, .int .i64 e1]] w (RwPost (giveO b l (e0, e1)) w) := by
  have hB := bel_alloc w (.cells #[.int .i64 e0, .int .i64 e1] 29)
  have HXE : Hid (Xb (w.alloc (.cells #[.int .i64 e0, .int .i64 e1] 29)) w.heap.size (e0, e1)) := heap_new w _
  have HC := hid (both_word b a cap l e0 e1 (w.alloc (.cells #[.int .i64 e0, .int .i64 e1] 29)) (hr.later hB) he)
  have HB := hid hB
  have HR := hid hr
  unfold RwPost giveO
  clear hB hr he
  obtain ⟨c, hc⟩ : ∃ c, c = bothO b l (e0, e1) := ⟨_, rfl⟩
  rw [← hc] at HC ⊢
  by_cases h0 : c = 0
  · subst h0
    obtain ⟨hrow, k1, k2, k3⟩ := both_ok hc.symm
    have HRW := hid hrow
    have hhi := hrow.hi
    dsimp only at k1 k2 k3
    have HT : Hid (∀ W, Below w.heap.size w W → Calls Try.prog 15 #[.slice a l.length cap, .agg #[.int .i64 e0, .int .i64 e1]] W fun e w' => e = .returned (.bool (metB l (e0, e1))) ∧ Below W.heap.size W w') := fun W hW => meets_word e0 e1 a cap l W (HR.out.later hW) (row_wide HRW.out) k1 k2 (by omega)
    have HM : Hid (∀ W, Below w.heap.size w W → Calls Try.prog 16 #[.slice a l.length cap, .agg #[.int .i64 e0, .int .i64 e1]] W (RowPost (withL l (e0, e1)) W)) := fun W hW => with_word e0 e1 a cap l W (HR.out.later hW) (row_wide HRW.out) k1 k2 (by omega)
    unfold RowPost at HM
    rw [if_neg (by simp)]
    clear hc hrow HRW HR k1 k2 k3 hhi
    generalize l.length = n at *
    by_cases ht : metB l (e0, e1) = true
    · rw [if_pos ht]
      rw [ht] at HT
      clear ht
      go_enter Try.func9, Try.ntmps9
      go_wp2_with fail
      refine HC.out.mono ?_
      rintro _ w1 ⟨rfl, hb1⟩
      have HX1 := hid (HXE.out.later hb1)
      obtain ⟨c0, c1⟩ := HX1.out.cells
      have HB1 := hid (Bn HB.out hb1)
      have HT1 := hid (HT.out w1 HB1.out)
      dsimp only at c0 c1
      clear hb1 HC HXE HB HT
      go_wp2_with fail
      refine HT1.out.mono ?_
      rintro _ w2 ⟨rfl, hb2⟩
      obtain ⟨d0, d1⟩ := (HX1.out.later hb2).cells
      have HB2 := hid (Bn HB1.out hb2)
      have HM2 := hid (HM.out w2 HB2.out)
      dsimp only at d0 d1
      clear hb2 HB1 HT1 HX1 c0 c1 HM
      go_wp2
      go_ret2
      exact ⟨_, rfl, ⟨rfl, .inl ⟨rfl, rfl⟩⟩, HB2.out⟩
    · rw [if_neg ht]
      rw [show metB l (e0, e1) = false from by simpa using ht] at HT
      clear ht
      go_enter Try.func9, Try.ntmps9
      go_wp2_with fail
      refine HC.out.mono ?_
      rintro _ w1 ⟨rfl, hb1⟩
      have HX1 := hid (HXE.out.later hb1)
      obtain ⟨c0, c1⟩ := HX1.out.cells
      have HB1 := hid (Bn HB.out hb1)
      have HT1 := hid (HT.out w1 HB1.out)
      dsimp only at c0 c1
      clear hb1 HC HXE HB HT
      go_wp2_with fail
      refine HT1.out.mono ?_
      rintro _ w2 ⟨rfl, hb2⟩
      obtain ⟨d0, d1⟩ := (HX1.out.later hb2).cells
      have HB2 := hid (Bn HB1.out hb2)
      have HM2 := hid (HM.out w2 HB2.out)
      dsimp only at d0 d1
      clear hb2 HB1 HT1 HX1 c0 c1 HM
      go_wp2_with fail
      refine HM2.out.mono ?_
      rintro _ w3 ⟨v, rfl, hown, hb3⟩
      have HB3 := hid (Bn HB2.out hb3)
      have HO := hid (own_base hown HB2.out.size)
      clear hb3 hown HM2
      go_wp2
      go_ret2
      exact ⟨v, rfl, HO.out, HB3.out⟩
  · rw [if_pos h0]
    have hd : decide (c = 0) = false := decide_eq_false h0
    clear hc HXE HR
    generalize l.length = n at *
    go_enter Try.func9, Try.ntmps9
    go_wp2_with fail
    refine HC.out.mono ?_
    rintro _ w1 ⟨rfl, hb1⟩
    have HB1 := hid (Bn HB.out hb1)
    clear hb1 HC HB
    go_wp2
    go_ret2
    exact ⟨_, rfl, ⟨rfl, .inl ⟨rfl, rfl⟩⟩, HB1.out⟩

theorem rx_nil (w : World) : Rx w none 0 [] := ⟨Nat.le_refl _, by unfold maxLen; omega, fun _ => rfl, fun h => by simp at h, fun j hj => by simp at hj⟩
end Go.Proofs.Ytkfoeijhhfaceab
