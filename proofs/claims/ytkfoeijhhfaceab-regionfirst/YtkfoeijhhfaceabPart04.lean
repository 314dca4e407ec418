/-
  A range over rows of extents: one rule for all that region's functions do with each extent.
-/
import Derived.Test.YtkfoeijhhfaceabPart03
namespace Go.Proofs.Ytkfoeijhhfaceab
open Go.RowKit Go.Shelf
attribute [local go_sem] Oper.semAt_some

/-- The variable of a round. -/
def Xb (W : World) (B : Nat) (x : Ext) : Prop := W.heap[B]? = some (.cells (extV x) 29 (0, 0))
theorem Xb.own {W W' : World} {B n : Nat} {x : Ext} {row : Option Nat} (h : Xb W B x) (hg : W.grownBy W' row) (hr : ∀ r, row = some r → n ≤ r ∧ ∃ o : Obj, W.heap[r]? = some o ∧ o.isCells = false) : Xb W' B x := by
  refine (hg.block B (Array.getElem?_eq_some_iff.1 h).1 (fun e => ?_)).trans h
  obtain ⟨_, o, ho, hc⟩ := hr B e.symm
  rw [show W.heap[B]? = _ from h] at ho
  cases ho
  cases hc
theorem Xb.cells {W : World} {B : Nat} {x : Ext} (h : Xb W B x) : W.cell? ⟨B, 0, none⟩ = some (.int .i64 x.1) ∧ W.cell? ⟨B, 1, none⟩ = some (.int .i64 x.2) := ⟨Joins.cell_of_block h 0, Joins.cell_of_block h 1⟩
theorem Xb.later {W W' : World} {B : Nat} {x : Ext} (h : Xb W B x) (hb : Below W.heap.size W W') : Xb W' B x := (hb.block B (Array.getElem?_eq_some_iff.1 h).1).trans h
theorem box_own {W W' : World} {B n : Nat} {t : TypeId} {v : Value} {row : Option Nat} (h : Boxed W B t v) (hg : W.grownBy W' row) (hr : ∀ r, row = some r → n ≤ r ∧ ∃ o : Obj, W.heap[r]? = some o ∧ o.isCells = false) : Boxed W' B t v := by
  refine h.kept hg (fun e => ?_)
  obtain ⟨_, o, ho, hc⟩ := hr B e.symm
  rw [show W.heap[B]? = _ from h] at ho
  cases ho
  cases hc
theorem box_later {W W' : World} {B : Nat} {t : TypeId} {v : Value} (h : Boxed W B t v) (hb : Below W.heap.size W W') : Boxed W' B t v := (hb.block B h.lt).trans h
theorem ax_own {α : Type} (n : Nat) (f : α → Ext) (F : Nat → Act) (Z : Nat → World → Prop) (hZ : OwnFrom n Z) (x : α) (a' : Act) : OwnFrom n (fun (_ : Unit) W => ∃ B, a' = F B ∧ Xb W B (f x) ∧ Z B W) := by
  rintro _ W W' row ⟨B, e, h, k⟩ hg hr
  exact ⟨B, e, h.own hg hr, hZ B W W' row k hg hr⟩
theorem bel_own {W W' : World} {n₀ n : Nat} {w : World} {row : Option Nat} (h : Below n₀ w W) (hn : n₀ ≤ n) (hw : n₀ ≤ w.heap.size) (hg : W.grownBy W' row) (hr : ∀ r, row = some r → n ≤ r ∧ ∃ o : Obj, W.heap[r]? = some o ∧ o.isCells = false) : Below n₀ w W' :=
  h.grown hg (Nat.le_trans hw h.size) (fun k e => Nat.le_trans hn (hr k e).1)

/-- How a round may end. -/
def rndQ (n₀ base : Nat) (T : Nat → Prop) (I : List Ext → World → Prop) (Ix : Code → List Ext → World → Prop) (xs : List Ext) (W : World) : Exit → Act → World → Prop
  | .normal, _, W' => Fb n₀ base T W W' ∧ I xs W'
  | .ret, _, W' => Fb n₀ base T W W' ∧ Ix .ret xs W'
  | .exit id, _, W' => Fb n₀ base T W W' ∧ Ix (.exit id) xs W'
  | .goto t, _, W' => Fb n₀ base T W W' ∧ Ix (.goto t) xs W'
  | .panic _, _, _ => False
  | .outgrown, _, _ => False
theorem zip1 (q : Tmp) (v : Value) (ts : Array Value) : ((#[q] : Array Tmp).zip #[v]).foldl (fun t (p : Tmp × Value) => t.setIfInBounds p.1 p.2) ts = ts.setIfInBounds q v := by simp

theorem range_eachZ {ts : Array Value} {df : List Deferred} {g q d : Tmp} {assign body : Code} {Q : Exit → Act → World → Prop} {w : World} (P : Ext → Prop) (L : List Rw) (T : Nat → Prop) (n₀ gR Bo cap : Nat) (hro : Ro w w.heap.size T gR L) (hP : ∀ x, x ∈ flatR L → P x) (hL : L.length ≤ 3) (hcap : L.length ≤ cap)
    (hbo : w.heap[Bo]? = some (.cells #[.slice (some ⟨gR, 0, none⟩) L.length cap] 42 (0, 0))) (hg : Act.eval ⟨ts, df⟩ (.tmp g) = .func (.func 19) #[] #[.pointer (some ⟨Bo, 0, none⟩)]) (hn : n₀ ≤ w.heap.size)
    (I : List Ext → World → Prop) (Ix : Code → List Ext → World → Prop) (hI : OwnFrom w.heap.size I) (hIx : ∀ c, OwnFrom w.heap.size (Ix c)) (h0 : I [] w) (Z : Nat → World → Prop) (hZ : OwnFrom w.heap.size Z) (hZ0 : ∀ (pre : List Ext) (W : World) (y z : Int), I pre W → Z W.heap.size (W.alloc (.cells #[.int .i64 y, .int .i64 z] 29)))
    (hassign : ∀ (l : Nat) (y z : Int) (W : World) (K : Act → World → Prop), K ⟨(ts.setIfInBounds q (.agg #[.int .i64 y, .int .i64 z])).setIfInBounds d (.pointer (some ⟨W.heap.size, 0, none⟩)), []⟩ (W.alloc (.cells #[.int .i64 y, .int .i64 z] 29)) →
      assign.wpIn (Fence.wide.inRound l) 8 Try.prog (Exit.then K (fun _ _ _ => False)) ⟨ts.setIfInBounds q (.agg #[.int .i64 y, .int .i64 z]), []⟩ W)
    (hbody : ∀ (l : Nat) (pre : List Ext) (y z : Int) (B : Nat) (W : World), I pre W → P (y, z) → (∀ x, x ∈ pre → P x) → pre.length ≤ (flatR L).length → Xb W B (y, z) → Z B W → w.heap.size ≤ W.heap.size → Below n₀ w W →
      body.wpIn (Fence.wide.inRound l) 8 Try.prog (rndQ n₀ w.heap.size T I Ix (pre ++ [(y, z)]) W) ⟨(ts.setIfInBounds q (.agg #[.int .i64 y, .int .i64 z])).setIfInBounds d (.pointer (some ⟨B, 0, none⟩)), []⟩ W)
    (hdone : ∀ (D : Nat) (W : World), w.heap.size ≤ D → I (flatR L) W → Below n₀ w W → W.heap[D]? = some (.deferred (some [])) → Q .normal ⟨ts, { target := .collected D, args := #[] } :: df⟩ W)
    (hstop : ∀ (D : Nat) (c : Code) (pre : List Ext) (W : World), w.heap.size ≤ D → pre <+: flatR L → Ix c pre W → Below n₀ w W → W.heap[D]? = some (.deferred (some [])) → c.wpIn Fence.wide 10 Try.prog Q ⟨ts, { target := .collected D, args := #[] } :: df⟩ W) :
    (Code.rangeFunc (.tmp g) #[q] assign body).wpIn Fence.wide 10 Try.prog Q ⟨ts, df⟩ w := by
  refine wpIn_rangeFunc_ownH (a := ⟨ts, df⟩) (n := 10) rfl (by omega) (gf := 19) (lb := #[.pointer (some ⟨Bo, 0, none⟩)]) hg trivial (enters_of Try.func19 (by kernel_rfl) rfl) (each_stops P L w.heap.size T gR Bo cap w hro hP (Nat.le_refl _) hL hcap hbo) (fun h k => h.trans k) (Kt.put (Nat.le_refl _)) (Below.refl _ _) (fun _ => rfl)
    (fun pre W => I (vals pre) W ∧ Below n₀ w W) (fun c pre W => Ix c (vals pre) W ∧ Below n₀ w W)
    (fun s W W' row hs hg hr => ⟨hI (vals s) W W' row hs.1 hg hr, bel_own hs.2 hn hn hg hr⟩)
    (fun c s W W' row hs hg hr => ⟨hIx c (vals s) W W' row hs.1 hg hr, bel_own hs.2 hn hn hg hr⟩)
    ⟨h0, Below.refl _ _⟩
    (fun x a' W => ∃ B, a' = ⟨(ts.setIfInBounds q (.agg (extV x.1))).setIfInBounds d (.pointer (some ⟨B, 0, none⟩)), []⟩ ∧ Xb W B x.1 ∧ Z B W) ?hax ?has ?hbo ?hdo ?hst
  case hax => exact fun x a' => ax_own _ (fun x => x.1) (fun B => ⟨(ts.setIfInBounds q (.agg (extV x.1))).setIfInBounds d (.pointer (some ⟨B, 0, none⟩)), []⟩) Z hZ x a'
  case has =>
    rintro l pre ⟨⟨y, z⟩, hx⟩ W K ⟨hi, hb⟩ hK
    have hw : n₀ ≤ W.heap.size := Nat.le_trans hn hb.size
    have hA := bel_alloc W (.cells #[.int .i64 y, .int .i64 z] 29)
    have hgr := grown_of_below hA
    have := hassign l y z W K (hK _ _ ⟨hA.size, fun k o _ hk _ => (hA.block k (Array.getElem?_eq_some_iff.1 hk).1).trans hk⟩ (Kt.below hA (Nat.le_trans (Nat.le_refl _) hb.size)) ⟨hI _ _ _ none hi hgr (fun r e => by cases e), bel_own (n := w.heap.size) hb hn hn hgr (fun r e => by cases e)⟩ ⟨W.heap.size, rfl, heap_new W _, hZ0 _ _ _ _ hi⟩)
    unfold encX extV
    rw [zip1]
    exact this
  case hbo =>
    rintro l pre ⟨⟨y, z⟩, hx⟩ a' W _ _ ⟨hi, hb⟩ ⟨B, rfl, hX, hz⟩ hlen
    have h1 := hbody l (vals pre) y z B W hi hx (vals_mem pre) (by rw [vals_len]; omega) hX hz hb.size hb
    refine Go.wpIn_mono h1 ?_
    intro e a'' W'' h2
    cases e with
    | normal => exact ⟨h2.1.oth.from _, h2.1.kt, by rw [vals_snoc]; exact h2.2, hb.trans h2.1.bel⟩
    | ret => exact ⟨h2.1.oth.from _, by rw [vals_snoc]; exact h2.2, hb.trans h2.1.bel⟩
    | exit id => exact ⟨h2.1.oth.from _, by rw [vals_snoc]; exact h2.2, hb.trans h2.1.bel⟩
    | goto t => exact ⟨h2.1.oth.from _, by rw [vals_snoc]; exact h2.2, hb.trans h2.1.bel⟩
    | panic c => exact h2
    | outgrown => exact h2
  case hdo =>
    rintro D xs W hD hS ⟨hi, hb⟩ hd
    rw [hS] at hi
    exact hdone D W hD hi hb hd
  case hst =>
    rintro D c pre W hD hS ⟨hi, hb⟩ hd
    exact hstop D c (vals pre) W hD hS hi hb hd
theorem range_each {ts : Array Value} {df : List Deferred} {g q d : Tmp} {assign body : Code} {Q : Exit → Act → World → Prop} {w : World} (P : Ext → Prop) (L : List Rw) (T : Nat → Prop) (n₀ gR Bo cap : Nat) (hro : Ro w w.heap.size T gR L) (hP : ∀ x, x ∈ flatR L → P x) (hL : L.length ≤ 3) (hcap : L.length ≤ cap)
    (hbo : w.heap[Bo]? = some (.cells #[.slice (some ⟨gR, 0, none⟩) L.length cap] 42 (0, 0))) (hg : Act.eval ⟨ts, df⟩ (.tmp g) = .func (.func 19) #[] #[.pointer (some ⟨Bo, 0, none⟩)]) (hn : n₀ ≤ w.heap.size)
    (I : List Ext → World → Prop) (Ix : Code → List Ext → World → Prop) (hI : OwnFrom w.heap.size I) (hIx : ∀ c, OwnFrom w.heap.size (Ix c)) (h0 : I [] w)
    (hassign : ∀ (l : Nat) (y z : Int) (W : World) (K : Act → World → Prop), K ⟨(ts.setIfInBounds q (.agg #[.int .i64 y, .int .i64 z])).setIfInBounds d (.pointer (some ⟨W.heap.size, 0, none⟩)), []⟩ (W.alloc (.cells #[.int .i64 y, .int .i64 z] 29)) →
      assign.wpIn (Fence.wide.inRound l) 8 Try.prog (Exit.then K (fun _ _ _ => False)) ⟨ts.setIfInBounds q (.agg #[.int .i64 y, .int .i64 z]), []⟩ W)
    (hbody : ∀ (l : Nat) (pre : List Ext) (y z : Int) (B : Nat) (W : World), I pre W → P (y, z) → (∀ x, x ∈ pre → P x) → pre.length ≤ (flatR L).length → Xb W B (y, z) → w.heap.size ≤ W.heap.size → Below n₀ w W →
      body.wpIn (Fence.wide.inRound l) 8 Try.prog (rndQ n₀ w.heap.size T I Ix (pre ++ [(y, z)]) W) ⟨(ts.setIfInBounds q (.agg #[.int .i64 y, .int .i64 z])).setIfInBounds d (.pointer (some ⟨B, 0, none⟩)), []⟩ W)
    (hdone : ∀ (D : Nat) (W : World), w.heap.size ≤ D → I (flatR L) W → Below n₀ w W → W.heap[D]? = some (.deferred (some [])) → Q .normal ⟨ts, { target := .collected D, args := #[] } :: df⟩ W)
    (hstop : ∀ (D : Nat) (c : Code) (pre : List Ext) (W : World), w.heap.size ≤ D → pre <+: flatR L → Ix c pre W → Below n₀ w W → W.heap[D]? = some (.deferred (some [])) → c.wpIn Fence.wide 10 Try.prog Q ⟨ts, { target := .collected D, args := #[] } :: df⟩ W) :
    (Code.rangeFunc (.tmp g) #[q] assign body).wpIn Fence.wide 10 Try.prog Q ⟨ts, df⟩ w :=
  range_eachZ P L T n₀ gR Bo cap hro hP hL hcap hbo hg hn I Ix hI hIx h0 (fun _ _ => True) (fun _ _ _ _ _ _ _ => trivial) (fun _ _ _ _ _ => trivial) hassign (fun l pre y z B W a b c d e _ f g => hbody l pre y z B W a b c d e f g) hdone hstop
theorem putObj_cells {W : World} {B D : Nat} {cs : Array Value} {t : TypeId} {m : Nat × Nat} {o : Obj} {o'' : _} (h : W.heap[B]? = some (.cells cs t m)) (hD : W.heap[D]? = some (.deferred o'')) : (W.putObj D o).heap[B]? = some (.cells cs t m) :=
  (World.putObj_heap_other (fun e => by subst e; rw [h] at hD; cases hD)).trans h
theorem load_box {W : World} {B : Nat} {t ty : TypeId} {v : Value} {d : TypeDesc} (h : Boxed W B t v) (hu : Try.prog.underlying ty = some d) (hd : (match d with | .struct _ | .array _ _ => false | _ => true) = true) : (loadVar ty ⟨B, 0, none⟩).run Try.prog W = .ok v W := by
  have hc := h.cell
  have hagg : (isAgg ty).run Try.prog W = .ok false W := by
    unfold isAgg
    rw [Sem.run_bind, run_underlying hu W]
    cases d <;> simp_all
  unfold loadVar
  simp [Sem.run_bind, hagg, hc, go_sem]
theorem results_box {fn : Func} {p : Tmp} {ty : TypeId} (h : fn.results = #[.cell p ty]) (tmps : Array Value) (W : World) (B : Nat) (v : Value) (hp : tmps.getD p undef = .pointer (some ⟨B, 0, none⟩)) (hl : (loadVar ty ⟨B, 0, none⟩).run Try.prog W = .ok v W) :
    (results fn tmps).run Try.prog W = .ok v W := by
  have hp' : tmps[p]?.getD undef = .pointer (some ⟨B, 0, none⟩) := by simpa using hp
  simp [results, h, hp', asAddr, hl]
end Go.Proofs.Ytkfoeijhhfaceab
/-
  Which rows may be: the contract of region's Check.
-/
namespace Go.Proofs.Ytkfoeijhhfaceab
open Go.RowKit Go.Shelf
attribute [local go_sem] Oper.semAt_some

/-- Where the next extent may begin. -/
def lst (pre : List Ext) : Int := match pre.getLast? with
  | none => 0
  | some z => z.1 + z.2 + 1
theorem lst_snoc (pre : List Ext) (x : Ext) : lst (pre ++ [x]) = x.1 + x.2 + 1 := by simp [lst]
theorem rowB_app (b : Int) (x : Ext) : ∀ (pre : List Ext) (c : Int), rowB b c (pre ++ [x]) = (rowB b c pre && (decide ((match pre.getLast? with | none => c | some z => z.1 + z.2 + 1) ≤ x.1) && lieB b x))
  | [], c => by
    simp only [List.nil_append, rowB, Bool.and_true, Bool.true_and]
    rfl
  | y :: pre, c => by
    rw [List.cons_append, rowB, rowB, rowB_app b x pre]
    cases pre with
    | nil =>
      simp only [rowB, Bool.and_assoc, Bool.true_and]
      rfl
    | cons z r => simp [List.getLast?_cons, Bool.and_assoc]
theorem rowB_snoc (b : Int) (pre : List Ext) (x : Ext) : rowB b 0 (pre ++ [x]) = (rowB b 0 pre && (decide (lst pre ≤ x.1) && lieB b x)) := by
  rw [rowB_app]
  unfold lst
  rfl
theorem rowB_pre (b : Int) : ∀ (pre m : List Ext) (c : Int), rowB b c (pre ++ m) = true → rowB b c pre = true
  | [], _, _, _ => rfl
  | y :: pre, m, c, h => by
    rw [List.cons_append, rowB, Bool.and_eq_true] at h
    rw [rowB, h.1, rowB_pre b pre m _ h.2]
    rfl
theorem lst_rng {b : Int} {pre : List Ext} (h : rowB b 0 pre = true) (hb : b ≤ 4096) : 0 ≤ lst pre ∧ lst pre ≤ 4097 := by
  obtain ⟨hn, hu, _⟩ := (rowB_iff b pre 0).1 h
  rcases snoc_or pre with rfl | ⟨m, z, rfl⟩
  · simp [lst]
  · have h1 := hn.pos z (by simp)
    have h2 := hu z (by simp)
    rw [lst_snoc]
    omega

def Wf (x : Ext) : Prop := (Lit.int .i64 x.1).wf = true ∧ (Lit.int .i64 x.2).wf = true

set_option maxHeartbeats 6400000 in
set_option maxRecDepth 100000 in
theorem check_good (b : Int) (a : Option Addr) (cap : Nat) (l : List Ext) (w : World) (hr : Rx w a cap l) (hb0 : 0 ≤ b) (hb1 : b ≤ 4096) :
    Calls Try.prog 11 #[.int .i64 b, .slice a l.length cap] w fun e w' => e = .returned (.int .i64 (if rowB b 0 l = true then 0 else 100)) ∧ Below w.heap.size w w' := by
  obtain ⟨o, ho⟩ : ∃ o : Int, o = if rowB b 0 l = true then 0 else 100 := ⟨_, rfl⟩
  have HO := hid ho
  rw [← ho]
  clear ho
  have hB1 := bel_alloc w (.cells #[.int .i64 b] 3)
  have hB2 := Bn hB1 (bel_alloc _ (.cells #[.int .i64 0] 25))
  have hB3 := Bn hB2 (bel_alloc _ (.cells #[.int .i64 0] 3))
  have hB4 := Bn hB3 (bel_alloc _ (.cells #[.slice a l.length cap] 22))
  have hB5 := Bn hB4 (bel_alloc _ (.cells #[.slice (some ⟨w.heap.size + 1 + 1 + 1, 0, none⟩) 1 1] 42))
  have x0 := ((((Boxed.new w 3 (.int .i64 b)).alloc (.cells #[.int .i64 0] 25)).alloc (.cells #[.int .i64 0] 3)).alloc (.cells #[.slice a l.length cap] 22)).alloc (.cells #[.slice (some ⟨w.heap.size + 1 + 1 + 1, 0, none⟩) 1 1] 42)
  have x1 := (((Boxed.new (w.alloc (.cells #[.int .i64 b] 3)) 25 (.int .i64 0)).alloc (.cells #[.int .i64 0] 3)).alloc (.cells #[.slice a l.length cap] 22)).alloc (.cells #[.slice (some ⟨w.heap.size + 1 + 1 + 1, 0, none⟩) 1 1] 42)
  have x2 := ((Boxed.new ((w.alloc (.cells #[.int .i64 b] 3)).alloc (.cells #[.int .i64 0] 25)) 3 (.int .i64 0)).alloc (.cells #[.slice a l.length cap] 22)).alloc (.cells #[.slice (some ⟨w.heap.size + 1 + 1 + 1, 0, none⟩) 1 1] 42)
  have x3 := (Boxed.new (((w.alloc (.cells #[.int .i64 b] 3)).alloc (.cells #[.int .i64 0] 25)).alloc (.cells #[.int .i64 0] 3)) 22 (.slice a l.length cap)).alloc (.cells #[.slice (some ⟨w.heap.size + 1 + 1 + 1, 0, none⟩) 1 1] 42)
  have x4 := Boxed.new ((((w.alloc (.cells #[.int .i64 b] 3)).alloc (.cells #[.int .i64 0] 25)).alloc (.cells #[.int .i64 0] 3)).alloc (.cells #[.slice a l.length cap] 22)) 42 (.slice (some ⟨w.heap.size + 1 + 1 + 1, 0, none⟩) 1 1)
  simp only [World.size_alloc] at x0 x1 x2 x3 x4
  have HX0 := hid x0
  have HX1 := hid x1
  have HX2 := hid x2
  have HX3 := hid x3
  have HX4 := hid x4
  have HB5 := hid hB5
  have HR := hid hr
  have hsz : (((((w.alloc (.cells #[.int .i64 b] 3)).alloc (.cells #[.int .i64 0] 25)).alloc (.cells #[.int .i64 0] 3)).alloc (.cells #[.slice a l.length cap] 22)).alloc (.cells #[.slice (some ⟨w.heap.size + 1 + 1 + 1, 0, none⟩) 1 1] 42)).heap.size = w.heap.size + 1 + 1 + 1 + 1 + 1 := by simp only [World.size_alloc]
  have HSZ := hid hsz
  clear hB1 hB2 hB3 hB4 hB5 x0 x1 x2 x3 x4 hr hsz
  refine (callsIn_wide (n := 10)).1 ?_
  refine callsIn_of_wp_marks Try.func11 rfl trivial ?_ rfl
  simp only [Try.ntmps11, List.size_toArray, List.length_cons, List.length_nil, Nat.reduceAdd, Nat.reduceSub, Array.replicate_succ, Array.replicate_zero, List.push_toArray, List.append_toArray, List.nil_append, List.cons_append]
  gi_wp2_with fail
  refine ⟨trivial, ?_⟩
  refine (callsIn_wide.2 (each_word _ 1 1 _)).mono ?_
  rintro _ w4 ⟨rfl, hw4⟩
  simp only [World.size_alloc] at hw4 ⊢
  subst hw4
  gi_wp2_with fail
  generalize ((((w.alloc (.cells #[.int .i64 b] 3)).alloc (.cells #[.int .i64 0] 25)).alloc (.cells #[.int .i64 0] 3)).alloc (.cells #[.slice a l.length cap] 22)).alloc (.cells #[.slice (some ⟨w.heap.size + 1 + 1 + 1, 0, none⟩) 1 1] 42) = W5 at *
  have hR5 := HR.out.later HB5.out
  have hsz5 := HSZ.out
  obtain ⟨s, hs⟩ : ∃ s, s = w.heap.size := ⟨_, rfl⟩
  rw [← hs] at HX0 HX1 HX2 HX3 HX4 hsz5 ⊢
  refine range_each (d := 6) Wf [(a, cap, l)] (fun i => i = s + 1 ∨ i = s + 1 + 1) s (s + 1 + 1 + 1) (s + 1 + 1 + 1 + 1) 1
    (Ro.one HX3.out ⟨by omega, by omega⟩ hR5 (HR.out.kept (by omega) (by rw [← hs]; rintro i (rfl | rfl) <;> omega))) (by rw [flat_one]; exact HR.out.fit) (by simp) (by simp) HX4.out rfl (by omega)
    (fun pre W => Boxed W (s + 1 + 1) 3 (.int .i64 (lst pre)) ∧ Boxed W (s + 1) 25 (.int .i64 0) ∧ Boxed W s 3 (.int .i64 b) ∧ rowB b 0 pre = true)
    (fun c pre W => c = .ret ∧ Boxed W (s + 1) 25 (.int .i64 100) ∧ rowB b 0 pre = false)
    (fun pre W W' row h hg hr => ⟨box_own h.1 hg hr, box_own h.2.1 hg hr, box_own h.2.2.1 hg hr, h.2.2.2⟩)
    (fun c pre W W' row h hg hr => ⟨h.1, box_own h.2.1 hg hr, h.2.2⟩)
    ⟨HX2.out, HX1.out, HX0.out, rfl⟩ ?assign ?body ?done ?stop
  case assign =>
    intro ll y z W K hK
    simp only [List.setIfInBounds_toArray, List.set_cons_zero, List.set_cons_succ] at hK ⊢
    gi_wp2
    exact hK
  case body =>
    rintro ll pre y z B W ⟨h1, h2, h3, h4⟩ hP _ _ hX hsW _
    have HHS := hid hs
    have HSW := hid hsW
    have HS5 := hid hsz5
    clear hs hsW hsz5 HX0 HX1 HX2 HX3 HX4
    simp only [List.setIfInBounds_toArray, List.set_cons_zero, List.set_cons_succ]
    obtain ⟨c0, c1⟩ := hX.cells
    have d1 := h1.cell
    have d3 := h3.cell
    have HLI := hid (lies_word b (y, z) W hb0 hb1 hP.1)
    obtain ⟨q1, q2⟩ := lst_rng h4 hb1
    have HSN := hid (rowB_snoc b pre (y, z))
    have HLS := hid (lst_snoc pre (y, z))
    have H1 := hid h1
    have H2 := hid h2
    have H3 := hid h3
    have H4 := hid h4
    have HX := hid hX
    have hP1 := wf_i64 hP.1
    have hP2 := wf_i64 hP.2
    unfold extV at HLI
    dsimp only at HLI HSN HLS c0 c1 hP1 hP2
    clear h1 h2 h3 h4 hP hX
    generalize lst pre = ls at *
    by_cases hlt : y < ls
    · have f2 := H2.out.frozen
      have g2 := H2.out.cell
      have hdl : decide (y < ls) = true := decide_eq_true hlt
      gi_wp2_with fail
      refine ⟨trivial, ?_⟩
      gi_wp2_with fail
      refine ⟨(Fb.set W _ (by omega) (.inl (.inl rfl))), rfl, H2.out.set _, ?_⟩
      rw [HSN.out, decide_eq_false (by omega)]
      simp
    · have hdl : decide (y < ls) = false := decide_eq_false hlt
      gi_wp2_with fail
      refine ⟨trivial, ?_⟩
      refine (calls_round HLI.out).mono ?_
      rintro _ w1 ⟨rfl, hbw⟩
      have k1 := box_later H1.out hbw
      have k2 := box_later H2.out hbw
      have k3 := box_later H3.out hbw
      have hX1 := HX.out.later hbw
      obtain ⟨e0, e1⟩ := hX1.cells
      have K1 := hid k1
      have K2 := hid k2
      have K3 := hid k3
      have f1 := k1.frozen
      have g1 := k1.cell
      have f2 := k2.frozen
      have g2 := k2.cell
      have HBW := hid hbw
      clear H1 H2 H3 HX hX1 hbw c0 c1 d1 d3 HLI k1 k2 k3
      dsimp only at e0 e1
      by_cases hli : lieB b (y, z) = true
      · obtain ⟨l1, l2, l3⟩ := (lieB_iff b (y, z)).1 hli
        have HEN := hid (end_word (y, z) w1 (by dsimp only at *; omega) (by dsimp only at *; omega))
        unfold extV at HEN
        dsimp only at HEN l1 l2 l3
        have HLB := hid hli
        rw [hli]
        clear hli
        gi_wp2_with fail
        refine ⟨trivial, ?_⟩
        refine (calls_round HEN.out).mono ?_
        rintro _ w2 ⟨rfl, hbw2⟩
        have m1 := box_later K1.out hbw2
        have M1 := hid m1
        have f3 := m1.frozen
        have g3 := m1.cell
        have M2 := hid (box_later K2.out hbw2)
        have M3 := hid (box_later K3.out hbw2)
        have HBW2 := hid (Bn HBW.out hbw2)
        clear hbw2 K1 K2 K3 HBW f1 g1 f2 g2 m1 HEN
        gi_wp2_with fail
        refine ⟨(Fb.below HBW2.out (by have := HS5.out; omega) HSW.out).trans (Fb.set w2 _ (by omega) (.inl (.inr rfl))), ?_, M2.out.other (by omega) _, M3.out.other (by omega) _, ?_⟩
        · rw [HLS.out]; exact M1.out.set _
        · rw [HSN.out, H4.out, HLB.out, decide_eq_true (by omega)]; rfl
      · have hlf : lieB b (y, z) = false := by simpa using hli
        have HLB := hid hlf
        rw [hlf]
        clear hli hlf
        gi_wp2_with fail
        refine ⟨(Fb.below HBW.out (by have := HS5.out; omega) HSW.out).trans (Fb.set w1 _ (by omega) (.inl (.inl rfl))), rfl, K2.out.set _, ?_⟩
        rw [HSN.out, HLB.out]
        simp
  case done =>
    rintro D W hD ⟨h1, h2, h3, h4⟩ hB hd
    rw [flat_one] at h4
    have f2 := h2.frozen
    have g2 := h2.cell
    have HD := hid hd
    have H2 := hid h2
    have HHS := hid hs
    have HFB := hid ((HB5.out.mono (by omega)).trans (hB.trans ((Below.refl s W).setCell (p := ⟨s + 1, 0, none⟩) (by show s ≤ s + 1; omega) (.int .i64 0))))
    have HDD := hid hD
    have ho := HO.out
    rw [if_pos h4] at ho
    subst ho
    have HD2 : Hid ((W.setCell ⟨s + 1, 0, none⟩ (.int .i64 0)).heap[D]? = some (.deferred (some []))) := by
      refine (Below.heap_setCell W ⟨s + 1, 0, none⟩ _ D (fun e => ?_)).trans hd
      have e : D = s + 1 := e
      omega
    have HS5 := hid hsz5
    clear hd h1 h3 hs hsz5 h2 hB hD
    gi_wp2_with fail
    refine ⟨by simp, .inl ⟨_, _, rfl, run_takeDeferred HD2.out, ?_⟩⟩
    have hq := load_box (ty := 25) (putObj_cells (o := .deferred none) (H2.out.set (.int .i64 0)) HD2.out) Try.underlying25 rfl
    refine ⟨_, results_box rfl _ _ (s + 1) _ rfl hq, rfl, ?_⟩
    have hs := HHS.out
    have := HDD.out
    have := HS5.out
    rw [← hs]
    exact HFB.out.trans (belowK_b (w := w) (by omega) _ D _ _ (by omega) HD2.out rfl rfl)
  case stop =>
    rintro D c pre W hD hpre ⟨rfl, h2, h4⟩ hB hd
    rw [flat_one] at hpre
    have hnot : ¬ rowB b 0 l = true := fun h => by
      obtain ⟨m, rfl⟩ := hpre
      rw [rowB_pre b pre m 0 h] at h4
      cases h4
    have ho := HO.out
    rw [if_neg hnot] at ho
    subst ho
    have HD := hid hd
    have H2 := hid h2
    have HHS := hid hs
    have HS5 := hid hsz5
    have HDD := hid hD
    have HFB := hid ((HB5.out.mono (by omega)).trans hB)
    clear hd hs hsz5 h2 hB hpre hnot hD
    gi_wp2_with fail
    refine ⟨by simp, .inl ⟨_, _, rfl, run_takeDeferred HD.out, ?_⟩⟩
    have hq := load_box (ty := 25) (putObj_cells (o := .deferred none) H2.out HD.out) Try.underlying25 rfl
    refine ⟨_, results_box rfl _ _ (s + 1) _ rfl hq, rfl, ?_⟩
    have hs := HHS.out
    have := HDD.out
    have := HS5.out
    rw [← hs]
    exact HFB.out.trans (belowK_b (w := w) (by omega) _ D _ _ (by omega) HD.out rfl rfl)
end Go.Proofs.Ytkfoeijhhfaceab
/-
  How many blocks a row has, and which extent is the greatest: the contracts of region's Check, Sum and Greatest.
-/
namespace Go.Proofs.Ytkfoeijhhfaceab
open Go.RowKit Go.Shelf
attribute [local go_sem] Oper.semAt_some

def sumE (l : List Ext) : Int := l.foldr (fun x n => x.2 + n) 0
theorem sumE_cons (x : Ext) (l : List Ext) : sumE (x :: l) = x.2 + sumE l := rfl
theorem sumE_app (l m : List Ext) : sumE (l ++ m) = sumE l + sumE m := by
  induction l with
  | nil => simp [sumE]
  | cons x l ih => rw [List.cons_append, sumE_cons, sumE_cons, ih]; omega
theorem sumE_snoc (l : List Ext) (x : Ext) : sumE (l ++ [x]) = sumE l + x.2 := by rw [sumE_app]; simp [sumE]
theorem sumE_rng (l : List Ext) (h : ∀ x, x ∈ l → 1 ≤ x.2 ∧ x.2 ≤ 4096) : 0 ≤ sumE l ∧ sumE l ≤ 4096 * (l.length : Int) := by
  induction l with
  | nil => simp [sumE]
  | cons x l ih =>
    have h1 := h x (by simp)
    have h2 := ih (fun y hy => h y (by simp [hy]))
    rw [sumE_cons, List.length_cons]
    omega
def grtS (m x : Ext) : Ext := if m.2 < x.2 then x else m
def grt (l : List Ext) : Ext := l.foldl grtS (0, 0)
theorem grt_snoc (l : List Ext) (x : Ext) : grt (l ++ [x]) = grtS (grt l) x := by unfold grt; rw [List.foldl_append]; rfl
theorem grt_fit {l : List Ext} (h : ∀ x, x ∈ l → Wf x) : Wf (grt l) := by
  have key : ∀ (l : List Ext) (m : Ext), Wf m → (∀ x, x ∈ l → Wf x) → Wf (l.foldl grtS m) := by
    intro l
    induction l with
    | nil => intro m hm _; exact hm
    | cons x l ih =>
      intro m hm hl
      refine ih (grtS m x) ?_ (fun y hy => hl y (by simp [hy]))
      unfold grtS
      split
      · exact hl x (by simp)
      · exact hm
  exact key l (0, 0) ⟨rfl, rfl⟩ h
theorem Xb.put {W : World} {B : Nat} {x : Ext} (h : Xb W B x) (y : Ext) : Xb ((W.setCell ⟨B, 0, none⟩ (.int .i64 y.1)).setCell ⟨B, 1, none⟩ (.int .i64 y.2)) B y := by
  have h1 := Joins.block_setCell (i := 0) h (.int .i64 y.1)
  have h2 := Joins.block_setCell (i := 1) h1 (.int .i64 y.2)
  exact h2
theorem Xb.frozen {W : World} {B : Nat} {x : Ext} (h : Xb W B x) (i : Nat) : W.frozen? ⟨B, i, none⟩ = false := Joins.unfrozen_of_block h i
theorem Xb.other {W : World} {B g i : Nat} {x : Ext} (h : Xb W B x) (hne : B ≠ g) (u : Value) : Xb (W.setCell ⟨g, i, none⟩ u) B x := (Below.heap_setCell W ⟨g, i, none⟩ u B hne).trans h

theorem check_any (b : Int) (a : Option Addr) (cap : Nat) (l : List Ext) (w : World) (hr : Rx w a cap l) :
    Calls Try.prog 11 #[.int .i64 b, .slice a l.length cap] w fun e w' => e = .returned (.int .i64 (chkO b l)) ∧ Below w.heap.size w w' := by
  unfold chkO
  by_cases h : b < 0 ∨ 4096 < b
  · rw [if_pos h]
    have hB := Bn (bel_alloc w (.cells #[.int .i64 b] 3)) (bel_alloc _ (.cells #[.int .i64 1] 25))
    have hX := heap_new (w.alloc (.cells #[.int .i64 b] 3)) (.cells #[.int .i64 1] 25)
    rw [World.size_alloc] at hX
    have HB := hid hB
    have HX := hid (load_box (ty := 25) (v := .int .i64 1) hX Try.underlying25 rfl)
    clear hB hX hr
    generalize l.length = n at *
    by_cases h1 : b < 0
    · go_enter Try.func11, Try.ntmps11
      go_wp2
      refine bodyPost_ret (results_box rfl _ _ (w.heap.size + 1) _ rfl HX.out) rfl ?_
      exact ⟨rfl, HB.out⟩
    · have h2 : 4096 < b := by omega
      have e1 : decide (b < 0) = false := decide_eq_false h1
      have e2 : decide (4096 < b) = true := decide_eq_true h2
      go_enter Try.func11, Try.ntmps11
      go_wp2
      refine bodyPost_ret (results_box rfl _ _ (w.heap.size + 1) _ rfl HX.out) rfl ?_
      exact ⟨rfl, HB.out⟩
  · rw [if_neg h]
    exact check_good b a cap l w hr (by omega) (by omega)

/-- Sum. -/
def sumO (l : List Ext) : Int × Int := if chkO 4096 l = 0 then (sumE l, 0) else (0, 100)
theorem chk_wide (l : List Ext) : chkO 4096 l = 0 ∨ chkO 4096 l = 100 := by
  unfold chkO
  rw [if_neg (by omega)]
  split <;> simp

end Go.Proofs.Ytkfoeijhhfaceab
