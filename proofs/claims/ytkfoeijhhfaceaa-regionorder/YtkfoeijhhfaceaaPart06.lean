/-
  Rows that are made by a closure over them: what is kept, and how great their numbers get.
-/
import Derived.Test.YtkfoeijhhfaceaaPart04
import Derived.Test.YtkfoeijhhfaceaaPart05
namespace Go.Proofs.Ytkfoeijhhfaceaa
open Go.RowKit Go.Shelf
attribute [local go_sem] Oper.semAt_some

theorem own_own {W W' : World} {base e sz n k : Nat} {v : Value} {xs : List Value} {row : Option Nat} (h : W.ownsRow base e sz v k xs) (hg : W.grownBy W' row) (hr : ∀ r, row = some r → n ≤ r ∧ ∃ o : Obj, W.heap[r]? = some o ∧ o.isCells = false) : W'.ownsRow base e sz v k xs := by
  refine h.kept hg ?_
  rcases h.2 with ⟨rfl, _⟩ | ⟨g, cap, cur, rfl, _, hgb, _⟩
  · exact .inl rfl
  · refine .inr fun e' => ?_
    obtain ⟨_, o, ho, hc⟩ := hr g (by simpa [Value.ownBlock] using e'.symm)
    rw [hgb] at ho; cases ho; cases hc
theorem Pu.ownK {W W' : World} {Bp Bx base n : Nat} {v : Value} {l : List Ext} {row : Option Nat} (h : Pu W Bp Bx base v l) (hg : W.grownBy W' row) (hr : ∀ r, row = some r → n ≤ r ∧ ∃ o : Obj, W.heap[r]? = some o ∧ o.isCells = false) : Pu W' Bp Bx base v l :=
  ⟨box_own h.ptr hg hr, box_own h.box hg hr, own_own h.own hg hr⟩
theorem own_base {w : World} {base base' e sz n : Nat} {v : Value} {xs : List Value} (h : w.ownsRow base e sz v n xs) (hb : base' ≤ base) : w.ownsRow base' e sz v n xs := by
  obtain ⟨h1, h2 | ⟨g, cap, cur, e', h3, h4⟩⟩ := h
  · exact ⟨h1, .inl h2⟩
  · exact ⟨h1, .inr ⟨g, cap, cur, e', Nat.le_trans hb h3, h4⟩⟩
theorem Pu.other {W : World} {Bp Bx base g i : Nat} {v : Value} {l : List Ext} (h : Pu W Bp Bx base v l) (h1 : Bp ≠ g) (h2 : Bx ≠ g) (h3 : g < base) (u : Value) : Pu (W.setCell ⟨g, i, none⟩ u) Bp Bx base v l :=
  ⟨(Below.heap_setCell W ⟨g, i, none⟩ u Bp h1).trans h.ptr, (Below.heap_setCell W ⟨g, i, none⟩ u Bx h2).trans h.box, h.own.kept ⟨rfl, rfl, rfl, (KeepsWalks.setCell W _ u).size, fun k _ hk => Below.heap_setCell _ _ _ k (fun e => hk (by rw [e]))⟩ (.inr (fun e => by have := (own_block h.own g e).1; omega))⟩
theorem Pu.nil {W : World} {Bp Bx base : Nat} (h1 : Boxed W Bp 62 (.pointer (some ⟨Bx, 0, none⟩))) (h2 : Boxed W Bx 22 (.slice none 0 0)) : Pu W Bp Bx base (.slice none 0 0) [] := ⟨h1, h2, ⟨rfl, .inl ⟨rfl, rfl⟩⟩⟩
theorem Fb.keep {n₀ base : Nat} {T : Nat → Prop} {W W' : World} (h : Fb n₀ base T W W') {B : Nat} {cs : Array Value} {t : TypeId} {fr : Nat × Nat} (hB : W.heap[B]? = some (.cells cs t fr)) (h1 : B < base) (h2 : ¬ T B) : W'.heap[B]? = some (.cells cs t fr) := (h.kt.old B h1 h2).trans hB
theorem Fb.defer {n₀ base : Nat} {T : Nat → Prop} {W W' : World} (h : Fb n₀ base T W W') {D : Nat} {o : Obj} (hB : W.heap[D]? = some o) (ho : o.isCells = false) : W'.heap[D]? = some o := h.oth.same D o hB ho

/-- Numbers and lengths behind n puts. -/
structure Bw (n : Nat) (l : List Ext) : Prop where
  all : ∀ z, z ∈ l → 0 ≤ z.1 ∧ z.1 ≤ 8192 ∧ 0 ≤ z.2 ∧ z.2 ≤ 8192 * (n : Int)
  len : l.length ≤ n
theorem bw_nil : Bw 0 [] := ⟨fun z hz => (by cases hz), Nat.le_refl _⟩
theorem Bw.put {n : Nat} {l : List Ext} (h : Bw n l) {f t : Int} (hf : 0 ≤ f) (hf2 : f ≤ 8192) (ht : t ≤ 8192) : Bw (n + 1) (putL l f t) := by
  have up : ∀ z, z ∈ l → 0 ≤ z.1 ∧ z.1 ≤ 8192 ∧ 0 ≤ z.2 ∧ z.2 ≤ 8192 * ((n + 1 : Nat) : Int) := fun z hz => by have := h.all z hz; omega
  refine ⟨fun z hz => ?_, Nat.le_trans (putl_len l f t) (by have := h.len; omega)⟩
  by_cases hft : t ≤ f
  · rw [put_no hft] at hz; exact up z hz
  · rcases snoc_or l with rfl | ⟨m, y, rfl⟩
    · rw [put_nil hft, List.mem_singleton] at hz
      subst hz
      dsimp only
      omega
    · have hy := h.all y (by simp)
      by_cases hyf : y.1 + y.2 = f
      · rw [put_join hft hyf] at hz
        rcases List.mem_append.1 hz with hz | hz
        · exact up z (by simp [hz])
        · rw [List.mem_singleton] at hz
          subst hz
          dsimp only
          omega
      · rw [put_more hft hyf] at hz
        rcases List.mem_append.1 hz with hz | hz
        · exact up z hz
        · rw [List.mem_singleton] at hz
          subst hz
          dsimp only
          omega
theorem Bw.bd {n : Nat} {l : List Ext} (h : Bw n l) (hn : n ≤ 20000) : Bd l := ⟨fun z hz => by have := h.all z hz; omega, by have := h.len; omega⟩
def Ok (x : Ext) : Prop := 0 ≤ x.1 ∧ 1 ≤ x.2 ∧ x.1 + x.2 ≤ 4096
theorem row_ok {b : Int} {l : List Ext} (h : Row b l) : ∀ x, x ∈ l → Ok x := fun x hx => ⟨(h.nrm.pos x hx).1, (h.nrm.pos x hx).2, by have := h.upto x hx; have := h.hi; omega⟩
theorem btw_snoc (pre : List Ext) (x : Ext) : (pre ++ [x]).foldl btwS ([], 0) = btwS (pre.foldl btwS ([], 0)) x := by rw [List.foldl_append]; rfl
theorem btw_bw (pre : List Ext) (h : ∀ x, x ∈ pre → Ok x) : Bw pre.length (pre.foldl btwS ([], 0)).1 ∧ 0 ≤ (pre.foldl btwS ([], 0)).2 ∧ (pre.foldl btwS ([], 0)).2 ≤ 4096 := by
  have key : ∀ (l : List Ext) (n : Nat) (st : List Ext × Int), Bw n st.1 → 0 ≤ st.2 → st.2 ≤ 4096 → (∀ x, x ∈ l → Ok x) → Bw (n + l.length) (l.foldl btwS st).1 ∧ 0 ≤ (l.foldl btwS st).2 ∧ (l.foldl btwS st).2 ≤ 4096 := by
    intro l
    induction l with
    | nil => intro n st h1 h2 h3 _; exact ⟨h1, h2, h3⟩
    | cons x l ih =>
      intro n st h1 h2 h3 hl
      obtain ⟨k1, k2, k3⟩ := hl x (by simp)
      have := ih (n + 1) (btwS st x) (h1.put h2 (by omega) (by omega)) (by unfold btwS; dsimp only; omega) (by unfold btwS; dsimp only; omega) (fun y hy => hl y (by simp [hy]))
      rw [List.foldl_cons, List.length_cons]
      rwa [show n + 1 + l.length = n + (l.length + 1) from by omega] at this
  have := key pre 0 ([], 0) bw_nil (by simp) (by simp) h
  rwa [Nat.zero_add] at this
theorem wout_snoc (e : Ext) (pre : List Ext) (x : Ext) : (pre ++ [x]).foldl (woutS e) [] = woutS e (pre.foldl (woutS e) []) x := by rw [List.foldl_append]; rfl
theorem wout_bw (e : Ext) (he : 0 ≤ e.1) (he1 : 1 ≤ e.2) (he2 : e.1 + e.2 ≤ 4096) (pre : List Ext) (h : ∀ x, x ∈ pre → Ok x) : Bw (2 * pre.length) (pre.foldl (woutS e) []) := by
  have key : ∀ (l : List Ext) (n : Nat) (acc : List Ext), Bw n acc → (∀ x, x ∈ l → Ok x) → Bw (n + 2 * l.length) (l.foldl (woutS e) acc) := by
    intro l
    induction l with
    | nil => intro n acc h1 _; exact h1
    | cons x l ih =>
      intro n acc h1 hl
      obtain ⟨k1, k2, k3⟩ := hl x (by simp)
      have := ih (n + 1 + 1) (woutS e acc x) ((h1.put k1 (by omega) (by omega)).put (by omega) (by omega) (by omega)) (fun y hy => hl y (by simp [hy]))
      rw [List.foldl_cons, List.length_cons]
      rwa [show n + 1 + 1 + 2 * l.length = n + 2 * (l.length + 1) from by omega] at this
  have := key pre 0 [] bw_nil h
  rwa [Nat.zero_add] at this
theorem join_snoc (pre : List Ext) (x : Ext) : (pre ++ [x]).foldl joinS [] = joinS (pre.foldl joinS []) x := by rw [List.foldl_append]; rfl
theorem join_bw (pre : List Ext) (h : ∀ x, x ∈ pre → Ok x) : Bw pre.length (pre.foldl joinS []) := by
  have key : ∀ (l : List Ext) (n : Nat) (acc : List Ext), Bw n acc → (∀ x, x ∈ l → Ok x) → Bw (n + l.length) (l.foldl joinS acc) := by
    intro l
    induction l with
    | nil => intro n acc h1 _; exact h1
    | cons x l ih =>
      intro n acc h1 hl
      obtain ⟨k1, k2, k3⟩ := hl x (by simp)
      have := ih (n + 1) (joinS acc x) (h1.put k1 (by omega) (by omega)) (fun y hy => hl y (by simp [hy]))
      rw [List.foldl_cons, List.length_cons]
      rwa [show n + 1 + l.length = n + (l.length + 1) from by omega] at this
  have := key pre 0 [] bw_nil h
  rwa [Nat.zero_add] at this
/-- The round's variable is not the row that is made. -/
def Zb (Bx : Nat) (B : Nat) (W : World) : Prop := ∃ v, Boxed W Bx 22 v ∧ some B ≠ v.ownBlock
theorem zb_own (Bx n : Nat) : OwnFrom n (Zb Bx) := fun B W W' row h hg hr => by
  obtain ⟨v, hv, hn⟩ := h
  exact ⟨v, box_own hv hg hr, hn⟩
theorem zb_new {W : World} {Bp Bx base : Nat} {v : Value} {l : List Ext} (h : Pu W Bp Bx base v l) (o : Obj) : Zb Bx W.heap.size (W.alloc o) :=
  ⟨v, h.box.alloc o, fun e => by have := (own_block h.own _ e.symm).2; omega⟩
theorem zb_ne {W : World} {Bp Bx base B : Nat} {v : Value} {l : List Ext} (h : Pu W Bp Bx base v l) (hz : Zb Bx B W) : some B ≠ v.ownBlock := by
  obtain ⟨v', hv, hn⟩ := hz
  have e := (show W.heap[Bx]? = _ from h.box).symm.trans hv
  simp at e
  rw [e]
  exact hn
theorem x_not_box {W : World} {B Bx : Nat} {x : Ext} {v : Value} (h : Xb W B x) (k : Boxed W Bx 22 v) : B ≠ Bx := by
  rintro rfl
  have e := (show W.heap[B]? = _ from h).symm.trans k
  simp [extV] at e
/-- A row is handed back. -/
def RowPost (L : List Ext) (w : World) (e : Ending) (w' : World) : Prop := ∃ v, e = .returned v ∧ w'.ownsRow w.heap.size 24 2 v L.length (L.flatMap extC) ∧ Below w.heap.size w w'
end Go.Proofs.Ytkfoeijhhfaceaa
/-
  The blocks that a row has not: the contract of region's between.
-/
namespace Go.Proofs.Ytkfoeijhhfaceaa
open Go.RowKit Go.Shelf
attribute [local go_sem] Oper.semAt_some

set_option maxHeartbeats 6400000 in
set_option maxRecDepth 100000 in
theorem between_word (b : Int) (a : Option Addr) (cap : Nat) (l : List Ext) (w : World) (hr : Rx w a cap l) (hrow : Row b l) :
    Calls Try.prog 42 #[.int .i64 b, .slice a l.length cap] w (RowPost (btw b l) w) := by
  unfold RowPost btw
  have hxB := (Bn (Bn (Bn (Bn (Bn (bel_alloc w (.cells #[.slice none 0 0] 22)) (bel_alloc _ (.cells #[.pointer (some ⟨w.heap.size, 0, none⟩)] 62))) (bel_alloc _ (.cells #[.func (.func 45) #[] #[.pointer (some ⟨w.heap.size + 1, 0, none⟩)]] 60))) (bel_alloc _ (.cells #[.int .i64 0] 3))) (bel_alloc _ (.cells #[.slice a l.length cap] 22))) (bel_alloc _ (.cells #[.slice (some ⟨w.heap.size + 1 + 1 + 1 + 1, 0, none⟩) 1 1] 58)))
  have x0 := (heap_old _ (.cells #[.slice (some ⟨w.heap.size + 1 + 1 + 1 + 1, 0, none⟩) 1 1] 58) (heap_old _ (.cells #[.slice a l.length cap] 22) (heap_old _ (.cells #[.int .i64 0] 3) (heap_old _ (.cells #[.func (.func 45) #[] #[.pointer (some ⟨w.heap.size + 1, 0, none⟩)]] 60) (heap_old _ (.cells #[.pointer (some ⟨w.heap.size, 0, none⟩)] 62) (heap_new w (.cells #[.slice none 0 0] 22)))))))
  have x1 := (heap_old _ (.cells #[.slice (some ⟨w.heap.size + 1 + 1 + 1 + 1, 0, none⟩) 1 1] 58) (heap_old _ (.cells #[.slice a l.length cap] 22) (heap_old _ (.cells #[.int .i64 0] 3) (heap_old _ (.cells #[.func (.func 45) #[] #[.pointer (some ⟨w.heap.size + 1, 0, none⟩)]] 60) (heap_new (w.alloc (.cells #[.slice none 0 0] 22)) (.cells #[.pointer (some ⟨w.heap.size, 0, none⟩)] 62))))))
  have x2 := (heap_old _ (.cells #[.slice (some ⟨w.heap.size + 1 + 1 + 1 + 1, 0, none⟩) 1 1] 58) (heap_old _ (.cells #[.slice a l.length cap] 22) (heap_old _ (.cells #[.int .i64 0] 3) (heap_new ((w.alloc (.cells #[.slice none 0 0] 22)).alloc (.cells #[.pointer (some ⟨w.heap.size, 0, none⟩)] 62)) (.cells #[.func (.func 45) #[] #[.pointer (some ⟨w.heap.size + 1, 0, none⟩)]] 60)))))
  have x3 := (heap_old _ (.cells #[.slice (some ⟨w.heap.size + 1 + 1 + 1 + 1, 0, none⟩) 1 1] 58) (heap_old _ (.cells #[.slice a l.length cap] 22) (heap_new (((w.alloc (.cells #[.slice none 0 0] 22)).alloc (.cells #[.pointer (some ⟨w.heap.size, 0, none⟩)] 62)).alloc (.cells #[.func (.func 45) #[] #[.pointer (some ⟨w.heap.size + 1, 0, none⟩)]] 60)) (.cells #[.int .i64 0] 3))))
  have x4 := (heap_old _ (.cells #[.slice (some ⟨w.heap.size + 1 + 1 + 1 + 1, 0, none⟩) 1 1] 58) (heap_new ((((w.alloc (.cells #[.slice none 0 0] 22)).alloc (.cells #[.pointer (some ⟨w.heap.size, 0, none⟩)] 62)).alloc (.cells #[.func (.func 45) #[] #[.pointer (some ⟨w.heap.size + 1, 0, none⟩)]] 60)).alloc (.cells #[.int .i64 0] 3)) (.cells #[.slice a l.length cap] 22)))
  have x5 := (heap_new (((((w.alloc (.cells #[.slice none 0 0] 22)).alloc (.cells #[.pointer (some ⟨w.heap.size, 0, none⟩)] 62)).alloc (.cells #[.func (.func 45) #[] #[.pointer (some ⟨w.heap.size + 1, 0, none⟩)]] 60)).alloc (.cells #[.int .i64 0] 3)).alloc (.cells #[.slice a l.length cap] 22)) (.cells #[.slice (some ⟨w.heap.size + 1 + 1 + 1 + 1, 0, none⟩) 1 1] 58))
  have xS : ((((((w.alloc (.cells #[.slice none 0 0] 22)).alloc (.cells #[.pointer (some ⟨w.heap.size, 0, none⟩)] 62)).alloc (.cells #[.func (.func 45) #[] #[.pointer (some ⟨w.heap.size + 1, 0, none⟩)]] 60)).alloc (.cells #[.int .i64 0] 3)).alloc (.cells #[.slice a l.length cap] 22)).alloc (.cells #[.slice (some ⟨w.heap.size + 1 + 1 + 1 + 1, 0, none⟩) 1 1] 58)).heap.size = w.heap.size + 1 + 1 + 1 + 1 + 1 + 1 := by simp only [World.size_alloc]
  simp only [World.size_alloc] at x1 x2 x3 x4 x5
  have HX0 := hid x0
  have HX1 := hid x1
  have HX2 := hid x2
  have HX3 := hid x3
  have HX4 := hid x4
  have HX5 := hid x5
  have HXB := hid hxB
  have HXS := hid xS
  clear hxB x0 x1 x2 x3 x4 x5 xS
  have HR := hid hr
  have HRW := hid hrow
  have hb1 := hrow.lo
  have hb2 := hrow.hi
  clear hr hrow
  refine (callsIn_wide (n := 10)).1 ?_
  refine callsIn_of_wp_marks Try.func42 rfl trivial ?_ rfl
  simp only [Try.ntmps42, List.size_toArray, List.length_cons, List.length_nil, Nat.reduceAdd, Nat.reduceSub, Array.replicate_succ, Array.replicate_zero, List.push_toArray, List.append_toArray, List.nil_append, List.cons_append]
  gi_wp2_with fail
  refine ⟨trivial, ?_⟩
  refine (callsIn_wide.2 (putter_word _ _)).mono ?_
  rintro _ w4 ⟨rfl, hw4⟩
  simp only [World.size_alloc] at hw4 ⊢
  subst hw4
  gi_wp2_with fail
  refine ⟨trivial, ?_⟩
  refine (callsIn_wide.2 (each_word _ 1 1 _)).mono ?_
  rintro _ w4 ⟨rfl, hw4⟩
  simp only [World.size_alloc] at hw4 ⊢
  subst hw4
  gi_wp2_with fail
  generalize ((((((w.alloc (.cells #[.slice none 0 0] 22)).alloc (.cells #[.pointer (some ⟨w.heap.size, 0, none⟩)] 62)).alloc (.cells #[.func (.func 45) #[] #[.pointer (some ⟨w.heap.size + 1, 0, none⟩)]] 60)).alloc (.cells #[.int .i64 0] 3)).alloc (.cells #[.slice a l.length cap] 22)).alloc (.cells #[.slice (some ⟨w.heap.size + 1 + 1 + 1 + 1, 0, none⟩) 1 1] 58)) = W5 at *
  have hR5 := HR.out.later HXB.out
  have hsz5 := HXS.out
  obtain ⟨s, hs⟩ : ∃ s, s = w.heap.size := ⟨_, rfl⟩
  rw [← hs] at HX0 HX1 HX2 HX3 HX4 HX5 hsz5 ⊢
  refine range_eachZ (d := 8) Ok [(a, cap, l)] (fun i => i = s ∨ i = s + 1 + 1 + 1) s (s + 1 + 1 + 1 + 1) (s + 1 + 1 + 1 + 1 + 1) 1
    (Ro.one HX4.out ⟨by omega, by omega⟩ hR5 (HR.out.kept (by omega) (by rw [← hs]; rintro i (rfl | rfl) <;> omega))) (by rw [flat_one]; exact row_ok HRW.out) (by simp) (by simp) HX5.out rfl (by omega)
    (fun pre W => (∃ v, Pu W (s + 1) s W5.heap.size v (pre.foldl btwS ([], 0)).1) ∧ Boxed W (s + 1 + 1 + 1) 3 (.int .i64 (pre.foldl btwS ([], 0)).2) ∧ Boxed W (s + 1 + 1) 60 (.func (.func 45) #[] #[.pointer (some ⟨s + 1, 0, none⟩)])) (fun c pre W => False)
    (fun pre W W' row h hg hr => ⟨h.1.elim (fun v hv => ⟨v, hv.ownK hg hr⟩), box_own h.2.1 hg hr, box_own h.2.2 hg hr⟩) (fun c pre W W' row h hg hr => h)
    ⟨⟨_, Pu.nil HX1.out HX0.out⟩, HX3.out, HX2.out⟩ (Zb s) (zb_own s _) (fun pre W y z h => h.1.elim (fun v hv => zb_new hv _)) ?assign ?body ?done ?stop
  case assign =>
    intro ll y z W K hK
    simp only [List.setIfInBounds_toArray, List.set_cons_zero, List.set_cons_succ] at hK ⊢
    gi_wp2
    exact hK
  case body =>
    rintro ll pre y z B W ⟨⟨v, h1⟩, h2, h3⟩ ⟨p1, p2, p3⟩ hpp hpl hX hz hsW _
    obtain ⟨q1, q2, q3⟩ := btw_bw pre hpp
    rw [flat_one] at hpl
    have hll := (row_len HRW.out).2
    have HSN := hid (btw_snoc pre (y, z))
    dsimp only at p1 p2 p3
    have HHS := hid hs
    have HSW := hid hsW
    have HS5 := hid hsz5
    have H1 := hid h1
    have H2 := hid h2
    have H3 := hid h3
    have HX := hid hX
    generalize pre.foldl btwS ([], 0) = st at *
    obtain ⟨acc, at'⟩ := st
    dsimp only at q1 q2 q3 h2
    have HNE := hid (zb_ne h1 hz)
    have HNB := hid (x_not_box hX h1.box)
    have HBL : Hid (B < W.heap.size) := (Array.getElem?_eq_some_iff.1 hX).1
    have HPT := hid (put_any at' y (s + 1) s W5.heap.size s v acc W h1 (q1.bd (by omega)) q2 (by omega) (by omega) (by omega) (Nat.le_refl _) (by omega) hsW)
    unfold PutPost at HPT
    have HEX : Hid (∀ V, Calls Try.prog 32 #[.agg #[.int .i64 y, .int .i64 z]] V fun e w' => e = .returned (.int .i64 (y + z)) ∧ Below V.heap.size V w') := fun V => end_word (y, z) V (by dsimp only; omega) (by dsimp only; omega)
    obtain ⟨c0, c1⟩ := hX.cells
    have d2 := h2.cell
    have d3 := h3.cell
    dsimp only at c0 c1 d2 HSN
    have HSZ1 : Hid (s + 1 + 1 + 1 < W5.heap.size) := by show _ < _; omega
    have HQ := hid q1
    clear hs hsW hsz5 HX0 HX1 HX2 HX3 HX4 HX5 h1 h2 h3 hpl hll hpp hX q1 hz
    simp only [List.setIfInBounds_toArray, List.set_cons_zero, List.set_cons_succ]
    gi_wp2_with fail
    refine ⟨trivial, ?_⟩
    refine (calls_round HPT.out).mono ?_
    rintro _ w1 ⟨⟨x, rfl⟩, ⟨v1, hpu, _⟩, hfb, hkp⟩
    have hX1 : Xb w1 B (y, z) := (hkp B HBL.out HNB.out HNE.out).trans HX.out
    obtain ⟨e0, e1⟩ := hX1.cells
    dsimp only at e0 e1
    have h2' : Boxed w1 (s + 1 + 1 + 1) 3 (.int .i64 at') := hfb.keep H2.out HSZ1.out (by omega)
    have HP1 := hid hpu
    have HB1 := hid hfb
    have H21 := hid h2'
    have H31 : Hid (Boxed w1 (s + 1 + 1) 60 (.func (.func 45) #[] #[.pointer (some ⟨s + 1, 0, none⟩)])) := hfb.keep H3.out (by have := HSZ1.out; omega) (by omega)
    have HX1 := hid hX1
    clear hX1 hpu hfb h2' hkp c0 c1 d2 d3 HPT
    gi_wp2_with fail
    refine ⟨trivial, ?_⟩
    refine (calls_round (HEX.out _)).mono ?_
    rintro _ w2 ⟨rfl, hb2⟩
    have k2 := box_later H21.out hb2
    have f2 := k2.frozen
    have g2 := k2.cell
    have K2 := hid k2
    have HP2 := hid (HP1.out.kept hb2)
    have H32 := hid (box_later H31.out hb2)
    have HB2 := hid ((HB1.out.weak (T' := fun i => i = s ∨ i = s + 1 + 1 + 1) (fun i h => .inl h)).trans (Fb.below hb2 (by have := HS5.out; omega) (Nat.le_trans HSW.out HB1.out.bel.size)))
    clear k2 hb2
    gi_wp2_with fail
    refine ⟨HB2.out.trans (Fb.set w2 _ (by omega) (.inl (.inr rfl))), ⟨v1, ?_⟩, ?_, H32.out.other (by omega) _⟩
    · rw [HSN.out]
      exact HP2.out.other (by omega) (by omega) HSZ1.out _
    · rw [HSN.out]
      exact K2.out.set _
  case done =>
    rintro D W hD ⟨⟨v, h1⟩, h2, h3⟩ hB hd
    rw [flat_one] at h1 h2
    obtain ⟨q1, q2, q3⟩ := btw_bw l (row_ok HRW.out)
    have hll := (row_len HRW.out).2
    have hsW : W5.heap.size ≤ W.heap.size := hB.size
    have d2 := h2.cell
    have d3 := h3.cell
    obtain ⟨⟨acc, at'⟩, hst⟩ : ∃ st, st = l.foldl btwS ([], 0) := ⟨_, rfl⟩
    rw [← hst] at h1 d2 q1 q2 q3
    have HST := hid hst
    dsimp only at d2 q1 q2 q3
    have HPT := hid (put_any at' b (s + 1) s W5.heap.size s v acc W h1 (q1.bd (by omega)) q2 (by omega) (by omega) (by omega) (Nat.le_refl _) (by omega) hsW)
    unfold PutPost at HPT
    have HD := hid hd
    have HHS := hid hs
    have HS5 := hid hsz5
    have HDD := hid hD
    have HFB := hid ((HXB.out.mono (by omega)).trans hB)
    clear hd h1 h2 h3 hs hsz5 hB hD hst q1 q2 q3 hsW hll HX0 HX1 HX2 HX3 HX4 HX5
    gi_wp2_with fail
    refine ⟨trivial, ?_⟩
    refine (callsIn_wide.2 HPT.out).mono ?_
    rintro _ w1 ⟨⟨x, rfl⟩, ⟨v1, hpu, _⟩, hfb, _⟩
    have c1 := hpu.box.cell
    have HP1 := hid hpu
    have HD1 := hid (hfb.defer HD.out rfl)
    have HB1 := hid (HFB.out.trans hfb.bel)
    clear hpu hfb d2 d3
    gi_wp2_with fail
    refine ⟨by simp, .inl ⟨_, _, rfl, run_takeDeferred HD1.out, ?_⟩⟩
    have hs := HHS.out
    have := HDD.out
    have := HS5.out
    refine ⟨_, results_tmp rfl _ _ _, v1, rfl, ?_, ?_⟩
    · rw [← HST.out]
      exact own_base (ownsRow_putObj HP1.out.own _ HD1.out rfl) (by omega)
    · rw [← hs]
      exact HB1.out.trans (belowK_b (w := w) (by omega) _ D _ _ (by omega) HD1.out rfl rfl)
  case stop =>
    rintro D c pre W _ _ h _ _
    exact h.elim
end Go.Proofs.Ytkfoeijhhfaceaa
