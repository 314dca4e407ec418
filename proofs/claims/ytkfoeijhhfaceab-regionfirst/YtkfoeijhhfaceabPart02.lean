/-
  The iterator over rows of extents, one behind another: the contract of region's each.
-/
import Derived.Test.YtkfoeijhhfaceabPart01
import Derived.OrdersHeld
import Derived.RegionTactic
import Derived.WalkKit
import Derived.Deep.RegionHeld
namespace Go.Proofs.Ytkfoeijhhfaceab
open Go.RowKit Go.Shelf
attribute [local go_sem] Oper.semAt_some

/-- What a round keeps: all blocks below base but those that T names. -/
structure Kt (base : Nat) (T : Nat → Prop) (W W' : World) : Prop where
  size : W.heap.size ≤ W'.heap.size
  old : ∀ i, i < base → ¬ T i → W'.heap[i]? = W.heap[i]?
theorem Kt.refl (base : Nat) (T : Nat → Prop) (W : World) : Kt base T W W := ⟨Nat.le_refl _, fun _ _ _ => rfl⟩
theorem Kt.trans {base : Nat} {T : Nat → Prop} {A B C : World} (h : Kt base T A B) (k : Kt base T B C) : Kt base T A C := ⟨Nat.le_trans h.size k.size, fun i hi ht => (k.old i hi ht).trans (h.old i hi ht)⟩
theorem Kt.put {base : Nat} {T : Nat → Prop} {w : World} (hn : base ≤ w.heap.size) (W : World) (l : Nat) (o o' : Obj) (hl : w.heap.size ≤ l) (_ : W.heap[l]? = some o) (_ : o.isCells = false) (_ : o.isWalk = false) : Kt base T W (W.putObj l o') :=
  ⟨by simp, fun i hi _ => World.putObj_heap_other (by omega)⟩
theorem Kt.below {base : Nat} {T : Nat → Prop} {W W' : World} (hb : Below W.heap.size W W') (hn : base ≤ W.heap.size) : Kt base T W W' := ⟨hb.size, fun i hi _ => hb.block i (by omega)⟩

/-- A row that lies where a round keeps it. -/
def Kept (base : Nat) (T : Nat → Prop) (a : Option Addr) : Prop := ∀ b off, a = some ⟨b, off, none⟩ → b < base ∧ ¬ T b
theorem Rx.kt {base : Nat} {T : Nat → Prop} {A B : World} {a : Option Addr} {cap : Nat} {l : List Ext} (hr : Rx A a cap l) (h : Kt base T A B) (hk : 0 < l.length → Kept base T a) : Rx B a cap l := by
  refine ⟨hr.room, hr.most, hr.none0, fun h0 => ?_, hr.fits⟩
  obtain ⟨b, off, ha, hbw, hc⟩ := hr.cells h0
  obtain ⟨k1, k2⟩ := hk h0 b off ha
  refine ⟨b, off, ha, Nat.lt_of_lt_of_le hbw h.size, fun j hj => ?_⟩
  obtain ⟨c0, c1⟩ := hc j hj
  rw [← c0, ← c1]
  unfold World.cell?
  rw [h.old b k1 k2]
  exact ⟨rfl, rfl⟩
abbrev Rw := Option Addr × Nat × List Ext
def rwV (x : Rw) : Value := .slice x.1 x.2.2.length x.2.1
structure Ro (w : World) (base : Nat) (T : Nat → Prop) (gR : Nat) (L : List Rw) : Prop where
  blk : w.heap[gR]? = some (.cells (L.map rwV).toArray 22 (0, 0))
  ins : gR < base ∧ ¬ T gR
  rows : ∀ x, x ∈ L → Rx w x.1 x.2.1 x.2.2 ∧ (0 < x.2.2.length → Kept base T x.1)
theorem Ro.kt {base : Nat} {T : Nat → Prop} {A B : World} {gR : Nat} {L : List Rw} (h : Ro A base T gR L) (k : Kt base T A B) : Ro B base T gR L :=
  ⟨(k.old gR h.ins.1 h.ins.2).trans h.blk, h.ins, fun x hx => ⟨(h.rows x hx).1.kt k (h.rows x hx).2, (h.rows x hx).2⟩⟩
theorem Ro.one {W : World} {base : Nat} {T : Nat → Prop} {gR : Nat} {a : Option Addr} {cap : Nat} {l : List Ext} (hb : W.heap[gR]? = some (.cells #[.slice a l.length cap] 22 (0, 0))) (hi : gR < base ∧ ¬ T gR) (hr : Rx W a cap l) (hk : 0 < l.length → Kept base T a) : Ro W base T gR [(a, cap, l)] :=
  ⟨hb, hi, fun x hx => by
    rw [List.mem_singleton] at hx
    subst hx
    exact ⟨hr, hk⟩⟩
theorem Rx.kept {w : World} {a : Option Addr} {cap : Nat} {l : List Ext} (hr : Rx w a cap l) {base : Nat} {T : Nat → Prop} (hb : w.heap.size ≤ base) (hT : ∀ i, T i → w.heap.size ≤ i) : 0 < l.length → Kept base T a := fun h0 b off e => by
  obtain ⟨b', off', e', hlt, _⟩ := hr.cells h0
  rw [e] at e'
  cases e'
  exact ⟨by omega, fun ht => by have := hT b ht; omega⟩
def flatR (L : List Rw) : List Ext := L.flatMap fun x => x.2.2
theorem flat_one (a : Option Addr) (cap : Nat) (l : List Ext) : flatR [(a, cap, l)] = l := by simp [flatR]
theorem flat_take (L : List Rw) (k : Nat) (h : k < L.length) : flatR (L.take (k + 1)) = flatR (L.take k) ++ (L.getD k (none, 0, [])).2.2 := by
  unfold flatR
  rw [List.take_succ_eq_append_getElem h, List.flatMap_append]
  simp [List.getD, h]
theorem flat_len_take (L : List Rw) (k : Nat) (h : k < L.length) : (flatR (L.take k)).length + (L.getD k (none, 0, [])).2.2.length ≤ (flatR L).length := by
  have e : flatR L = flatR (L.take (k + 1)) ++ flatR (L.drop (k + 1)) := by
    unfold flatR
    rw [← List.flatMap_append, List.take_append_drop]
  rw [e, flat_take L k h]
  simp only [List.length_append]
  omega
theorem ext_take (l : List Ext) (k : Nat) (h : k < l.length) : l.take (k + 1) = l.take k ++ [l.getD k ex0] := by
  rw [List.take_succ_eq_append_getElem h]
  simp [List.getD, h]
def encX {P : Ext → Prop} (x : { x : Ext // P x }) : Array Value := #[.agg (extV x.1)]
def vals {P : Ext → Prop} (l : List { x : Ext // P x }) : List Ext := l.map Subtype.val
theorem vals_snoc {P : Ext → Prop} (l : List { x : Ext // P x }) (x : { x : Ext // P x }) : vals (l ++ [x]) = vals l ++ [x.1] := by simp [vals]
theorem vals_nil {P : Ext → Prop} : vals ([] : List { x : Ext // P x }) = [] := rfl
theorem vals_len {P : Ext → Prop} (l : List { x : Ext // P x }) : (vals l).length = l.length := by simp [vals]
theorem vals_mem {P : Ext → Prop} (l : List { x : Ext // P x }) : ∀ x, x ∈ vals l → P x := fun x hx => by
  obtain ⟨y, _, rfl⟩ := List.mem_map.1 hx
  exact y.2

theorem each_word (a : Option Addr) (len cap : Nat) (w : World) :
    Calls Try.prog 12 #[.slice a len cap] w fun e w' => e = .returned (.func (.func 19) #[] #[.pointer (some ⟨w.heap.size, 0, none⟩)]) ∧ w' = w.alloc (.cells #[.slice a len cap] 42) := by
  go_enter Try.func12, Try.ntmps12
  go_wp2
  go_ret
  exact ⟨rfl, rfl⟩

set_option maxHeartbeats 3200000 in
set_option maxRecDepth 100000 in
theorem each_stops (P : Ext → Prop) (L : List Rw) (base : Nat) (T : Nat → Prop) (gR Bo cap : Nat) (W0 : World) (hro : Ro W0 base T gR L) (hP : ∀ x, x ∈ flatR L → P x) (hbase : base ≤ W0.heap.size) (hL : L.length ≤ 3) (hcap : L.length ≤ cap) (hbo : W0.heap[Bo]? = some (.cells #[.slice (some ⟨gR, 0, none⟩) L.length cap] 42 (0, 0))) :
    SeqStopsK Fence.wide 9 Try.prog 19 #[.pointer (some ⟨Bo, 0, none⟩)] (encX (P := P)) (Kt base T) (fun ys => vals ys = flatR L) (fun pre => vals pre <+: flatR L) ((flatR L).length + 1) W0 := fun ll J Jx W hW hJ _ hY h0 => by
  have HJ := hid hJ
  have HY := hid hY
  have HR := hid (hro.kt (Kt.below hW hbase))
  have HN : Hid (base ≤ W.heap.size) := Nat.le_trans hbase hW.size
  have cb0 := Joins.cell_of_block ((hW.block Bo (Array.getElem?_eq_some_iff.1 hbo).1).trans hbo) 0
  simp only [List.getElem?_toArray, List.getElem?_cons_zero] at cb0
  obtain ⟨n, hn⟩ : ∃ n, n = L.length := ⟨_, rfl⟩
  have HL := hid hn
  rw [← hn] at cb0 hL hcap
  have H0 := hid h0
  have HPP := hid hP
  clear hY hJ hro hbase hbo hW hn h0 hP
  refine callsIn_of_wp Try.func19 rfl trivial ?_ rfl
  simp only [Try.ntmps19, List.size_toArray, List.length_cons, List.length_nil, Nat.reduceAdd, Nat.reduceSub, Array.replicate_succ, Array.replicate_zero, List.push_toArray, List.append_toArray, List.nil_append, List.cons_append]
  gi_wp2
  clear cb0
  gi_loopw [9] (fun p wr => ∃ k : Nat, k ≤ n ∧ p = .int .i64 (k : Int) ∧ Hid (∃ pre, vals pre = flatR (L.take k) ∧ J pre wr) ∧ Hid (Ro wr base T gR L) ∧ Hid (base ≤ wr.heap.size)) (fun p _ => n - (intOf p).toNat)
  case atStart => exact ⟨0, by omega, rfl, ⟨[], rfl, H0.out⟩, HR.out, HN.out⟩
  case round =>
    clear H0 HR HN
    obtain ⟨k, hk, rfl, HJk, HRk, HNk⟩ := hrel
    by_cases hlt : k < n
    · have hkz : (k : Int) < (n : Int) := by omega
      have hkl : k < L.length := by rw [← HL.out]; exact hlt
      have cr := Joins.cell_of_block HRk.out.blk k
      have HX := hid (HRk.out.rows (L.getD k (none, 0, [])) (by simp only [List.getD, List.getElem?_eq_getElem hkl, Option.getD_some]; exact List.getElem_mem hkl))
      have HFT := hid (flat_take L k hkl)
      have HFL := hid (flat_len_take L k hkl)
      have ecr : (L.map rwV).toArray[k]? = some (rwV (L.getD k (none, 0, []))) := by simp [List.getD, hkl]
      rw [ecr] at cr
      generalize L.getD k (none, 0, []) = x at *
      obtain ⟨a, cp, l⟩ := x
      unfold rwV at cr
      dsimp only at cr HX HFT HFL
      have hroom := HX.out.1.room
      have hmost := HX.out.1.most
      unfold maxLen at hmost
      obtain ⟨m, hm⟩ : ∃ m, m = l.length := ⟨_, rfl⟩
      have HM := hid hm
      rw [← hm] at cr hroom
      clear hm ecr
      gi_wp2
      clear cr hkz
      obtain ⟨wo, hwo⟩ : ∃ wo : World, wo = wr := ⟨_, rfl⟩
      gi_loopw [15] (fun p wr => ∃ j : Nat, j ≤ m ∧ p = .int .i64 (j : Int) ∧ Hid (∃ pre, vals pre = flatR (L.take k) ++ l.take j ∧ J pre wr) ∧ Hid (Ro wr base T gR L) ∧ Hid (Rx wr a cp l) ∧ Hid (base ≤ wr.heap.size)) (fun p _ => m - (intOf p).toNat)
      case atStart => exact ⟨0, by omega, rfl, (by rw [List.take_zero, List.append_nil]; exact HJk.out), HRk.out, HX.out.1, HNk.out⟩
      case round =>
        obtain ⟨j, hj, rfl, HJj, HRj, HXj, HNj⟩ := hrel
        clear HJk HRk HNk hwo
        by_cases hjm : j < m
        · have hjz : (j : Int) < (m : Int) := by omega
          have hjl : j < l.length := by rw [← HM.out]; exact hjm
          obtain ⟨b, off, rfl, hbw, hc⟩ := HXj.out.cells (by omega)
          obtain ⟨c0, c1⟩ := hc j hjl
          have HET := hid (ext_take l j hjl)
          generalize l.getD j ex0 = y at *
          obtain ⟨y0, y1⟩ := y
          dsimp only at c0 c1
          have hbA := bel_alloc wr (.cells #[.int .i64 y0, .int .i64 y1] 29)
          obtain ⟨pre, hpre, hJj⟩ := HJj.out
          have HPR := hid hpre
          have HJ2 := hid (HJ.out _ wr _ none hJj (grown_of_below hbA) (fun r e => by cases e))
          have HK2 : Hid (Kt base T wr (wr.alloc (.cells #[.int .i64 y0, .int .i64 y1] 29))) := Kt.below hbA HNj.out
          have HR2 := hid (HRj.out.kt HK2.out)
          have HX2 := hid (HXj.out.kt HK2.out HX.out.2)
          have HN2 : Hid (base ≤ (wr.alloc (.cells #[.int .i64 y0, .int .i64 y1] 29)).heap.size) := Nat.le_trans HNj.out hbA.size
          have hlen : pre.length < (flatR L).length + 1 := by
            have h1 := HFL.out
            have h2 := vals_len pre
            rw [hpre, List.length_append, List.length_take] at h2
            omega
          have hPy : P (y0, y1) := HPP.out _ (by
            have e1 : flatR L = flatR (L.take (k + 1)) ++ flatR (L.drop (k + 1)) := by
              unfold flatR
              rw [← List.flatMap_append, List.take_append_drop]
            rw [e1, HFT.out]
            refine List.mem_append_left _ (List.mem_append_right _ (List.mem_of_mem_take (i := j + 1) ?_))
            rw [HET.out]
            simp)
          obtain ⟨fn, tmps, assign, body, hy, hRd⟩ := HY.out _ ⟨(y0, y1), hPy⟩ _ HJ2.out hlen
          unfold encX extV at hy
          dsimp only at hy
          clear hc hbA HK2 HJj HRj HXj HNj hlen hpre hJj
          gi_wp2_with fail
          refine hRd.mono ?_
          rintro e w3 (⟨rfl, hJ3, hk3⟩ | ⟨rfl, hJx3⟩)
          · have HR3 := hid (HR2.out.kt hk3)
            have HX3 := hid (HX2.out.kt hk3 HX.out.2)
            have HN3 : Hid (base ≤ w3.heap.size) := Nat.le_trans HN2.out hk3.size
            have HJ3 : Hid (∃ pre, vals pre = flatR (L.take k) ++ l.take (j + 1) ∧ J pre w3) := by
              refine ⟨_, ?_, hJ3⟩
              rw [vals_snoc, HPR.out, HET.out, ← List.append_assoc]
            clear hJ3 hk3
            gi_wp2
            exact ⟨⟨j + 1, by omega, by go_num, HJ3, HR3, HX3, HN3⟩, by simp [intOf]; omega⟩
          · have HP : Hid (vals (pre ++ [(⟨(y0, y1), hPy⟩ : { x : Ext // P x })]) <+: flatR L) := by
              show _ <+: _
              rw [vals_snoc, HPR.out]
              have e1 : flatR L = flatR (L.take (k + 1)) ++ flatR (L.drop (k + 1)) := by
                unfold flatR
                rw [← List.flatMap_append, List.take_append_drop]
              rw [e1, HFT.out, List.append_assoc, ← HET.out, List.append_assoc]
              exact (List.prefix_append_right_inj _).2 (List.IsPrefix.trans (List.take_prefix _ _) (List.prefix_append _ _))
            gi_wp2
            refine bodyPost_ret (results_none rfl _ _ _) rfl ?_
            exact ⟨⟨_, rfl⟩, .inr ⟨_, HP.out, hJx3⟩⟩
        · obtain rfl : j = m := by omega
          have hjz : ¬ (j : Int) < (j : Int) := by omega
          have HT : Hid (l.take j = l) := List.take_of_length_le (by rw [← HM.out]; omega)
          rw [HT.out, ← HFT.out] at HJj
          gi_wp2
          exact ⟨⟨k + 1, by omega, by go_num, HJj, HRj, HNj⟩, by simp [intOf]; omega⟩
    · obtain rfl : k = n := by omega
      have hkz : ¬ (k : Int) < (k : Int) := by omega
      have HT : Hid (L.take k = L) := List.take_of_length_le (by rw [← HL.out]; omega)
      rw [HT.out] at HJk
      have hJe := HJk.out
      gi_wp2
      go_end0
      exact ⟨⟨_, rfl⟩, .inl hJe⟩
end Go.Proofs.Ytkfoeijhhfaceab
/-
  Steps through a region that draws its order, in the order of the text: what yields in every world that meets S is taken first, its slot named.
-/
namespace Go.Proofs.Ytkfoeijhhfaceab.Ord
section
variable {P : Program} {md : Region.Mode} {ops : Array Oper} {Q : Exit → Act → World → Prop} {S : World → Prop}

theorem take {i d : Nat} {oi : Oper} {v : Value} {fuel : Nat} {listed : Array Bool} {ts : Array Value} {df : List Deferred} {w : World} (hi : ops[i]? = some oi) (hd : oi.dst = some d)
    (hs : Region.noSelect ops = true) (hf : Region.free md ops listed i = true) (hr : (Region.ready md ops listed).contains i = true)
    (hQ : ∀ c a w, Q (.panic c) (a.put oi.dst v) w → Q (.panic c) a w) (hw : Region.wanted oi (yielded ops ts) = true)
    (hy : ∀ w, S w → (execOp (Act.eval ⟨ts, df⟩) oi).run P w = .ok (.value v) w) (hS : S w)
    (h : wpAnyH P md ops Q S fuel (listed.setIfInBounds i true) ⟨ts.setIfInBounds d v, df⟩ w) : wpAnyH P md ops Q S (fuel + 1) listed ⟨ts, df⟩ w :=
  wpAnyH_take hi hs hf hr hQ (Or.inl ⟨hw, hy⟩) hS (by rw [hd]; exact h)

theorem put {d : Nat} {o : Oper} (hd : o.dst = some d) {fuel : Nat} {listed : Array Bool} {ts : Array Value} {df : List Deferred} {v : Value} {w : World}
    (h : wpAnyH P md ops Q S fuel listed ⟨ts.setIfInBounds d v, df⟩ w) : wpAnyH P md ops Q S fuel listed (Act.put ⟨ts, df⟩ o.dst v) w := by
  rw [hd]; exact h

theorem skip {i d : Nat} {oi : Oper} {fuel : Nat} {listed : Array Bool} {ts : Array Value} {df : List Deferred} {w : World} (hi : ops[i]? = some oi) (hd : oi.dst = some d)
    (hs : Region.noSelect ops = true) (hf : Region.free md ops listed i = true) (hr : (Region.ready md ops listed).contains i = true)
    (hQ : ∀ c a w, Q (.panic c) (a.put oi.dst undef) w → Q (.panic c) a w) (hw : Region.wanted oi (yielded ops ts) = false) (hS : S w)
    (h : wpAnyH P md ops Q S fuel (listed.setIfInBounds i true) ⟨ts.setIfInBounds d undef, df⟩ w) : wpAnyH P md ops Q S (fuel + 1) listed ⟨ts, df⟩ w :=
  wpAnyH_take hi hs hf hr hQ (Or.inr ⟨hw, rfl⟩) hS (by rw [hd]; exact h)

/-- S may be exchanged for a stronger one. -/
theorem more {S' : World → Prop} (hS : ∀ w, S' w → S w) : ∀ (fuel : Nat) (listed : Array Bool) (a : Act) (w : World), wpAnyH P md ops Q S' fuel listed a w → wpAnyH P md ops Q S fuel listed a w
  | 0, _, _, _, h => h
  | fuel + 1, _, _, _, h => ⟨h.1, fun i hi => wpOp_mono (fun a' w' h' => ⟨hS _ h'.1, more hS fuel _ a' w' h'.2⟩) (h.2 i hi)⟩
end
end Go.Proofs.Ytkfoeijhhfaceab.Ord
/-
  Steps through a region that draws its order: as in Ord, but behind one operation that waits for all that are taken nothing is asked of the world.
-/
namespace Go.Proofs.Ytkfoeijhhfaceab.OrdE
open Go.RowKit
section
variable {P : Program} {md : Region.Mode} {ops : Array Oper} {Q : Exit → Act → World → Prop} {S : World → Prop} {f : Nat}

/-- Whichever operation comes up; S holds behind each but the one numbered f. -/
def Goes (P : Program) (md : Region.Mode) (ops : Array Oper) (Q : Exit → Act → World → Prop) (S : World → Prop) (f : Nat) : Nat → Array Bool → Act → World → Prop
  | 0, l, a, w => Region.ready md ops l = [] ∧ Q .normal a w
  | n + 1, l, a, w => (Region.ready md ops l = [] → Q .normal a w) ∧ ∀ i ∈ Region.ready md ops l, wpOp P ops Q i (fun a' w' => (i ≠ f → S w') ∧ Goes P md ops Q S f n (l.setIfInBounds i true) a' w') a w

theorem Goes.any : ∀ (n : Nat) (l : Array Bool) (a : Act) (w : World), Goes P md ops Q S f n l a w → wpAny P md ops Q n l a w
  | 0, _, _, _, h => h
  | n + 1, _, _, _, h => ⟨h.1, fun i hi => wpOp_mono (fun a' w' h' => Goes.any n _ a' w' h'.2) (h.2 i hi)⟩

theorem first {i : Nat} {oi of' : Oper} {v : Value} (hi : ops[i]? = some oi) (hf : ops[f]? = some of') (hdep : (of'.after.any fun e => Region.binds md e && e.on == i) = true) (hsel : ∀ (j : Nat) (o : Oper) cs b, ops[j]? = some o → o.op ≠ .select cs b)
    (hQ : ∀ c a w, Q (.panic c) (a.put oi.dst v) w → Q (.panic c) a w) :
    ∀ (n : Nat) (l : Array Bool) (a : Act) (w : World),
      (∀ j oj, ops[j]? = some oj → j ≠ i → l.getD j true = false → (∀ e ∈ oj.after, Region.binds md e = true → e.on ≠ i) → oi.apart ops oj = true) →
      i ∈ Region.ready md ops l → YieldsIf P ops S oi v a → S w →
      Goes P md ops Q S f n (l.setIfInBounds i true) (a.put oi.dst v) w → Goes P md ops Q S f (n + 1) l a w := by
  intro n
  induction n with
  | zero =>
    intro l a w _ hr hy hS H
    refine ⟨fun h => absurd hr (by rw [h]; simp), fun j hj => ?_⟩
    by_cases e : j = i
    · subst e; exact hy.wpOp hi hS ⟨fun _ => hS, H⟩
    · exact absurd (ready_mono hj e) (by rw [H.1]; simp)
  | succ n ih =>
    intro l a w hfree hr hy hS H
    refine ⟨fun h => absurd hr (by rw [h]; simp), fun j hj => ?_⟩
    by_cases e : j = i
    · subst e; exact hy.wpOp hi hS ⟨fun _ => hS, H⟩
    · obtain ⟨hun, oj, hoj, hall⟩ := mem_ready.1 hj
      have hnot : ∀ x ∈ oj.after, Region.binds md x = true → x.on ≠ i := fun x hx hb hq => by
        have h1 := hall x hx hb
        have h0 := (mem_ready.1 hr).1
        rw [hq] at h1
        rcases Nat.lt_or_ge i l.size with h' | h'
        · simp [h'] at h0 h1; rw [h0] at h1; cases h1
        · simp [Array.getElem?_eq_none h'] at h1
      have hjf : j ≠ f := fun hq => by
        subst hq
        rw [hf] at hoj
        injection hoj with hoj
        subst hoj
        obtain ⟨x, hx, hxx⟩ := Array.any_eq_true'.1 hdep
        rw [Bool.and_eq_true, beq_iff_eq] at hxx
        exact hnot x hx hxx.1 hxx.2
      have h2 := wpOp_putIf hoj (hfree j oj hoj e hun hnot) (fun cs b => hsel i oi cs b hi) (fun cs b => hsel j oj cs b hoj) hQ hy (H.2 j (ready_mono hj e))
      refine wpOp_mono (fun a' w' h3 => ⟨fun _ => h3.2.1 hjf, ih (l.setIfInBounds j true) a' w' (fun k ok hk hki hu hno => hfree k ok hk hki ?_ hno) (ready_mono hr (Ne.symm e)) h3.1 (h3.2.1 hjf) ?_⟩) h2
      · by_cases hjk : j = k
        · subst hjk; exact hun
        · rw [getD_set_ne true hjk] at hu; exact hu
      · rw [Array.setIfInBounds_comm _ _ e]
        exact h3.2.2

theorem take {i d : Nat} {oi of' : Oper} {v : Value} {n : Nat} {l : Array Bool} {ts : Array Value} {df : List Deferred} {w : World} (hi : ops[i]? = some oi) (hd : oi.dst = some d) (hf' : ops[f]? = some of') (hdep : (of'.after.any fun e => Region.binds md e && e.on == i) = true)
    (hs : Region.noSelect ops = true) (hf : Region.free md ops l i = true) (hr : (Region.ready md ops l).contains i = true)
    (hQ : ∀ c a w, Q (.panic c) (a.put oi.dst v) w → Q (.panic c) a w) (hw : Region.wanted oi (yielded ops ts) = true)
    (hy : ∀ w, S w → (execOp (Act.eval ⟨ts, df⟩) oi).run P w = .ok (.value v) w) (hS : S w)
    (h : Goes P md ops Q S f n (l.setIfInBounds i true) ⟨ts.setIfInBounds d v, df⟩ w) : Goes P md ops Q S f (n + 1) l ⟨ts, df⟩ w :=
  first hi hf' hdep (Region.noSelect_spec hs) hQ n l _ w (Region.free_spec hi hf) (by simpa using hr) (Or.inl ⟨hw, hy⟩) hS (by rw [hd]; exact h)

/-- The one operation that can come up. -/
theorem one {i : Nat} {o : Oper} {n : Nat} {l : Array Bool} {a : Act} {w : World} (hr : Region.ready md ops l = [i]) (ho : ops[i]? = some o)
    (h : ∀ K' : Act → World → Prop, Shut (∀ a w, (i ≠ f → S w) → Goes P md ops Q S f n (l.setIfInBounds i true) a w → K' a w) → if Region.wanted o (yielded ops a.tmps) = true then Oper.wp P o a w K' Q else K' (a.put o.dst undef) w) :
    Goes P md ops Q S f (n + 1) l a w := by
  refine ⟨fun h0 => absurd h0 (by rw [hr]; simp), fun j hj => ?_⟩
  rw [hr, List.mem_singleton] at hj
  subst hj
  exact wpOp_step ho (fun K' hK => h K' (fun a w h1 h2 => hK a w ⟨h1, h2⟩))

theorem done {l : Array Bool} {a : Act} {w : World} (hr : Region.ready md ops l = []) (h : Q .normal a w) : ∀ n, Goes P md ops Q S f n l a w
  | 0 => ⟨hr, h⟩
  | _ + 1 => ⟨fun _ => h, by rw [hr]; simp⟩

theorem put {d : Nat} {o : Oper} (hd : o.dst = some d) {n : Nat} {l : Array Bool} {ts : Array Value} {df : List Deferred} {v : Value} {w : World}
    (h : Goes P md ops Q S f n l ⟨ts.setIfInBounds d v, df⟩ w) : Goes P md ops Q S f n l (Act.put ⟨ts, df⟩ o.dst v) w := by
  rw [hd]; exact h
end

theorem region {P : Program} {ops : Array Oper} {Q : Exit → Act → World → Prop} {id : Nat} {a : Act} {w : World} (S : World → Prop) (f : Nat) (hm : P.follows .mixedOrders = true) (hS : S w.drew)
    (h : S w.drew → Goes P .any ops Q S f ops.size (Array.replicate ops.size false) a w.drew) : (Code.region id ops true).wp P Q a w :=
  wp_region_any hm (Goes.any _ _ _ _ (h hS))
end Go.Proofs.Ytkfoeijhhfaceab.OrdE
