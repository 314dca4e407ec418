/-
  Steps through a region that draws its order: as in Ord, but behind one operation that waits for all that are taken nothing is asked of the world.
-/
import Derived.Test.YtelnefngkdfcoaaGreatPart10
import Derived.Deep.RegionHeld
import Derived.Test.YtelnefngkdfcoaaGreatPart16
namespace Go.Proofs.YtelnefngkdfcoaaGreat.OrdE
open Go.RowKit
section
variable {P : Program} {md : Region.Mode} {ops : Array Oper} {Q : Exit → Act → World → Prop} {S : World → Prop} {f : Nat}

def Goes (P : Program) (md : Region.Mode) (ops : Array Oper) (Q : Exit → Act → World → Prop) (S : World → Prop) (f : Nat) : Nat → Array Bool → Act → World → Prop
  | 0, l, a, w => Region.ready md ops l = [] ∧ Q .normal a w
  | n + 1, l, a, w => (Region.ready md ops l = [] → Q .normal a w) ∧ ∀ i ∈ Region.ready md ops l, wpOp P ops Q i (fun a' w' => (i ≠ f → S w') ∧ Goes P md ops Q S f n (l.setIfInBounds i true) a' w') a w

theorem Goes.any : ∀ (n : Nat) (l : Array Bool) (a : Act) (w : World), Goes P md ops Q S f n l a w → wpAny P md ops Q n l a w
  | 0, _, _, _, h => h
  | n + 1, _, _, _, h => ⟨h.1, fun i hi => wpOp_mono (fun a' w' h' => Goes.any n _ a' w' h'.2) (h.2 i hi)⟩

theorem first {i : Nat} {oi of' : Oper} {v : Value} (hi : ops[i]? = some oi) (hf : ops[f]? = some of') (hdep : (of'.after.any fun e => Region.binds md e && e.on == i) = true) (hsel : ∀ (j : Nat) (o : Oper) cs b, ops[j]? = some o → o.op ≠ .select cs b)
    (hQ : ∀ c a w, Q (.panic c) (a.put oi.dst v) w → Q (.panic c) a w) :
    ∀ (n : Nat) (l : Array Bool) (a : Act) (w : World),
      (∀ j oj, ops[j]? = some oj → j ≠ i → l.getD j true = false → (∀ e ∈ oj.after, Region.binds md e = true → e.on ≠ i) → oi.apart ops oj = true) →
      i ∈ Region.ready md ops l → YieldsIf P ops S oi v a → S w →
      Goes P md ops Q S f n (l.setIfInBounds i true) (a.put oi.dst v) w → Goes P md ops Q S f (n + 1) l a w := by
  intro n
  induction n with
  | zero =>
    intro l a w _ hr hy hS H
    refine ⟨fun h => absurd hr (by rw [h]; simp), fun j hj => ?_⟩
    by_cases e : j = i
    · subst e; exact hy.wpOp hi hS ⟨fun _ => hS, H⟩
    · exact absurd (ready_mono hj e) (by rw [H.1]; simp)
  | succ n ih =>
    intro l a w hfree hr hy hS H
    refine ⟨fun h => absurd hr (by rw [h]; simp), fun j hj => ?_⟩
    by_cases e : j = i
    · subst e; exact hy.wpOp hi hS ⟨fun _ => hS, H⟩
    · obtain ⟨hun, oj, hoj, hall⟩ := mem_ready.1 hj
      have hnot : ∀ x ∈ oj.after, Region.binds md x = true → x.on ≠ i := fun x hx hb hq => by
        have h1 := hall x hx hb
        have h0 := (mem_ready.1 hr).1
        rw [hq] at h1
        rcases Nat.lt_or_ge i l.size with h' | h'
        · simp [h'] at h0 h1; rw [h0] at h1; cases h1
        · simp [Array.getElem?_eq_none h'] at h1
      have hjf : j ≠ f := fun hq => by
        subst hq
        rw [hf] at hoj
        injection hoj with hoj
        subst hoj
        obtain ⟨x, hx, hxx⟩ := Array.any_eq_true'.1 hdep
        rw [Bool.and_eq_true, beq_iff_eq] at hxx
        exact hnot x hx hxx.1 hxx.2
      have h2 := wpOp_putIf hoj (hfree j oj hoj e hun hnot) (fun cs b => hsel i oi cs b hi) (fun cs b => hsel j oj cs b hoj) hQ hy (H.2 j (ready_mono hj e))
      refine wpOp_mono (fun a' w' h3 => ⟨fun _ => h3.2.1 hjf, ih (l.setIfInBounds j true) a' w' (fun k ok hk hki hu hno => hfree k ok hk hki ?_ hno) (ready_mono hr (Ne.symm e)) h3.1 (h3.2.1 hjf) ?_⟩) h2
      · by_cases hjk : j = k
        · subst hjk; exact hun
        · rw [getD_set_ne true hjk] at hu; exact hu
      · rw [Array.setIfInBounds_comm _ _ e]
        exact h3.2.2

theorem take {i d : Nat} {oi of' : Oper} {v : Value} {n : Nat} {l : Array Bool} {ts : Array Value} {df : List Deferred} {w : World} (hi : ops[i]? = some oi) (hd : oi.dst = some d) (hf' : ops[f]? = some of') (hdep : (of'.after.any fun e => Region.binds md e && e.on == i) = true)
    (hs : Region.noSelect ops = true) (hf : Region.free md ops l i = true) (hr : (Region.ready md ops l).contains i = true)
    (hQ : ∀ c a w, Q (.panic c) (a.put oi.dst v) w → Q (.panic c) a w) (hw : Region.wanted oi (yielded ops ts) = true)
    (hy : ∀ w, S w → (execOp (Act.eval ⟨ts, df⟩) oi).run P w = .ok (.value v) w) (hS : S w)
    (h : Goes P md ops Q S f n (l.setIfInBounds i true) ⟨ts.setIfInBounds d v, df⟩ w) : Goes P md ops Q S f (n + 1) l ⟨ts, df⟩ w :=
  first hi hf' hdep (Region.noSelect_spec hs) hQ n l _ w (Region.free_spec hi hf) (by simpa using hr) (Or.inl ⟨hw, hy⟩) hS (by rw [hd]; exact h)

theorem one {i : Nat} {o : Oper} {n : Nat} {l : Array Bool} {a : Act} {w : World} (hr : Region.ready md ops l = [i]) (ho : ops[i]? = some o)
    (h : ∀ K' : Act → World → Prop, Shut (∀ a w, (i ≠ f → S w) → Goes P md ops Q S f n (l.setIfInBounds i true) a w → K' a w) → if Region.wanted o (yielded ops a.tmps) = true then Oper.wp P o a w K' Q else K' (a.put o.dst undef) w) :
    Goes P md ops Q S f (n + 1) l a w := by
  refine ⟨fun h0 => absurd h0 (by rw [hr]; simp), fun j hj => ?_⟩
  rw [hr, List.mem_singleton] at hj
  subst hj
  exact wpOp_step ho (fun K' hK => h K' (fun a w h1 h2 => hK a w ⟨h1, h2⟩))

theorem done {l : Array Bool} {a : Act} {w : World} (hr : Region.ready md ops l = []) (h : Q .normal a w) : ∀ n, Goes P md ops Q S f n l a w
  | 0 => ⟨hr, h⟩
  | _ + 1 => ⟨fun _ => h, by rw [hr]; simp⟩

theorem put {d : Nat} {o : Oper} (hd : o.dst = some d) {n : Nat} {l : Array Bool} {ts : Array Value} {df : List Deferred} {v : Value} {w : World}
    (h : Goes P md ops Q S f n l ⟨ts.setIfInBounds d v, df⟩ w) : Goes P md ops Q S f n l (Act.put ⟨ts, df⟩ o.dst v) w := by
  rw [hd]; exact h
end

theorem region {P : Program} {ops : Array Oper} {Q : Exit → Act → World → Prop} {id : Nat} {a : Act} {w : World} (S : World → Prop) (f : Nat) (hm : P.follows .mixedOrders = true) (hS : S w.drew)
    (h : S w.drew → Goes P .any ops Q S f ops.size (Array.replicate ops.size false) a w.drew) : (Code.region id ops true).wp P Q a w :=
  wp_region_any hm (Goes.any _ _ _ _ (h hS))
end Go.Proofs.YtelnefngkdfcoaaGreat.OrdE
/-
  The contract of huff's tree.
-/
namespace Go.Proofs.YtelnefngkdfcoaaGreat
open Go.RowKit Hf

theorem Tryz.info180 : (Tryz.prog.info? 180).map (fun i => (i.zero, i.size, i.bytes)) = some (some (.agg #[.int .i64 0, .int .i64 0]), 2, 16) := by kernel_rfl

structure T0 (w wr : World) (gy gN gr capN : Nat) (vy : Value) (N : Nodes) : Prop where
  sy : wr.heap[gy]? = some (.cells #[vy] 51 (0, 0))
  nd : wr.heap[gN]? = some (.cells #[.slice (some ⟨gr, 0, none⟩) N.length capN] 177 (0, 0))
  row : wr.ownsRow w.heap.size 180 2 (.slice (some ⟨gr, 0, none⟩) N.length capN) N.length ((flatN N).map (Value.int .i64))
  by' : w.heap.size ≤ gy
  bN : w.heap.size ≤ gN
  bel : Below w.heap.size w wr
theorem TM.zero {w wr : World} {gy gN gl gp gr capN n : Nat} {vy : Value} {s : TS} (h : TM w wr gy gN gl gp gr capN n vy s) : T0 w wr gy gN gr capN vy s.N := ⟨h.sy, h.nd, h.row, h.by', h.bN, h.bel⟩
theorem T0.drew {w wr : World} {gy gN gr capN : Nat} {vy : Value} {N : Nodes} (h : T0 w wr gy gN gr capN vy N) : T0 w wr.drew gy gN gr capN vy N := ⟨h.sy, h.nd, h.row, h.by', h.bN, h.bel.drew⟩
theorem T0.box {w wr : World} {gy gN gr capN : Nat} {vy : Value} {N : Nodes} (h : T0 w wr gy gN gr capN vy N) : wr.cell? ⟨gN, 0, none⟩ = some (.slice (some ⟨gr, 0, none⟩) N.length capN) := by
  have := Joins.cell_of_block h.nd 0; simpa using this
theorem T0.sym {w wr : World} {gy gN gr capN : Nat} {vy : Value} {N : Nodes} (h : T0 w wr gy gN gr capN vy N) : wr.cell? ⟨gy, 0, none⟩ = some vy := by
  have := Joins.cell_of_block h.sy 0; simpa using this

theorem own_some2 {w : World} {B e n size : Nat} {v : Value} {xs : List Value} (h : w.ownsRow B e size v n xs) (hn : 0 < n) : ∃ g cap, v = .slice (some ⟨g, 0, none⟩) n cap ∧ B ≤ g ∧ ∃ cur, w.heap[g]? = some (.cells cur e (0, 0)) := by
  rcases h.2 with ⟨_, h0⟩ | ⟨g, cap, cur, hv, hb, hg, hnc, _⟩
  · omega
  · exact ⟨g, cap, hv, hb, cur, hg⟩

structure App (w wr w2 : World) (gy gN gr capN : Nat) (vy : Value) (N : Nodes) (x : Int) : Prop where
  row : w2.ownsRow w.heap.size 180 2 (.slice (some ⟨gr, 0, none⟩) (N ++ [(x, 0)]).length capN) (N ++ [(x, 0)]).length ((flatN (N ++ [(x, 0)])).map (Value.int .i64))
  nd : w2.heap[gN]? = some (.cells #[.slice (some ⟨gr, 0, none⟩) N.length capN] 177 (0, 0))
  sy : w2.heap[gy]? = some (.cells #[vy] 51 (0, 0))
  bel : Below w.heap.size w w2
  oth : ∀ k, k < wr.heap.size → k ≠ gr → w2.heap[k]? = wr.heap[k]?

theorem T0.rowBlk {w wr : World} {gy gN gr capN : Nat} {vy : Value} {N : Nodes} (h : T0 w wr gy gN gr capN vy N) : ∃ cur, wr.heap[gr]? = some (.cells cur 180 (0, 0)) := by
  rcases h.row.2 with ⟨hv, _⟩ | ⟨g, cap, cur, hv, hb, hg, _⟩
  · cases hv
  · injection hv with hv
    injection hv with hv
    injection hv with hv _
    subst hv
    exact ⟨cur, hg⟩
theorem T0.app {w wr w2 : World} {gy gN gr capN : Nat} {vy : Value} {N : Nodes} {x : Int} {o : Obj} (h : T0 w wr gy gN gr capN vy N) (hg : (wr.alloc o).grownBy w2 (some gr))
    (hown2 : w2.ownsRow w.heap.size 180 2 (.slice (some ⟨gr, 0, none⟩) (N ++ [(x, 0)]).length capN) (N ++ [(x, 0)]).length ((flatN (N ++ [(x, 0)])).map (Value.int .i64))) : App w wr w2 gy gN gr capN vy N x := by
  obtain ⟨cur, hcur⟩ := h.rowBlk
  have n1 : gN ≠ gr := ne_of_type h.nd hcur (by decide)
  have n2 : gy ≠ gr := ne_of_type h.sy hcur (by decide)
  have hl : ∀ k, k < wr.heap.size → k ≠ gr → w2.heap[k]? = wr.heap[k]? := fun k hk hne => by
    rw [hg.block k (by simp; omega) (by simp; exact hne)]
    exact (bel_alloc wr o).block k hk
  exact ⟨hown2, by rw [hl gN (Array.getElem?_eq_some_iff.1 h.nd).1 n1]; exact h.nd, by rw [hl gy (Array.getElem?_eq_some_iff.1 h.sy).1 n2]; exact h.sy,
    (h.bel.alloc h.bel.size o).grown hg (by simp; have := h.bel.size; omega) (fun k hk => by injection hk with hk; subst hk; exact (h.row.lt gr rfl).1), hl⟩
theorem App.box {w wr w2 : World} {gy gN gr capN : Nat} {vy : Value} {N : Nodes} {x : Int} (h : App w wr w2 gy gN gr capN vy N x) : w2.cell? ⟨gN, 0, none⟩ = some (.slice (some ⟨gr, 0, none⟩) N.length capN) := by
  have := Joins.cell_of_block h.nd 0; simpa using this
theorem App.froz {w wr w2 : World} {gy gN gr capN : Nat} {vy : Value} {N : Nodes} {x : Int} (h : App w wr w2 gy gN gr capN vy N x) : w2.frozen? ⟨gN, 0, none⟩ = false := Joins.unfrozen_of_block h.nd 0
theorem App.wt {w wr w2 : World} {gy gN gr capN : Nat} {vy : Value} {N : Nodes} {x : Int} (h : App w wr w2 gy gN gr capN vy N x) (i : Nat) (hi : i < N.length) : w2.cell? ⟨gr, i * 2, none⟩ = some (.int .i64 (Hf.wt N i)) := by
  have hl := flatN_length (N ++ [(x, 0)])
  have hl2 : (N ++ [(x, 0)]).length = N.length + 1 := by simp
  rw [Nat.mul_comm i 2, h.row.cellAt (2 * i) (by omega), List.getElem?_map, ← wt_app N (x, 0) i hi, ← flatN_wt]
  simp [List.getD, List.getElem?_eq_getElem (show 2 * i < (flatN (N ++ [(x, 0)])).length from by omega)]
theorem App.store {w wr w2 : World} {gy gN gr capN : Nat} {vy : Value} {N : Nodes} {x : Int} (h : App w wr w2 gy gN gr capN vy N x) (h0 : T0 w wr gy gN gr capN vy N) :
    T0 w (w2.setCell ⟨gN, 0, none⟩ (.slice (some ⟨gr, 0, none⟩) (N ++ [(x, 0)]).length capN)) gy gN gr capN vy (N ++ [(x, 0)]) ∧ (∀ k, k < wr.heap.size → k ≠ gr → k ≠ gN → (w2.setCell ⟨gN, 0, none⟩ (.slice (some ⟨gr, 0, none⟩) (N ++ [(x, 0)]).length capN)).heap[k]? = wr.heap[k]?) := by
  have n3 : gy ≠ gN := ne_of_type h.sy h.nd (by decide)
  have hrow : ∃ cur, w2.heap[gr]? = some (.cells cur 180 (0, 0)) := by
    rcases h.row.2 with ⟨hv, _⟩ | ⟨g, cap, cur, hv, hb, hg, _⟩
    · cases hv
    · injection hv with hv
      injection hv with hv
      injection hv with hv _
      subst hv
      exact ⟨cur, hg⟩
  obtain ⟨cur, hcur⟩ := hrow
  have n4 : gr ≠ gN := ne_of_type hcur h.nd (by decide)
  refine ⟨⟨by rw [heap_put_other h.nd n3]; exact h.sy, by rw [Joins.block_setCell h.nd]; rfl, ownsRow_setCell_other h.row (by simp [Value.ownBlock]; exact n4) _, h0.by', h0.bN, h.bel.setCell (show w.heap.size ≤ (Addr.mk gN 0 none).block from h0.bN) _⟩, fun k hk h1 h2 => ?_⟩
  rw [heap_put_other h.nd h2, h.oth k hk h1]

theorem wp_app_node (w w0 : World) {o : Oper} {ac : Act} {K : Act → World → Prop} {Q : Exit → Act → World → Prop} (s x : Operand)
    (ho : o.op = .call { callee := .builtin .append, args := #[s, x], argTypes := #[177, 177] }) (B gr capN : Nat) (N : Nodes) (z : Int) (hs : ac.eval s = .slice (some ⟨gr, 0, none⟩) N.length capN) (hown : w0.ownsRow B 180 2 (.slice (some ⟨gr, 0, none⟩) N.length capN) N.length ((flatN N).map (Value.int .i64)))
    (hw : w = w0.alloc (.cells #[.int .i64 z, .int .i64 0] 180)) (hx : ac.eval x = .slice (some ⟨w0.heap.size, 0, none⟩) 1 1) (hbd : N.length + 1 ≤ capN)
    (h : ∀ w', w'.ownsRow B 180 2 (.slice (some ⟨gr, 0, none⟩) (N ++ [(z, 0)]).length capN) (N ++ [(z, 0)]).length ((flatN (N ++ [(z, 0)])).map (Value.int .i64)) → w.grownBy w' (some gr) → K (ac.put o.dst (.slice (some ⟨gr, 0, none⟩) (N ++ [(z, 0)]).length capN)) w') : o.wp Tryz.prog ac w K Q := by
  obtain ⟨i0, hi, hz0, hz1, hz2⟩ := info_parts Tryz.info180
  subst hw
  obtain ⟨w', hr, h2, h3⟩ := run_append_fits (P := Tryz.prog) (w0.alloc (.cells #[.int .i64 z, .int .i64 0] 180)) B 177 o.type 180 i0 2 Tryz.underlying177 hi hz1 gr N.length capN _ (hown.alloc _) ⟨w0.heap.size, 0, none⟩ 1 1 [.int .i64 z, .int .i64 0] rfl (by
    intro j u hj
    match j, hj with
    | 0, hj => simp at hj; subst hj; simp [Addr.add]
    | 1, hj => simp at hj; subst hj; simp [Addr.add]) (by
    intro u hu
    simp at hu
    rcases hu with rfl | rfl <;> rfl) hbd
  unfold Oper.wp execOp
  simp only [ho, resolve, invoke, builtin, Sem.run_bind, Sem.run_pure, Result.andThen_ok, List.map_toArray, List.map_cons, List.map_nil, hs, hx, hr]
  have hl : (N ++ [(z, 0)]).length = N.length + 1 := by simp
  have := h w' (by rw [hl, flatN_app, List.map_append]; exact h2) h3
  rw [hl] at this
  exact this

def wsOf (cs sy : List Int) : List Int := sy.map (key cs)
theorem wsOf_getD (cs sy : List Int) (k : Nat) (hk : k < sy.length) : (wsOf cs sy).getD k 0 = key cs (sy.getD k 0) := by
  unfold wsOf
  simp [List.getD, hk]
def nodes0 (ws : List Int) (k : Nat) : Nodes := (ws.take k).map (fun x => (x, 0))
theorem nodes0_length (ws : List Int) (k : Nat) (hk : k ≤ ws.length) : (nodes0 ws k).length = k := by simp [nodes0]; omega
theorem nodes0_succ (ws : List Int) (k : Nat) (hk : k < ws.length) : nodes0 ws (k + 1) = nodes0 ws k ++ [(ws.getD k 0, 0)] := by
  unfold nodes0
  rw [take_snoc ws k hk, List.map_append]
  rfl
end Go.Proofs.YtelnefngkdfcoaaGreat
