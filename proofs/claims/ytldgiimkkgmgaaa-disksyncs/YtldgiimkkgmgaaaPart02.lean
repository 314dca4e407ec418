/-
  Steps through a region that draws its order: as in Ord, but behind one operation that waits for all that are taken nothing is asked of the world.
-/
import Derived.Test.YtldgiimkkgmgaaaPart01
import Derived.Deep.RegionHeld
namespace Go.Proofs.Ytldgiimkkgmgaaa.OrdE
open Go.RowKit
section
variable {P : Program} {md : Region.Mode} {ops : Array Oper} {Q : Exit → Act → World → Prop} {S : World → Prop} {f : Nat}

/-- Whichever operation comes up; S holds behind each but the one numbered f. -/
def Goes (P : Program) (md : Region.Mode) (ops : Array Oper) (Q : Exit → Act → World → Prop) (S : World → Prop) (f : Nat) : Nat → Array Bool → Act → World → Prop
  | 0, l, a, w => Region.ready md ops l = [] ∧ Q .normal a w
  | n + 1, l, a, w => (Region.ready md ops l = [] → Q .normal a w) ∧ ∀ i ∈ Region.ready md ops l, wpOp P ops Q i (fun a' w' => (i ≠ f → S w') ∧ Goes P md ops Q S f n (l.setIfInBounds i true) a' w') a w

theorem Goes.any : ∀ (n : Nat) (l : Array Bool) (a : Act) (w : World), Goes P md ops Q S f n l a w → wpAny P md ops Q n l a w
  | 0, _, _, _, h => h
  | n + 1, _, _, _, h => ⟨h.1, fun i hi => wpOp_mono (fun a' w' h' => Goes.any n _ a' w' h'.2) (h.2 i hi)⟩

theorem first {i : Nat} {oi of' : Oper} {v : Value} (hi : ops[i]? = some oi) (hf : ops[f]? = some of') (hdep : (of'.after.any fun e => Region.binds md e && e.on == i) = true) (hsel : ∀ (j : Nat) (o : Oper) cs b, ops[j]? = some o → o.op ≠ .select cs b)
    (hQ : ∀ c a w, Q (.panic c) (a.put oi.dst v) w → Q (.panic c) a w) :
    ∀ (n : Nat) (l : Array Bool) (a : Act) (w : World),
      (∀ j oj, ops[j]? = some oj → j ≠ i → l.getD j true = false → (∀ e ∈ oj.after, Region.binds md e = true → e.on ≠ i) → oi.apart ops oj = true) →
      i ∈ Region.ready md ops l → YieldsIf P ops S oi v a → S w →
      Goes P md ops Q S f n (l.setIfInBounds i true) (a.put oi.dst v) w → Goes P md ops Q S f (n + 1) l a w := by
  intro n
  induction n with
  | zero =>
    intro l a w _ hr hy hS H
    refine ⟨fun h => absurd hr (by rw [h]; simp), fun j hj => ?_⟩
    by_cases e : j = i
    · subst e; exact hy.wpOp hi hS ⟨fun _ => hS, H⟩
    · exact absurd (ready_mono hj e) (by rw [H.1]; simp)
  | succ n ih =>
    intro l a w hfree hr hy hS H
    refine ⟨fun h => absurd hr (by rw [h]; simp), fun j hj => ?_⟩
    by_cases e : j = i
    · subst e; exact hy.wpOp hi hS ⟨fun _ => hS, H⟩
    · obtain ⟨hun, oj, hoj, hall⟩ := mem_ready.1 hj
      have hnot : ∀ x ∈ oj.after, Region.binds md x = true → x.on ≠ i := fun x hx hb hq => by
        have h1 := hall x hx hb
        have h0 := (mem_ready.1 hr).1
        rw [hq] at h1
        rcases Nat.lt_or_ge i l.size with h' | h'
        · simp [h'] at h0 h1; rw [h0] at h1; cases h1
        · simp [Array.getElem?_eq_none h'] at h1
      have hjf : j ≠ f := fun hq => by
        subst hq
        rw [hf] at hoj
        injection hoj with hoj
        subst hoj
        obtain ⟨x, hx, hxx⟩ := Array.any_eq_true'.1 hdep
        rw [Bool.and_eq_true, beq_iff_eq] at hxx
        exact hnot x hx hxx.1 hxx.2
      have h2 := wpOp_putIf hoj (hfree j oj hoj e hun hnot) (fun cs b => hsel i oi cs b hi) (fun cs b => hsel j oj cs b hoj) hQ hy (H.2 j (ready_mono hj e))
      refine wpOp_mono (fun a' w' h3 => ⟨fun _ => h3.2.1 hjf, ih (l.setIfInBounds j true) a' w' (fun k ok hk hki hu hno => hfree k ok hk hki ?_ hno) (ready_mono hr (Ne.symm e)) h3.1 (h3.2.1 hjf) ?_⟩) h2
      · by_cases hjk : j = k
        · subst hjk; exact hun
        · rw [getD_set_ne true hjk] at hu; exact hu
      · rw [Array.setIfInBounds_comm _ _ e]
        exact h3.2.2

theorem take {i d : Nat} {oi of' : Oper} {v : Value} {n : Nat} {l : Array Bool} {ts : Array Value} {df : List Deferred} {w : World} (hi : ops[i]? = some oi) (hd : oi.dst = some d) (hf' : ops[f]? = some of') (hdep : (of'.after.any fun e => Region.binds md e && e.on == i) = true)
    (hs : Region.noSelect ops = true) (hf : Region.free md ops l i = true) (hr : (Region.ready md ops l).contains i = true)
    (hQ : ∀ c a w, Q (.panic c) (a.put oi.dst v) w → Q (.panic c) a w) (hw : Region.wanted oi (yielded ops ts) = true)
    (hy : ∀ w, S w → (execOp (Act.eval ⟨ts, df⟩) oi).run P w = .ok (.value v) w) (hS : S w)
    (h : Goes P md ops Q S f n (l.setIfInBounds i true) ⟨ts.setIfInBounds d v, df⟩ w) : Goes P md ops Q S f (n + 1) l ⟨ts, df⟩ w :=
  first hi hf' hdep (Region.noSelect_spec hs) hQ n l _ w (Region.free_spec hi hf) (by simpa using hr) (Or.inl ⟨hw, hy⟩) hS (by rw [hd]; exact h)

/-- The one operation that can come up. -/
theorem one {i : Nat} {o : Oper} {n : Nat} {l : Array Bool} {a : Act} {w : World} (hr : Region.ready md ops l = [i]) (ho : ops[i]? = some o)
    (h : ∀ K' : Act → World → Prop, Shut (∀ a w, (i ≠ f → S w) → Goes P md ops Q S f n (l.setIfInBounds i true) a w → K' a w) → if Region.wanted o (yielded ops a.tmps) = true then Oper.wp P o a w K' Q else K' (a.put o.dst undef) w) :
    Goes P md ops Q S f (n + 1) l a w := by
  refine ⟨fun h0 => absurd h0 (by rw [hr]; simp), fun j hj => ?_⟩
  rw [hr, List.mem_singleton] at hj
  subst hj
  exact wpOp_step ho (fun K' hK => h K' (fun a w h1 h2 => hK a w ⟨h1, h2⟩))

theorem done {l : Array Bool} {a : Act} {w : World} (hr : Region.ready md ops l = []) (h : Q .normal a w) : ∀ n, Goes P md ops Q S f n l a w
  | 0 => ⟨hr, h⟩
  | _ + 1 => ⟨fun _ => h, by rw [hr]; simp⟩

theorem put {d : Nat} {o : Oper} (hd : o.dst = some d) {n : Nat} {l : Array Bool} {ts : Array Value} {df : List Deferred} {v : Value} {w : World}
    (h : Goes P md ops Q S f n l ⟨ts.setIfInBounds d v, df⟩ w) : Goes P md ops Q S f n l (Act.put ⟨ts, df⟩ o.dst v) w := by
  rw [hd]; exact h
end

theorem region {P : Program} {ops : Array Oper} {Q : Exit → Act → World → Prop} {id : Nat} {a : Act} {w : World} (S : World → Prop) (f : Nat) (hm : P.follows .mixedOrders = true) (hS : S w.drew)
    (h : S w.drew → Goes P .any ops Q S f ops.size (Array.replicate ops.size false) a w.drew) : (Code.region id ops true).wp P Q a w :=
  wp_region_any hm (Goes.any _ _ _ _ (h hS))
end Go.Proofs.Ytldgiimkkgmgaaa.OrdE
/-
  Single operations whose run is known by an equation, for the steps through drawn regions.
-/
namespace Go.Proofs.Ytldgiimkkgmgaaa
open Go.RowKit

theorem exec_load {P : Program} {w : World} {o : Oper} {ρ : Operand → Value} (ty : TypeId) (x : Operand) (ho : o.op = .load ty x) (b off : Nat) (hx : ρ x = .pointer (some ⟨b, off, none⟩)) {v : Value} (hl : (loadVar ty ⟨b, off, none⟩).run P w = .ok v w) :
    (execOp ρ o).run P w = .ok (.value v) w := by
  unfold execOp
  simp only [ho, hx, Instr.loadAt, Instr.sureAddr, Sem.run_bind, Sem.run_pure, Result.andThen_ok, hl]
theorem exec_lookup {P : Program} {w : World} {o : Oper} {ρ : Operand → Value} (t : TypeId) (m x : Operand) (c : Bool) (ho : o.op = .lookup t m x c) (mv xv : Value) (hm : ρ m = mv) (hx : ρ x = xv) {v : Value} (hl : (Instr.lookup t mv xv c).run P w = .ok v w) :
    (execOp ρ o).run P w = .ok (.value v) w := by
  unfold execOp
  simp only [ho, hx, hm, Sem.run_bind, Sem.run_pure, Result.andThen_ok, hl]
theorem wp_bslice {P : Program} {o : Oper} {a : Act} {w w' : World} {K : Act → World → Prop} {Q : Exit → Act → World → Prop} (t : TypeId) (len : Nat) (x : Operand) (ho : o.op = .buildSlice t len #[(0, x)]) (xv v : Value) (hx : a.eval x = xv) (hr : (Instr.buildSlice t len #[(0, xv)]).run P w = .ok v w')
    (h : K (a.put o.dst v) w') : o.wp P a w K Q := by
  unfold Oper.wp execOp
  simp only [ho, List.map_toArray, List.map_cons, List.map_nil, hx, Sem.run_bind, hr, Result.andThen_ok]
  exact h
theorem wp_mapup {P : Program} {o : Oper} {a : Act} {w w' : World} {K : Act → World → Prop} {Q : Exit → Act → World → Prop} (t : TypeId) (m x y : Operand) (ho : o.op = .mapUpdate t m x y) (mv xv yv : Value) (hm : a.eval m = mv) (hx : a.eval x = xv) (hy : a.eval y = yv)
    (hr : (Instr.mapUpdate t mv xv yv).run P w = .ok () w') (h : K (a.put o.dst undef) w') : o.wp P a w K Q := by
  unfold Oper.wp execOp
  simp only [ho, hm, hx, hy, Sem.run_bind, hr, Result.andThen_ok]
  exact h
theorem wp_alloc {P : Program} {o : Oper} {a : Act} {w : World} {K : Act → World → Prop} {Q : Exit → Act → World → Prop} (t : TypeId) (ho : o.op = .alloc t) (cs : Array Value) (hz : (zeroValue t).run P w = .ok (.agg cs) w)
    (h : K (a.put o.dst (.pointer (some ⟨w.heap.size, 0, none⟩))) (w.alloc (.cells cs t))) : o.wp P a w K Q := by
  unfold Oper.wp execOp
  simp only [ho, Sem.run_bind, Instr.alloc, hz, Result.andThen_ok]
  exact h
end Go.Proofs.Ytldgiimkkgmgaaa
/-
  An open write is laid: device.lay.
-/
namespace Go.Proofs.Ytldgiimkkgmgaaa
open Go.RowKit

theorem own_slice {w : World} {B e s n : Nat} {v : Value} {xs : List Value} (h : w.ownsRow B e s v n xs) : ∃ a cap, v = .slice a n cap := by
  rcases h.2 with ⟨rfl, rfl⟩ | ⟨g, cap, cur, rfl, _⟩
  · exact ⟨none, 0, rfl⟩
  · exact ⟨_, cap, rfl⟩
theorem op_copied (i : Int) {zs : List Int} (hl : zs.length ≤ 512) : ((opC (i, z512)).toArray.toList.take 1 ++ bytesV (zs.take 512) ++ (opC (i, z512)).toArray.toList.drop (1 + min zs.length 512)).toArray = (opC (i, wholeL zs)).toArray := by
  congr 1
  rw [List.take_of_length_le hl, Nat.min_eq_left hl, Nat.add_comm 1]
  show [Value.int .i64 i] ++ bytesV zs ++ (bytesV z512).drop zs.length = Value.int .i64 i :: bytesV (wholeL zs)
  unfold wholeL z512 bytesV
  rw [← List.map_drop, List.drop_replicate]
  simp
theorem lay_copy {w : World} (i : Int) {a : Option Addr} {cap : Nat} {zs : List Int} (hr : Ri w .u8 a cap zs) (hl : zs.length ≤ 512) (ty : TypeId) :
    (Builtin.copy_ #[33, 33] ty #[.slice (some ⟨w.heap.size, 1, none⟩) 512 512, .slice a zs.length cap]).run Try.prog (w.alloc (.cells (opC (i, z512)).toArray 83)) = .ok (.int .i64 (zs.length : Int)) (w.alloc (.cells (opC (i, wholeL zs)).toArray 83)) := by
  have h := copy_to (o := 1) (n := 512) (dc := 512) (heap_new w (.cells (opC (i, z512)).toArray 83)) (hr.later (bel_alloc w _)) (by rw [List.size_toArray, opC_len blk_z]; omega) ty
  rw [op_copied i hl, World.setRow_alloc_new, Nat.min_eq_left hl] at h
  exact h
theorem Try.info83 : (Try.prog.info? 83).map (fun i => (i.zero, i.size, i.bytes)) = some (some (.agg (opC (0, z512)).toArray), 513, 520) := by kernel_rfl
set_option maxHeartbeats 6400000 in
set_option maxRecDepth 100000 in
theorem lay_ok (base gd gv gl gn N : Nat) (v : Value) (size : Int) (L : Int → List Int) (O : List (Int × List Int)) (fuse i : Int) (a : Option Addr) (cap : Nat) (zs : List Int) (w : World) (k : Dv w base gd gv gl gn v N size L O fuse) (hi : okI i) (hr : Ri w .u8 a cap zs) (hl : zs.length ≤ 512) (hN : N + 1 ≤ 1000000) (hO : O.length ≤ 100000) :
    Calls Try.prog 38 #[.pointer (some ⟨gv, 0, none⟩), .int .i64 i, .slice a zs.length cap] w fun e w' => (∃ x, e = .returned x) ∧ (∃ v', Dv w' base gd gv gl gn v' (N + 1) size L (O ++ [(i, wholeL zs)]) fuse) ∧ Fr base w w' := by
  have hblk := whole_blk hl (fits_of hr)
  have hz83 := Try.zero83
  have hbo := build_op i w
  have hcp := lay_copy i hr hl 3
  have hX : (opC (i, wholeL zs)).length = 513 := opC_len hblk
  have h1X := opC_one (i, wholeL zs)
  have hZ0 : (opC (0, z512)).length = 513 := opC_len blk_z
  have hZ : (opC (i, z512)).length = 513 := opC_len blk_z
  have hZa := all_oneCell_toArray (opC_one (i, z512))
  have HE0 := hid (heap_new w (.cells (opC (0, z512)).toArray 83))
  have HRW := hid (World.setRow_alloc_new w (opC (0, z512)).toArray (opC (i, z512)).toArray 83)
  have HX := hid (show opsC (O ++ [(i, wholeL zs)]) = opsC O ++ opC (i, wholeL zs) from opsC_app _ _)
  have HLA := hid (lastO_app O i (wholeL zs))
  have HOK : Hid (∀ x ∈ O ++ [(i, wholeL zs)], Blk x.2 ∧ okI x.1) := fun x hx => by
    rcases List.mem_append.1 hx with h | h
    · exact k.okO x h
    · rw [List.mem_singleton] at h; subst h; exact ⟨hblk, hi⟩
  obtain ⟨av, cv, rfl⟩ := own_slice k.row
  have HQ : Hid (∀ q, (Value.slice av O.length cv).ownBlock = some q → q < w.heap.size) := fun q hq => by
    rcases k.row.2 with ⟨e, _⟩ | ⟨gg, cp, cur, e, _, h5, _⟩
    · rw [e] at hq; cases hq
    · rw [e] at hq; cases hq; exact (Array.getElem?_eq_some_iff.1 h5).1
  have HBS := hid k.size
  have HK := hid k
  have HI := hid hi
  have HOL : Hid ((O ++ [(i, wholeL zs)]).length = O.length + 1) := by show _ = _; simp
  clear hblk k hr hi
  generalize zs.length = ln at *
  generalize opC (i, wholeL zs) = X at *
  generalize opC (i, z512) = Z at *
  generalize opC (0, z512) = Z0 at *
  generalize O ++ [(i, wholeL zs)] = O' at *
  obtain ⟨n, hn⟩ : ∃ n, n = O.length := ⟨_, rfl⟩
  have HN := hid hn
  rw [← hn] at hO
  have HE1 := hid (heap_new w (.cells X.toArray 83))
  have HB1 := hid (bel_alloc w (.cells X.toArray 83))
  rw [← hn] at HK HQ
  clear hn
  go_enter Try.func38, Try.ntmps38
  go_wp2_with (first
    | refine wpList_build_one rfl 83 (.tmp 7) rfl (.int .i64 i) (.agg Z.toArray) rfl hbo ?_
    | (refine wpList_store_rowTo rfl 83 _ _ rfl rfl w.heap.size Z.toArray rfl rfl 83 Z0.toArray HE0.out (by rw [List.size_toArray, hZ]; exact Try.size83) (by rw [List.size_toArray, List.size_toArray, hZ, hZ0]) hZa ?_; rw [HRW.out])
    | (at_builtin; refine Lib.wpList_copy_run _ rfl _ _ 33 33 rfl _ _ rfl rfl hcp ?_))
  have HKA := hid (HK.out.below HB1.out)
  have HG6 : Hid (w.heap.size = w.heap.size) := rfl
  clear hcp hbo hz83 HE0 HRW hZ hZ0 hZa HK
  obtain ⟨g6, hg6⟩ : ∃ g, g = w.heap.size := ⟨_, rfl⟩
  have HS6 := hid hg6
  rw [← hg6] at HE1 HB1 HQ ⊢
  clear hg6 HG6
  generalize w.alloc (.cells X.toArray 83) = wB at *
  have hS0 : Dc wB.drew gv size (.map (some gl)) (.slice av n cv) (.map (some gn)) fuse false := HKA.out.dev
  obtain ⟨W4, hup, hmn4, hmt4⟩ := Mn.put (W := wB.drew) HKA.out.nst HI.out (by unfold maxLen; omega) n
  refine OrdE.region (fun W => Dc W gv size (.map (some gl)) (.slice av n cv) (.map (some gn)) fuse false) 10 (by kernel_rfl) hS0 (fun hSS => ?_)
  have HKD : Hid (Dv wB.drew base gd gv gl gn (.slice av n cv) N size L O fuse) := HKA.out.later (fun _ _ => rfl)
  have HED : Hid (wB.drew.heap[g6]? = some (.cells X.toArray 83 (0, 0))) := HE1.out
  have HBD : Hid (Below w.heap.size w wB.drew) := (HS6.out ▸ HB1.out).drew
  clear hS0 HKA HE1 HB1
  generalize wB.drew = v0 at *
  refine OrdE.take (i := 0) (d := 13) (v := ?va0) rfl rfl rfl (by as_aux_lemma => kernel_rfl) (by as_aux_lemma => kernel_rfl) (by as_aux_lemma => kernel_rfl) (by as_aux_lemma => kernel_rfl) (fun _ _ _ h => h) (by rfl) ?ha0 (by assumption) ?_
  case ha0 => intro w hSw; go_simp; try with_reducible rfl
  simp only [List.setIfInBounds_toArray, List.set_cons_zero, List.set_cons_succ]
  refine OrdE.take (i := 1) (d := 14) (v := ?va1) rfl rfl rfl (by as_aux_lemma => kernel_rfl) (by as_aux_lemma => kernel_rfl) (by as_aux_lemma => kernel_rfl) (by as_aux_lemma => kernel_rfl) (fun _ _ _ h => h) (by rfl) ?ha1 (by assumption) ?_
  case ha1 => intro w hSw; go_simp; try with_reducible rfl
  simp only [List.setIfInBounds_toArray, List.set_cons_zero, List.set_cons_succ]
  refine OrdE.take (i := 2) (d := 15) (v := ?va2) rfl rfl rfl (by as_aux_lemma => kernel_rfl) (by as_aux_lemma => kernel_rfl) (by as_aux_lemma => kernel_rfl) (by as_aux_lemma => kernel_rfl) (fun _ _ _ h => h) (by rfl) ?ha2 (by assumption) ?_
  case ha2 => intro w hSw; go_simp; try with_reducible rfl
  simp only [List.setIfInBounds_toArray, List.set_cons_zero, List.set_cons_succ]
  refine OrdE.take (i := 3) (d := 16) (v := .map (some gn)) rfl rfl rfl (by as_aux_lemma => kernel_rfl) (by as_aux_lemma => kernel_rfl) (by as_aux_lemma => kernel_rfl) (by as_aux_lemma => kernel_rfl) (fun _ _ _ h => h) (by rfl) ?ha3 (by assumption) ?_
  case ha3 => intro w hSw; obtain ⟨q0, q1, q2, q3, q4, q5⟩ := hSw.cells; go_simp; try with_reducible rfl
  simp only [List.setIfInBounds_toArray, List.set_cons_zero, List.set_cons_succ]
  refine OrdE.take (i := 4) (d := 17) (v := ?va4) rfl rfl rfl (by as_aux_lemma => kernel_rfl) (by as_aux_lemma => kernel_rfl) (by as_aux_lemma => kernel_rfl) (by as_aux_lemma => kernel_rfl) (fun _ _ _ h => h) (by rfl) ?ha4 (by assumption) ?_
  case ha4 => intro w hSw; go_simp; try with_reducible rfl
  simp only [List.setIfInBounds_toArray, List.set_cons_zero, List.set_cons_succ]
  refine OrdE.take (i := 5) (d := 18) (v := ?va5) rfl rfl rfl (by as_aux_lemma => kernel_rfl) (by as_aux_lemma => kernel_rfl) (by as_aux_lemma => kernel_rfl) (by as_aux_lemma => kernel_rfl) (fun _ _ _ h => h) (by rfl) ?ha5 (by assumption) ?_
  case ha5 => intro w hSw; go_simp; try with_reducible rfl
  simp only [List.setIfInBounds_toArray, List.set_cons_zero, List.set_cons_succ]
  refine OrdE.take (i := 6) (d := 19) (v := ?va6) rfl rfl rfl (by as_aux_lemma => kernel_rfl) (by as_aux_lemma => kernel_rfl) (by as_aux_lemma => kernel_rfl) (by as_aux_lemma => kernel_rfl) (fun _ _ _ h => h) (by rfl) ?ha6 (by assumption) ?_
  case ha6 => intro w hSw; go_simp; try with_reducible rfl
  simp only [List.setIfInBounds_toArray, List.set_cons_zero, List.set_cons_succ]
  refine OrdE.take (i := 7) (d := 20) (v := ?va7) rfl rfl rfl (by as_aux_lemma => kernel_rfl) (by as_aux_lemma => kernel_rfl) (by as_aux_lemma => kernel_rfl) (by as_aux_lemma => kernel_rfl) (fun _ _ _ h => h) (by rfl) ?ha7 (by assumption) ?_
  case ha7 => intro w hSw; go_simp; try with_reducible rfl
  simp only [List.setIfInBounds_toArray, List.set_cons_zero, List.set_cons_succ]
  refine OrdE.take (i := 8) (d := 21) (v := .slice av n cv) rfl rfl rfl (by as_aux_lemma => kernel_rfl) (by as_aux_lemma => kernel_rfl) (by as_aux_lemma => kernel_rfl) (by as_aux_lemma => kernel_rfl) (fun _ _ _ h => h) (by rfl) ?ha8 (by assumption) ?_
  case ha8 => intro w hSw; obtain ⟨q0, q1, q2, q3, q4, q5⟩ := hSw.cells; go_simp; try with_reducible rfl
  simp only [List.setIfInBounds_toArray, List.set_cons_zero, List.set_cons_succ]
  refine OrdE.take (i := 9) (d := 22) (v := .int .i64 (n : Int)) rfl rfl rfl (by as_aux_lemma => kernel_rfl) (by as_aux_lemma => kernel_rfl) (by as_aux_lemma => kernel_rfl) (by as_aux_lemma => kernel_rfl) (fun _ _ _ h => h) (by rfl) ?ha9 (by assumption) ?_
  case ha9 => intro w hSw; go_simp; try with_reducible rfl
  simp only [List.setIfInBounds_toArray, List.set_cons_zero, List.set_cons_succ]
  refine OrdE.one (i := 10) (by as_aux_lemma => kernel_rfl) rfl (fun K hK => ?_)
  go_simp
  refine hK.out _ _ (fun h => absurd rfl h) ?_
  clear hK K
  try simp only [List.setIfInBounds_toArray, List.set_cons_zero, List.set_cons_succ]
  refine OrdE.done (by as_aux_lemma => kernel_rfl) ?_ _
  have hne := HKD.out.apart
  have hk4 : Dv W4 base gd gv gl gn (.slice av n cv) (N + 1) size L O fuse ∨ True := .inr trivial
  have HM4 := hid hmn4
  have HT4 := hid hmt4
  have HD4 : Hid (Dc W4 gv size (.map (some gl)) (.slice av n cv) (.map (some gn)) fuse false) := (mapTurned_other hmt4 (Ne.symm hne.2.2.2.2)).trans HKD.out.dev
  have HE4 : Hid (W4.heap[g6]? = some (.cells X.toArray 83 (0, 0))) := by
    obtain ⟨es, ck, hh⟩ := HKD.out.nst.map
    refine (mapTurned_other hmt4 ?_).trans HED.out
    rintro rfl
    rw [HED.out] at hh
    cases hh
  clear hSS hup hmn4 hmt4 hne hk4
  go_wp2_with fail
  have hS0 : Dc W4.drew gv size (.map (some gl)) (.slice av n cv) (.map (some gn)) fuse false ∧ W4.drew.heap[g6]? = some (.cells X.toArray 83 (0, 0)) := ⟨HD4.out, HE4.out⟩
  refine OrdE.region (fun W => Dc W gv size (.map (some gl)) (.slice av n cv) (.map (some gn)) fuse false ∧ W.heap[g6]? = some (.cells X.toArray 83 (0, 0))) 10 (by kernel_rfl) hS0 (fun hSS => ?_)
  have HW5 : Hid (∀ j : Nat, W4.drew.heap[j]? = W4.heap[j]?) := fun _ => rfl
  have HB5 : Hid (Below base v0 W4.drew) := by
    have hg := HT4.out.grown
    have hbn := HKD.out.bn
    exact Below.drew ⟨hg.os, hg.tape, hg.output, hg.size, fun i hi => mapTurned_other HT4.out (by omega)⟩
  have HM5 : Hid (Mn W4.drew gn (N + 1) (setI (lastO O) i (some n))) := HM4.out
  clear hS0 HD4 HE4 HM4
  generalize W4.drew = v1 at *
  have hbs := slice_op X hX v1
  refine OrdE.take (i := 0) (d := 23) (v := ?vb0) rfl rfl rfl (by as_aux_lemma => kernel_rfl) (by as_aux_lemma => kernel_rfl) (by as_aux_lemma => kernel_rfl) (by as_aux_lemma => kernel_rfl) (fun _ _ _ h => h) (by rfl) ?hb0 (by assumption) ?_
  case hb0 => intro w hSw; go_simp; try with_reducible rfl
  simp only [List.setIfInBounds_toArray, List.set_cons_zero, List.set_cons_succ]
  refine OrdE.take (i := 1) (d := 24) (v := ?vb1) rfl rfl rfl (by as_aux_lemma => kernel_rfl) (by as_aux_lemma => kernel_rfl) (by as_aux_lemma => kernel_rfl) (by as_aux_lemma => kernel_rfl) (fun _ _ _ h => h) (by rfl) ?hb1 (by assumption) ?_
  case hb1 => intro w hSw; go_simp; try with_reducible rfl
  simp only [List.setIfInBounds_toArray, List.set_cons_zero, List.set_cons_succ]
  refine OrdE.take (i := 2) (d := 25) (v := ?vb2) rfl rfl rfl (by as_aux_lemma => kernel_rfl) (by as_aux_lemma => kernel_rfl) (by as_aux_lemma => kernel_rfl) (by as_aux_lemma => kernel_rfl) (fun _ _ _ h => h) (by rfl) ?hb2 (by assumption) ?_
  case hb2 => intro w hSw; go_simp; try with_reducible rfl
  simp only [List.setIfInBounds_toArray, List.set_cons_zero, List.set_cons_succ]
  refine OrdE.take (i := 3) (d := 26) (v := ?vb3) rfl rfl rfl (by as_aux_lemma => kernel_rfl) (by as_aux_lemma => kernel_rfl) (by as_aux_lemma => kernel_rfl) (by as_aux_lemma => kernel_rfl) (fun _ _ _ h => h) (by rfl) ?hb3 (by assumption) ?_
  case hb3 => intro w hSw; go_simp; try with_reducible rfl
  simp only [List.setIfInBounds_toArray, List.set_cons_zero, List.set_cons_succ]
  refine OrdE.take (i := 4) (d := 27) (v := .slice av n cv) rfl rfl rfl (by as_aux_lemma => kernel_rfl) (by as_aux_lemma => kernel_rfl) (by as_aux_lemma => kernel_rfl) (by as_aux_lemma => kernel_rfl) (fun _ _ _ h => h) (by rfl) ?hb4 (by assumption) ?_
  case hb4 => intro w hSw; obtain ⟨q0, q1, q2, q3, q4, q5⟩ := hSw.1.cells; go_simp; try with_reducible rfl
  simp only [List.setIfInBounds_toArray, List.set_cons_zero, List.set_cons_succ]
  refine OrdE.take (i := 5) (d := 28) (v := .agg X.toArray) rfl rfl rfl (by as_aux_lemma => kernel_rfl) (by as_aux_lemma => kernel_rfl) (by as_aux_lemma => kernel_rfl) (by as_aux_lemma => kernel_rfl) (fun _ _ _ h => h) (by rfl) ?hb5 (by assumption) ?_
  case hb5 => intro w hSw; have ql := run_loadVar_row (P := Try.prog) w g6 83 83 X.toArray (0, 0) _ hSw.2 Try.underlying83 rfl (by rw [List.size_toArray, hX]; exact Try.size83); exact exec_load 83 (.tmp 6) rfl g6 0 rfl ql
  simp only [List.setIfInBounds_toArray, List.set_cons_zero, List.set_cons_succ]
  refine OrdE.one (i := 6) (by as_aux_lemma => kernel_rfl) rfl (fun K hK => ?_)
  rw [if_pos (by rfl)]
  have hA : Below v1.heap.size v1 (v1.alloc (.cells X.toArray 83)) := bel_alloc v1 _
  have hS6 : Dc (v1.alloc (.cells X.toArray 83)) gv size (.map (some gl)) (.slice av n cv) (.map (some gn)) fuse false ∧ (v1.alloc (.cells X.toArray 83)).heap[g6]? = some (.cells X.toArray 83 (0, 0)) := ⟨(hA.block gv hSS.1.lt).trans hSS.1, (hA.block g6 (Array.getElem?_eq_some_iff.1 hSS.2).1).trans hSS.2⟩
  refine wp_bslice 76 1 (.tmp 28) rfl (.agg X.toArray) _ rfl hbs ?_
  refine hK.out _ _ (fun _ => hS6) ?_
  clear hK K
  try refine OrdE.put (d := 29) rfl ?_
  try simp only [List.setIfInBounds_toArray, List.set_cons_zero, List.set_cons_succ]
  have HNW : Hid (∀ (j : Nat) (u : Value), X[j]? = some u → (v1.alloc (.cells X.toArray 83)).cell? (Addr.add ⟨v1.heap.size, 0, none⟩ j) = some u) := fun j u hu => by
    rw [Go.WideShapes.add_plain, Nat.zero_add, Joins.cell_of_block (heap_new v1 _) j, List.getElem?_toArray]
    exact hu
  have HV1 : Hid (∀ (j : Nat) (o : Obj), v0.heap[j]? = some o → j ≠ gn → (v1.alloc (.cells X.toArray 83)).heap[j]? = some o) := fun j o hj hne => by
    have h1 : v1.heap[j]? = some o := (HW5.out j).trans ((mapTurned_other HT4.out hne).trans hj)
    exact (hA.block j (Array.getElem?_eq_some_iff.1 h1).1).trans h1
  have HGN : Hid (∀ (cs : Array Value) (t : TypeId) (fr : Nat × Nat), v0.heap[gn]? ≠ some (.cells cs t fr)) := fun cs t fr hh => by
    obtain ⟨es, ck, h2⟩ := HKD.out.nst.map
    rw [h2] at hh
    cases hh
  have HRO : Hid ((v1.alloc (.cells X.toArray 83)).ownsRow base 83 513 (.slice av n cv) n (opsC O)) := by
    have h1 := HKD.out.row
    rw [← HN.out] at h1
    exact own_blk h1 (fun i cs hi => HV1.out i _ hi (by rintro rfl; exact HGN.out _ _ _ hi))
  have HOT : Hid (∀ q, (Value.slice av n cv).ownBlock = some q → q < g6 ∧ ∃ cs, v0.heap[q]? = some (.cells cs 83 (0, 0))) := fun q hq => by
    refine ⟨HQ.out q hq, ?_⟩
    have h1 := HKD.out.row
    rcases h1.2 with ⟨e, _⟩ | ⟨gg, cp, cur, e, _, h5, _⟩
    · rw [e] at hq; cases hq
    · rw [e] at hq; cases hq; exact ⟨_, h5⟩
  have HSZ : Hid (base ≤ (v1.alloc (.cells X.toArray 83)).heap.size) := Nat.le_trans (Nat.le_trans HKD.out.size HB5.out.size) hA.size
  have HA := hid hA
  have HMA : Hid (Mn (v1.alloc (.cells X.toArray 83)) gn (N + 1) (setI (lastO O) i (some n))) := HM5.out.later (hA.block gn HM5.out.lt) (Nat.le_refl _)
  obtain ⟨i0, hi0, hz0, hz1, hz2⟩ := info_parts Try.info83
  clear hbs hSS hA HM5
  generalize v1.alloc (.cells X.toArray 83) = v2 at *
  refine OrdE.one (i := 7) (by as_aux_lemma => kernel_rfl) rfl (fun K hK => ?_)
  rw [if_pos (by rfl)]
  refine wp_append_own v2 (.tmp 27) (.tmp 29) 76 rfl base 83 i0 _ 513 520 Try.underlying76 hi0 hz0 hz1 hz2 (by show (opC (0, z512)).toArray.size = 513; rw [List.size_toArray]; exact opC_len blk_z) (by decide) _ n (opsC O) rfl HRO.out ⟨v1.heap.size, 0, none⟩ 1 1 X rfl (by rw [hX]) HNW.out h1X (by unfold maxLen; omega) (by omega) HSZ.out (fun v' w2 hown hgrow _ => ?_)
  have hS7 : Dc w2 gv size (.map (some gl)) (.slice av n cv) (.map (some gn)) fuse false ∧ w2.heap[g6]? = some (.cells X.toArray 83 (0, 0)) := by
    refine ⟨(hgrow.block gv hS6.1.lt (fun e => ?_)).trans hS6.1, (hgrow.block g6 (Array.getElem?_eq_some_iff.1 hS6.2).1 (fun e => ?_)).trans hS6.2⟩
    · obtain ⟨_, cs, h1⟩ := HOT.out gv e.symm
      have h2 := HKD.out.dev
      unfold Dc at h2
      rw [h1] at h2
      simp at h2
    · have := (HOT.out g6 e.symm).1
      omega
  refine hK.out _ _ (fun _ => hS7) ?_
  clear hK K
  try refine OrdE.put (d := 30) rfl ?_
  try simp only [List.setIfInBounds_toArray, List.set_cons_zero, List.set_cons_succ]
  obtain ⟨a2, c2, rfl⟩ := own_slice hown
  have HOW := hid hown
  have HGR := hid hgrow
  clear hown hgrow hS6 HNW HRO
  obtain ⟨y0, y1, y2, y3, y4, y5⟩ := hS7.1.cells
  have yf := hS7.1.unfrozen 2
  refine OrdE.one (i := 8) (by as_aux_lemma => kernel_rfl) rfl (fun K hK => ?_)
  go_simp
  refine hK.out _ _ (fun _ => hS7) ?_
  clear hK K
  try refine OrdE.put (d := 31) rfl ?_
  try simp only [List.setIfInBounds_toArray, List.set_cons_zero, List.set_cons_succ]
  refine OrdE.one (i := 9) (by as_aux_lemma => kernel_rfl) rfl (fun K hK => ?_)
  go_simp
  refine hK.out _ _ (fun _ => hS7) ?_
  clear hK K
  try refine OrdE.put (d := 32) rfl ?_
  try simp only [List.setIfInBounds_toArray, List.set_cons_zero, List.set_cons_succ]
  refine OrdE.one (i := 10) (by as_aux_lemma => kernel_rfl) rfl (fun K hK => ?_)
  go_simp
  refine hK.out _ _ (fun h => absurd rfl h) ?_
  clear hK K
  try simp only [List.setIfInBounds_toArray, List.set_cons_zero, List.set_cons_succ]
  refine OrdE.done (by as_aux_lemma => kernel_rfl) ?_ _
  have HD2 := hid hS7.1
  have HF : Hid ((∃ v', Dv (w2.setCell ⟨gv, 2, none⟩ (.slice a2 (n + 1) c2)) base gd gv gl gn v' (N + 1) size L O' fuse) ∧ Fr base w (w2.setCell ⟨gv, 2, none⟩ (.slice a2 (n + 1) c2))) := by
    obtain ⟨n1, n2, n3, n4, n5⟩ := HKD.out.apart
    have hset : ∀ j, j ≠ gv → (w2.setCell ⟨gv, 2, none⟩ (.slice a2 (n + 1) c2)).heap[j]? = w2.heap[j]? := fun j hj => Below.heap_setCell w2 ⟨gv, 2, none⟩ _ j hj
    have hall : ∀ (j : Nat) (o : Obj), v0.heap[j]? = some o → j ≠ gn → j ≠ gv → (∀ cs, o ≠ .cells cs 83 (0, 0)) → (w2.setCell ⟨gv, 2, none⟩ (.slice a2 (n + 1) c2)).heap[j]? = some o := fun j o hj h1 h2 h3 => by
      have h4 := HV1.out j o hj h1
      refine (hset j h2).trans ((HGR.out.block j (Array.getElem?_eq_some_iff.1 h4).1 (fun e => ?_)).trans h4)
      obtain ⟨_, cs, h5⟩ := HOT.out j e.symm
      rw [hj] at h5
      injection h5 with h5
      exact h3 cs h5
    have hl : (w2.setCell ⟨gv, 2, none⟩ (.slice a2 (n + 1) c2)).heap[gl]? = v0.heap[gl]? := by
      obtain ⟨es, ck, hh⟩ := HKD.out.lst.map
      rw [hh]
      exact hall gl _ hh HKD.out.ne n3 (fun _ => by simp)
    have hnn : (w2.setCell ⟨gv, 2, none⟩ (.slice a2 (n + 1) c2)).heap[gn]? = v2.heap[gn]? := by
      refine (hset gn n5).trans (HGR.out.block gn HMA.out.lt (fun e => ?_))
      obtain ⟨_, cs, h5⟩ := HOT.out gn e.symm
      exact HGN.out _ _ _ h5
    refine ⟨⟨.slice a2 (n + 1) c2, hall gd _ HKD.out.dsk (Ne.symm n4) n1 (fun _ => by simp), ?_, ?_, HKD.out.lst.later hl (Nat.le_succ _), ?_, HKD.out.okL, HOK.out, HKD.out.okF, HKD.out.okS, HKD.out.bd, HKD.out.bv, HKD.out.bl, HKD.out.bn, HKD.out.ne⟩, ?_, ?_⟩
    · unfold Dc
      rw [Joins.block_setCell HD2.out _]
      simp [devC]
    · rw [HOL.out, HX.out, ← HN.out]
      exact own_blk HOW.out (fun i cs hi => (hset i (by rintro rfl; have h2 := HD2.out; unfold Dc at h2; rw [hi] at h2; simp at h2)).trans hi)
    · rw [HLA.out, ← HN.out]
      exact HMA.out.later hnn (Nat.le_refl _)
    · have hb2 : Below base v1 v2 := HA.out.mono (Nat.le_trans HKD.out.size HB5.out.size)
      have hb3 : Below base v2 w2 := ⟨HGR.out.os, HGR.out.tape, HGR.out.output, HGR.out.size, fun j hj => HGR.out.block j (Nat.lt_of_lt_of_le hj HSZ.out) (fun e => by
        have h1 := HKD.out.row
        rcases h1.2 with ⟨e2, _⟩ | ⟨gg, cp, cur, e2, h4, _⟩
        · rw [e2] at e; cases e
        · rw [e2] at e; cases e; exact absurd hj (Nat.not_lt.2 h4))⟩
      exact (((HBD.out.mono HBS.out).trans HB5.out).trans (hb2.trans hb3)).setCell HKD.out.bv _
    · intro j cs t fr h1 h2 h3
      have h4 := (HBD.out.block j (Array.getElem?_eq_some_iff.1 h3).1).trans h3
      refine hall j _ h4 (by rintro rfl; exact HGN.out _ _ _ h4) ?_ (fun cs' e => by injection e with _ e; exact h2 e)
      rintro rfl
      have h5 := HKD.out.dev
      unfold Dc at h5
      rw [h4] at h5
      injection h5 with h5
      injection h5 with _ h5
      exact h1 h5
  clear hS7 HD2 HKD HV1 HGN HOT HSZ HA HMA HOW HGR y0 y1 y2 y3 y4 y5 yf hi0 hz0 hz1 hz2 HT4 HB5 HW5 HED HBD
  go_wp2_with fail
  go_end0
  exact ⟨⟨_, rfl⟩, HF.out.1, HF.out.2⟩
end Go.Proofs.Ytldgiimkkgmgaaa
/-
  Write.
-/
namespace Go.Proofs.Ytldgiimkkgmgaaa
open Go.RowKit

theorem Dv.mono {W : World} {base gd gv gl gn N M : Nat} {v : Value} {size : Int} {L : Int → List Int} {O : List (Int × List Int)} {fuse : Int} (h : Dv W base gd gv gl gn v N size L O fuse) (hn : N ≤ M) : Dv W base gd gv gl gn v M size L O fuse :=
  ⟨h.dsk, h.dev, h.row, h.lst.later rfl hn, h.nst.later rfl hn, h.okL, h.okO, h.okF, h.okS, h.bd, h.bv, h.bl, h.bn, h.ne⟩
/-- A row of bytes that disk's calls leave as it is. -/
def Rx (base : Nat) (w : World) (a : Option Addr) (cap : Nat) (zs : List Int) : Prop := ∀ W, Fr base w W → Ri W .u8 a cap zs
theorem Rx.at {base : Nat} {w : World} {a : Option Addr} {cap : Nat} {zs : List Int} (h : Rx base w a cap zs) : Ri w .u8 a cap zs := h w (Fr.refl _ _)
theorem Rx.later {base : Nat} {w w' : World} {a : Option Addr} {cap : Nat} {zs : List Int} (h : Rx base w a cap zs) (hf : Fr base w w') : Rx base w' a cap zs := fun W hW => h W (hf.trans hW)
theorem Rx.blk {base : Nat} {w : World} {a : Option Addr} {cap : Nat} {zs : List Int} (hr : Ri w .u8 a cap zs) (hk : ∀ b off W, a = some ⟨b, off, none⟩ → b < w.heap.size → Fr base w W → W.heap[b]? = w.heap[b]?) : Rx base w a cap zs := fun W hW => by
  refine ⟨hr.room, hr.most, fun h0 => ?_, hr.fits⟩
  obtain ⟨b, off, ha, hbw, hc⟩ := hr.cells h0
  refine ⟨b, off, ha, Nat.lt_of_lt_of_le hbw hW.bel.size, fun j hj => ?_⟩
  have e := hc j hj
  rw [← e]
  unfold World.cell?
  rw [show W.heap[b]? = w.heap[b]? from hk b off W ha hbw hW]
theorem Rx.low {base : Nat} {w0 w : World} {a : Option Addr} {cap : Nat} {zs : List Int} (hr : Ri w0 .u8 a cap zs) (hb : w0.heap.size = base) (hw : Below base w0 w) : Rx base w a cap zs := fun W hW => hr.later (by rw [hb]; exact hw.trans hW.bel)
/-- Write's error. -/
def wrC (size : Int) (fuse i : Int) (len : Nat) : Int := if 0 ≤ i ∧ i < size then (if 512 < len then 2 else if fuse = 0 then 92 else 0) else 5
def wrO (size fuse i : Int) (O : List (Int × List Int)) (zs : List Int) : List (Int × List Int) := if wrC size fuse i zs.length = 0 then O ++ [(i, wholeL zs)] else O
def wrF (size fuse i : Int) (len : Nat) : Int := if wrC size fuse i len = 0 then burnF fuse else fuse
def WriPost (base gd gv gl gn N : Nat) (size : Int) (L : Int → List Int) (O : List (Int × List Int)) (fuse i : Int) (zs : List Int) (w : World) (e : Ending) (w' : World) : Prop :=
  e = .returned (.int .i64 (wrC size fuse i zs.length)) ∧ (∃ v', Dv w' base gd gv gl gn v' (N + 1) size L (wrO size fuse i O zs) (wrF size fuse i zs.length)) ∧ Fr base w w'
set_option maxHeartbeats 1600000 in
set_option maxRecDepth 100000 in
theorem write_ok (base gd gv gl gn N : Nat) (v : Value) (size : Int) (L : Int → List Int) (O : List (Int × List Int)) (fuse i : Int) (a : Option Addr) (cap : Nat) (zs : List Int) (w : World) (k : Dv w base gd gv gl gn v N size L O fuse) (hr : Rx base w a cap zs) (hN : N + 1 ≤ 1000000) (hO : O.length ≤ 60000) :
    Calls Try.prog 17 #[.pointer (some ⟨gd, 0, none⟩), .int .i64 i, .slice a zs.length cap] w (WriPost base gd gv gl gn N size L O fuse i zs w) := by
  unfold WriPost
  obtain ⟨o1, o2⟩ := k.okS
  by_cases hi : 0 ≤ i ∧ i < size
  case neg =>
    have hc : wrC size fuse i zs.length = 5 := if_neg hi
    have hO' : wrO size fuse i O zs = O := if_neg (by rw [hc]; decide)
    have hF' : wrF size fuse i zs.length = fuse := if_neg (by rw [hc]; decide)
    rw [hc, hO', hF']
    exact (write_range gd gv i size _ _ _ _ fuse w k.dsk k.dev hi).mono (fun e w' ⟨h1, h2⟩ => ⟨h1, ⟨v, by rw [h2]; exact k.mono (Nat.le_succ _)⟩, by rw [h2]; exact Fr.refl _ _⟩)
  have HI : Hid (okI i) := wf_mk_i64 (by omega) (by omega)
  have HM := hid (has_ok gd gv size i _ v _ fuse w k.dsk k.dev)
  rw [show hasE size i = 0 from if_pos hi] at HM
  have c0 := k.dsk.cell
  obtain ⟨_, _, c2, _, _, _⟩ := k.dev.cells
  obtain ⟨av, cv, rfl⟩ := own_slice k.row
  have HK := hid k
  have HR := hid hr
  by_cases hl : 512 < zs.length
  · have hc : wrC size fuse i zs.length = 2 := by unfold wrC; rw [if_pos hi, if_pos hl]
    have hO' : wrO size fuse i O zs = O := if_neg (by rw [hc]; decide)
    have hF' : wrF size fuse i zs.length = fuse := if_neg (by rw [hc]; decide)
    rw [hc, hO', hF']
    have hz : (512 : Int) < (zs.length : Int) := by omega
    clear k hr hc hO' hF'
    generalize zs.length = ln at *
    go_enter Try.func17, Try.ntmps17
    go_wp2_with fail
    refine HM.out.mono ?_
    rintro _ w1 ⟨rfl, hw⟩
    obtain rfl := hw.symm
    clear hw HM
    go_wp2_with fail
    go_ret
    exact ⟨rfl, ⟨_, HK.out.mono (Nat.le_succ _)⟩, Fr.refl _ _⟩
  have HBU := hid (burn_ok base gd gv gl gn N _ size L O fuse w k)
  have hz : ¬ (512 : Int) < (zs.length : Int) := by omega
  have ho : decide ((65536 : Int) ≤ (O.length : Int)) = false := by rw [decide_eq_false_iff_not]; omega
  have ho2 : decide (65536 ≤ O.length) = false := by rw [decide_eq_false_iff_not]; omega
  by_cases hf : fuse = 0
  · have hc : wrC size fuse i zs.length = 92 := by unfold wrC; rw [if_pos hi, if_neg hl, if_pos hf]
    have hO' : wrO size fuse i O zs = O := if_neg (by rw [hc]; decide)
    have hF' : wrF size fuse i zs.length = fuse := if_neg (by rw [hc]; decide)
    rw [hc, hO', hF']
    rw [show burnE fuse = 92 from if_pos hf, show burnF fuse = fuse from if_neg (by omega)] at HBU
    clear k hr hc hO' hF' HK
    generalize zs.length = ln at *
    obtain ⟨n, hn⟩ : ∃ n, n = O.length := ⟨_, rfl⟩
    rw [← hn] at c2 ho ho2 HBU
    clear hn hf hi hO
    go_enter Try.func17, Try.ntmps17
    go_wp2_with fail
    refine HM.out.mono ?_
    rintro _ w1 ⟨rfl, hw⟩
    obtain rfl := hw.symm
    clear hw HM
    go_wp2_with fail
    refine HBU.out.mono ?_
    rintro _ w2 ⟨rfl, hd, hfr⟩
    have HD := hid hd
    have HFR := hid hfr
    clear HBU hd hfr c0 c2
    go_wp2_with fail
    go_ret
    exact ⟨rfl, ⟨_, HD.out.mono (Nat.le_succ _)⟩, HFR.out⟩
  · have hc : wrC size fuse i zs.length = 0 := by unfold wrC; rw [if_pos hi, if_neg hl, if_neg hf]
    have hO' : wrO size fuse i O zs = O ++ [(i, wholeL zs)] := if_pos hc
    have hF' : wrF size fuse i zs.length = burnF fuse := if_pos hc
    rw [hc, hO', hF']
    rw [show burnE fuse = 0 from if_neg hf] at HBU
    have HLY : Hid (∀ W, Fr base w W → Dv W base gd gv gl gn (.slice av O.length cv) N size L O (burnF fuse) → Calls Try.prog 38 #[.pointer (some ⟨gv, 0, none⟩), .int .i64 i, .slice a zs.length cap] W fun e w' => (∃ x, e = .returned x) ∧ (∃ v', Dv w' base gd gv gl gn v' (N + 1) size L (O ++ [(i, wholeL zs)]) (burnF fuse)) ∧ Fr base W w') :=
      fun W h2 h1 => lay_ok base gd gv gl gn N _ size L O (burnF fuse) i a cap zs W h1 HI.out (HR.out W h2) (by omega) hN (by omega)
    clear k hr hc hO' hF' HK
    generalize O ++ [(i, wholeL zs)] = O' at *
    generalize zs.length = ln at *
    obtain ⟨n, hn⟩ : ∃ n, n = O.length := ⟨_, rfl⟩
    rw [← hn] at c2 ho ho2 HBU HLY
    clear hn hf hi hO
    go_enter Try.func17, Try.ntmps17
    go_wp2_with fail
    refine HM.out.mono ?_
    rintro _ w1 ⟨rfl, hw⟩
    obtain rfl := hw.symm
    clear hw HM
    go_wp2_with fail
    refine HBU.out.mono ?_
    rintro _ w2 ⟨rfl, hd, hfr⟩
    have HD := hid hd
    have HFR := hid hfr
    replace c0 := hd.dsk.cell
    clear HBU hd hfr c2
    go_wp2_with fail
    refine (HLY.out _ HFR.out HD.out).mono ?_
    rintro _ w3 ⟨⟨x, rfl⟩, hd3, hf3⟩
    have HD3 := hid hd3
    have HF3 := hid (HFR.out.trans hf3)
    clear HLY hd3 hf3 c0
    go_wp2_with fail
    go_ret
    exact ⟨rfl, HD3.out, HF3.out⟩
end Go.Proofs.Ytldgiimkkgmgaaa
