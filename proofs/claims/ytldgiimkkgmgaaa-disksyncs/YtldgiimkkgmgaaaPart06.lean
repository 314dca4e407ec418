/-
  append of bytes, whatever slice they lie in; the statements' cut; the document's Whole.
-/
import Derived.Test.YtldgiimkkgmgaaaPart05
import Derived.Laws.AppendOwnNone
namespace Go.Proofs.Ytldgiimkkgmgaaa
open Go.RowKit

theorem Try.info5c : (Try.prog.info? 5).map (fun i => (i.zero, i.size, i.bytes)) = some (some (.int .u8 0), 1, 1) := by kernel_rfl
theorem run_append_nil {P : Program} {w : World} (base : Nat) (t ty e : TypeId) (i : TypeInfo) (size cp : Nat) (ht : P.underlying t = some (.slice e)) (hi : P.info? e = some i)
    (v : Value) (n : Nat) (xs : List Value) (hown : w.ownsRow base e size v n xs) : (Builtin.append_ #[t, t] ty #[v, .slice none 0 cp]).run P w = .ok v w := by
  rcases hown.2 with ⟨rfl, rfl⟩ | ⟨g, cap, cur, rfl, _, _, hnc, _⟩
  · simp [Builtin.append_, run_underlying ht, sizeOf, typeInfo, hi, Builtin.lenOf, Builtin.firstCells]
  · simp [Builtin.append_, run_underlying ht, sizeOf, typeInfo, hi, Builtin.lenOf, Builtin.firstCells, hnc, storeCells]
theorem wpList_append_nil {P : Program} {w : World} {ops : Array Oper} {rest : List Oper} {o : Oper} {a : Act} {Q : Exit → Act → World → Prop} (hgd : o.guard = none) (s x : Operand) (t : TypeId)
    (ho : o.op = .call { callee := .builtin .append, args := #[s, x], argTypes := #[t, t] }) (base : Nat) (e : TypeId) (i : TypeInfo) (size cp : Nat) (ht : P.underlying t = some (.slice e)) (hi : P.info? e = some i)
    (v : Value) (n : Nat) (xs : List Value) (hs : a.eval s = v) (hown : w.ownsRow base e size v n xs) (hx : a.eval x = .slice none 0 cp)
    (h : wpList P ops Q rest (a.put o.dst v) w) : wpList P ops Q (o :: rest) a w := by
  refine wpList_plain hgd fun K hK => ?_
  have hrun := run_append_nil (P := P) (w := w) base t o.type e i size cp ht hi v n xs hown
  unfold Oper.wp
  simp [execOp, ho, resolve, invoke, builtin, hs, hx, hrun, Result.andThen]
  exact hK _ _ h

theorem app_any (w : World) {ops : Array Oper} {rest : List Oper} {o : Oper} {ac : Act} {Q : Exit → Act → World → Prop} (hgd : o.guard = none) (s x : Operand)
    (ho : o.op = .call { callee := .builtin .append, args := #[s, x], argTypes := #[33, 33] }) (B : Nat) (v : Value) (l : List Int) (hs : ac.eval s = v) (hown : w.ownsRow B 5 1 v l.length (l.map (Value.int .u8)))
    (a : Option Addr) (cap : Nat) (zs : List Int) (hx : ac.eval x = .slice a zs.length cap) (hrd : Ri w .u8 a cap zs) (hbd : l.length + zs.length ≤ 10000000) (hB : B ≤ w.heap.size)
    (h : ∀ v' w', w'.ownsRow B 5 1 v' (l ++ zs).length ((l ++ zs).map (Value.int .u8)) → w.grownBy w' v.ownBlock → wpList Try.prog ops Q rest (ac.put o.dst v') w') : wpList Try.prog ops Q (o :: rest) ac w := by
  obtain ⟨i0, hi, hz0, hz1, hz2⟩ := info_parts Try.info5c
  cases a with
  | none =>
    have hz : zs = [] := by
      apply List.length_eq_zero_iff.1
      rcases Nat.eq_zero_or_pos zs.length with h | h
      · exact h
      · obtain ⟨_, _, h', _⟩ := hrd.cells h
        cases h'
    subst hz
    refine wpList_append_nil hgd s x 33 ho B 5 i0 1 cap Try.underlying33 hi v l.length _ hs hown hx ?_
    have := h v w (by simpa using hown) (World.grownBy.refl _ _)
    exact this
  | some ad =>
    refine wpList_append_own w hgd s x 33 ho B 5 i0 (.int .u8 0) 1 1 Try.underlying33 hi hz0 hz1 hz2 rfl (by decide) v l.length _ hs hown ad zs.length cap (zs.map (Value.int .u8)) hx (by simp) ?_ (fun u hu => by obtain ⟨y, _, rfl⟩ := List.mem_map.1 hu; rfl) (by unfold maxLen; omega) (by omega) hB ?_
    · intro j u hj
      have hjl : j < zs.length := by
        have := (List.getElem?_eq_some_iff.1 hj).1
        simpa using this
      obtain ⟨b, off, hb, _, hc⟩ := hrd.cells (by omega)
      have hb' := Option.some.inj hb
      subst hb'
      rw [Go.WideShapes.add_plain, hc j hjl, ← hj]
      simp [List.getD, List.getElem?_eq_getElem hjl]
    · intro v' w' h1 h2 _
      refine h v' w' ?_ h2
      rw [List.length_append, List.map_append]
      exact h1
theorem new_own (w : World) (base : Nat) (hb : base ≤ w.heap.size) : (w.alloc (.cells #[] 5)).ownsRow base 5 1 (.slice (some ⟨w.heap.size, 0, none⟩) 0 0) 0 [] := ⟨rfl, .inr ⟨_, 0, #[], rfl, hb, heap_new w _, Nat.le_refl _, by unfold maxLen; omega, rfl, rfl⟩⟩
theorem bel_grown {base : Nat} {w w' : World} {v : Value} {e s n : Nat} {xs : List Value} (h : w.ownsRow base e s v n xs) (hg : w.grownBy w' v.ownBlock) (hb : base ≤ w.heap.size) : Below base w w' :=
  ⟨hg.os, hg.tape, hg.output, hg.size, fun i hi => hg.block i (Nat.lt_of_lt_of_le hi hb) (fun e' => by
    rcases h.2 with ⟨rfl, _⟩ | ⟨g, cap, cur, rfl, h4, _⟩
    · cases e'
    · cases e'; exact absurd hi (Nat.not_lt.2 h4))⟩
theorem cut_any (a : Option Addr) (cap : Nat) (zs : List Int) (w : World) (hr : Ri w .u8 a cap zs) :
    Calls Try.prog 16 #[.slice a zs.length cap] w fun e w' => e = .returned (.slice a (zs.take 600).length cap) ∧ w' = w := by
  have hcap := hr.room
  have hmax := hr.most
  unfold maxLen at hmax
  have hcells := hr.cells
  clear hr
  by_cases h : 600 < zs.length
  · have hl : (zs.take 600).length = 600 := by simp; omega
    obtain ⟨b, off, rfl, hbw, hc⟩ := hcells (by omega)
    clear hcells hc hbw
    rw [hl]
    generalize zs.length = len at *
    clear hl
    go_enter Try.func16, Try.ntmps16
    go_wp2
    go_ret
    exact ⟨rfl, rfl⟩
  · have hl : (zs.take 600).length = zs.length := by simp; omega
    rw [hl]
    generalize zs.length = len at *
    clear hcells hl
    go_enter Try.func16, Try.ntmps16
    go_wp2
    go_ret
    exact ⟨rfl, rfl⟩
def WhoPost (zs : List Int) (w : World) (e : Ending) (w' : World) : Prop := ∃ v, e = .returned v ∧ w'.ownsRow w.heap.size 5 1 v (wholeL zs).length (bytesV (wholeL zs)) ∧ Below w.heap.size w w'
def lenV : Value → Nat
  | .slice _ n _ => n
  | _ => 0
set_option maxHeartbeats 1600000 in
set_option maxRecDepth 100000 in
theorem whole_ref (a : Option Addr) (cap : Nat) (zs : List Int) (w : World) (hr : Ri w .u8 a cap zs) (hl : zs.length ≤ 1000) : Calls Try.prog 15 #[.slice a zs.length cap] w (WhoPost zs w) := by
  unfold WhoPost
  have HR := hid (hr.later (bel_alloc w (.cells #[] 5)))
  have HO := hid (new_own w w.heap.size (Nat.le_refl _))
  have HB0 := hid (bel_alloc w (.cells #[] 5))
  have hsz : w.heap.size ≤ (w.alloc (.cells #[] 5)).heap.size := HB0.out.size
  obtain ⟨len, hln⟩ : ∃ n, n = zs.length := ⟨_, rfl⟩
  have HL := hid hln
  have hx : (Value.slice a len cap) = .slice a zs.length cap := by rw [hln]
  rw [← hln] at hl
  have hbd : ([] : List Int).length + zs.length ≤ 10000000 := by simp; omega
  obtain ⟨i0, hi0, hz0, hz1, hz2⟩ := info_parts Try.info5c
  rw [← hx]
  have HX := hid hx
  clear hr hln hx
  go_enter Try.func15, Try.ntmps15
  go_wp2_with (at_builtin; refine app_any _ rfl _ _ rfl w.heap.size _ [] rfl HO.out a cap zs HX.out HR.out hbd hsz ?_)
  intro v1 w1 hown hgr
  have HB1 := hid (HB0.out.trans (bel_grown HO.out hgr hsz))
  have HO1 : Hid (w1.ownsRow w.heap.size 5 1 v1 len (bytesV zs)) := by
    show World.ownsRow _ _ _ _ _ _ _
    rw [HL.out]
    exact hown
  clear hown hgr HB0 HO HR HX hsz hbd
  go_wp2_with fail
  go_loopw [3] (fun v wr => ∃ q : Nat, (q = 0 ∨ len + q ≤ 512) ∧ Hid (wr.ownsRow w.heap.size 5 1 v (len + q) (bytesV (zs ++ List.replicate q 0))) ∧ Hid (Below w.heap.size w wr)) (fun v _ => 1000 - lenV v)
  case atStart => exact ⟨0, .inl rfl, by rw [List.replicate_zero, List.append_nil]; exact HO1.out, HB1.out⟩
  case round =>
    obtain ⟨q, hq, HO2, HB2⟩ := hrel
    clear HO1 HB1
    obtain ⟨av, cv, hv⟩ := own_slice HO2.out
    subst hv
    by_cases hlt : len + q < 512
    · have hki : ((len + q : Nat) : Int) < 512 := by omega
      obtain ⟨m, hm⟩ : ∃ m, m = len + q := ⟨_, rfl⟩
      have HM := hid hm
      rw [← hm] at HO2 hki ⊢
      have hm1 : m + 1 ≤ 1000 := by omega
      have hsz2 := HB2.out.size
      clear hm
      have hn3 : w.heap.size ≤ (wr.alloc (.cells #[.int .u8 0] 5)).heap.size := by rw [World.size_alloc]; omega
      have hll : (zs ++ List.replicate q (0 : Int)).length = m := by rw [List.length_append, List.length_replicate, ← HL.out]; exact HM.out.symm
      have HOA : Hid ((wr.alloc (.cells #[.int .u8 0] 5)).ownsRow w.heap.size 5 1 (.slice av m cv) (zs ++ List.replicate q (0 : Int)).length ((zs ++ List.replicate q (0 : Int)).map (Value.int .u8))) := by
        show World.ownsRow _ _ _ _ _ _ _
        rw [hll]
        exact HO2.out.alloc _
      have HRA : Hid (Ri (wr.alloc (.cells #[.int .u8 0] 5)) .u8 (some ⟨wr.heap.size, 0, none⟩) 1 [0]) := by
        refine ⟨Nat.le_refl _, by unfold maxLen; omega, fun _ => ⟨wr.heap.size, 0, rfl, by rw [World.size_alloc]; omega, fun j hj => ?_⟩, wf_of (by decide)⟩
        have hj0 : j = 0 := by simp at hj; exact hj
        subst hj0
        exact Joins.cell_of_block (heap_new wr _) 0
      have hbd2 : (zs ++ List.replicate q (0 : Int)).length + ([0] : List Int).length ≤ 10000000 := by rw [hll]; simp; omega
      clear hll
      go_wp2_with (at_builtin; refine app_any _ rfl _ _ rfl w.heap.size _ (zs ++ List.replicate q (0 : Int)) rfl HOA.out (some ⟨wr.heap.size, 0, none⟩) 1 [0] rfl HRA.out hbd2 hn3 ?_)
      intro v3 w3 hown hgr
      have HO3 : Hid (w3.ownsRow w.heap.size 5 1 v3 (len + (q + 1)) (bytesV (zs ++ List.replicate (q + 1) 0))) := by
        show World.ownsRow _ _ _ _ _ _ _
        have e : zs ++ List.replicate (q + 1) (0 : Int) = zs ++ List.replicate q 0 ++ [0] := by rw [List.replicate_succ', ← List.append_assoc]
        rw [e, HL.out]
        unfold bytesV
        simpa using hown
      have HB3 := hid (HB2.out.trans ((((Below.refl _ _).alloc hsz2 (.cells #[.int .u8 0] 5))).trans (bel_grown HOA.out hgr hn3)))
      obtain ⟨a3, c3, hv3⟩ := own_slice HO3.out
      clear hown hgr HO2 HB2
      go_wp2_with fail
      refine ⟨⟨q + 1, .inr (by have := HM.out; omega), HO3, HB3⟩, ?_⟩
      rw [hv3]
      have := HM.out
      simp only [lenV]
      omega
    · have hki : ¬ ((len + q : Nat) : Int) < 512 := by omega
      have e : List.replicate q (0 : Int) = List.replicate (512 - len) 0 := by congr 1; omega
      have HE : Hid (wr.ownsRow w.heap.size 5 1 (.slice av (len + q) cv) (wholeL zs).length (bytesV (wholeL zs))) := by
        have h1 := HO2.out
        rw [e, HL.out] at h1
        unfold wholeL
        rw [List.length_append, List.length_replicate]
        rw [show len + q = zs.length + (512 - zs.length) from by rw [← HL.out]; omega]
        rw [show zs.length + q = zs.length + (512 - zs.length) from by rw [← HL.out]; omega] at h1
        exact h1
      obtain ⟨m, hm⟩ : ∃ m, m = len + q := ⟨_, rfl⟩
      rw [← hm] at HE hki ⊢
      clear hm e HO2
      go_wp2_with fail
      go_ret
      exact ⟨_, rfl, HE.out, HB2.out⟩
end Go.Proofs.Ytldgiimkkgmgaaa
/-
  The document's device in memory; asked, Open, Fuse, power.
-/
namespace Go.Proofs.Ytldgiimkkgmgaaa
open Go.RowKit

/-- A row of 512 bytes that nobody writes to. -/
def Bk (W : World) (v : Value) (b : List Int) : Prop := ∃ g c cs fr, v = .slice (some ⟨g, 0, none⟩) 512 c ∧ 512 ≤ c ∧ c ≤ maxLen ∧ W.heap[g]? = some (.cells cs 5 fr) ∧ cs.toList.take 512 = bytesV b ∧ Blk b
theorem Bk.ri {W : World} {v : Value} {b : List Int} (h : Bk W v b) : ∃ g c, v = .slice (some ⟨g, 0, none⟩) 512 c ∧ Ri W .u8 (some ⟨g, 0, none⟩) c b := by
  obtain ⟨g, c, cs, fr, rfl, h1, h2, h3, h4, h5⟩ := h
  refine ⟨g, c, rfl, by rw [h5.len]; exact h1, h2, fun _ => ⟨g, 0, rfl, (Array.getElem?_eq_some_iff.1 h3).1, fun j hj => ?_⟩, wf_of h5.fits⟩
  rw [h5.len] at hj
  rw [Nat.zero_add, Joins.cell_of_block h3 j]
  have e : (cs.toList.take 512)[j]? = cs[j]? := by rw [List.getElem?_take_of_lt hj, Array.getElem?_toList]
  rw [← e, h4]
  exact arr_at' (by rw [h5.len]; exact hj)
theorem Bk.blk {W : World} {v : Value} {b : List Int} (h : Bk W v b) : Blk b := by
  obtain ⟨_, _, _, _, _, _, _, _, _, h5⟩ := h
  exact h5
theorem Bk.keep {W W' : World} {v : Value} {b : List Int} (h : Bk W v b) (hk : ∀ (i : Nat) (cs : Array Value) (fr : Nat × Nat), W.heap[i]? = some (.cells cs 5 fr) → W'.heap[i]? = some (.cells cs 5 fr)) : Bk W' v b := by
  obtain ⟨g, c, cs, fr, h0, h1, h2, h3, h4, h5⟩ := h
  exact ⟨g, c, cs, fr, h0, h1, h2, hk _ _ _ h3, h4, h5⟩
theorem Bk.own {W : World} {B : Nat} {v : Value} {b : List Int} (h : W.ownsRow B 5 1 v 512 (bytesV b)) (hb : Blk b) : Bk W v b := by
  rcases h.2 with ⟨_, h0⟩ | ⟨g, cap, cur, rfl, _, h5, h6, h7, _, h9⟩
  · cases h0
  · exact ⟨g, cap, cur, (0, 0), rfl, h6, h7, h5, by simpa using h9, hb⟩
/-- The cells of a row of the document's writes. -/
def wC : List (Int × List Int) → List Value → List Value
  | x :: O, y :: ys => .int .i64 x.1 :: y :: wC O ys
  | _, _ => []
def nilV : Value := .slice none 0 0
theorem wC_app : ∀ (O : List (Int × List Int)) (ys : List Value) (x : Int × List Int) (y : Value), ys.length = O.length → wC (O ++ [x]) (ys ++ [y]) = wC O ys ++ [.int .i64 x.1, y]
  | [], [], _, _, _ => rfl
  | _ :: O, _ :: ys, x, y, h => by
    show _ :: _ :: wC (O ++ [x]) (ys ++ [y]) = _ :: _ :: (wC O ys ++ [.int .i64 x.1, y])
    rw [wC_app O ys x y (by simpa using h)]
theorem wC_at : ∀ (O : List (Int × List Int)) (ys : List Value), ys.length = O.length → ∀ k, k < O.length → (wC O ys)[k * 2]? = some (.int .i64 (O.getD k (0, [])).1) ∧ (wC O ys)[k * 2 + 1]? = some (ys.getD k nilV)
  | x :: O, y :: ys, h, 0, _ => ⟨rfl, rfl⟩
  | x :: O, y :: ys, h, k + 1, hk => by
    have ih := wC_at O ys (by simpa using h) k (by simpa using hk)
    have e : (k + 1) * 2 = k * 2 + 1 + 1 := by omega
    refine ⟨?_, ?_⟩
    · rw [e]; exact ih.1
    · rw [e]; exact ih.2
theorem wC_set : ∀ (O : List (Int × List Int)) (ys : List Value), ys.length = O.length → ∀ k y, k < O.length → (wC O ys).set (k * 2 + 1) y = wC O (ys.set k y)
  | _ :: _, _ :: _, _, 0, _, _ => rfl
  | x :: O, z :: ys, h, k + 1, y, hk => by
    have ih := wC_set O ys (by simpa using h) k y (by simpa using hk)
    have e : (k + 1) * 2 + 1 = k * 2 + 1 + 1 + 1 := by omega
    show (_ :: _ :: wC O ys).set ((k + 1) * 2 + 1) y = _ :: _ :: wC O (ys.set k y)
    rw [e, List.set_cons_succ, List.set_cons_succ, ih]
theorem wC_fst : ∀ (O P : List (Int × List Int)) (ys : List Value), O.map (·.1) = P.map (·.1) → wC O ys = wC P ys
  | [], [], _, _ => rfl
  | x :: O, z :: P, [], _ => rfl
  | x :: O, z :: P, y :: ys, h => by
    rw [List.map_cons, List.map_cons] at h
    injection h with h1 h2
    unfold wC
    rw [h1, wC_fst O P ys h2]
def rC (vL vW : Value) (dn : Bool) (f : Int) : Array Value := #[vL, vW, .bool dn, .bool (decide (0 ≤ f)), .int .i64 (max f 0)]
def Rc (W : World) (gr : Nat) (vL vW : Value) (dn : Bool) (f : Int) : Prop := W.heap[gr]? = some (.cells (rC vL vW dn f) 62 (0, 0))
theorem Rc.cells {W : World} {gr : Nat} {vL vW : Value} {dn : Bool} {f : Int} (k : Rc W gr vL vW dn f) : W.cell? ⟨gr, 0, none⟩ = some vL ∧ W.cell? ⟨gr, 1, none⟩ = some vW ∧ W.cell? ⟨gr, 2, none⟩ = some (.bool dn) ∧ W.cell? ⟨gr, 3, none⟩ = some (.bool (decide (0 ≤ f))) ∧ W.cell? ⟨gr, 4, none⟩ = some (.int .i64 (max f 0)) :=
  ⟨Joins.cell_of_block k 0, Joins.cell_of_block k 1, Joins.cell_of_block k 2, Joins.cell_of_block k 3, Joins.cell_of_block k 4⟩
theorem Rc.unfrozen {W : World} {gr : Nat} {vL vW : Value} {dn : Bool} {f : Int} (k : Rc W gr vL vW dn f) (i : Nat) : W.frozen? ⟨gr, i, none⟩ = false := Joins.unfrozen_of_block k i
theorem Rc.lt {W : World} {gr : Nat} {vL vW : Value} {dn : Bool} {f : Int} (k : Rc W gr vL vW dn f) : gr < W.heap.size := (Array.getElem?_eq_some_iff.1 k).1
/-- The rows of a document's device. -/
def RowL (W : World) (base : Nat) (vL : Value) (n : Nat) (L : Int → List Int) : Prop := ∃ xs, W.ownsRow base 33 1 vL n xs ∧ ∀ i, i < n → Bk W (xs.getD i nilV) (L (i : Int))
def RowW (W : World) (base : Nat) (vW : Value) (O : List (Int × List Int)) : Prop := ∃ ys, W.ownsRow base 87 2 vW O.length (wC O ys) ∧ ys.length = O.length ∧ ∀ k, k < O.length → Bk W (ys.getD k nilV) (O.getD k (0, [])).2
structure Rv (W : World) (base gr : Nat) (vL vW : Value) (n : Nat) (L : Int → List Int) (O : List (Int × List Int)) (f : Int) : Prop where
  blk : Rc W gr vL vW false f
  rowL : RowL W base vL n L
  rowW : RowW W base vW O
  okO : ∀ x ∈ O, 0 ≤ x.1 ∧ x.1 < (n : Int)
  okF : -1 ≤ f ∧ f ≤ 9223372036854775807
  okN : 4 ≤ n ∧ n ≤ 4096
  bg : base ≤ gr
theorem Rv.size {W : World} {base gr n : Nat} {vL vW : Value} {L : Int → List Int} {O : List (Int × List Int)} {f : Int} (h : Rv W base gr vL vW n L O f) : base ≤ W.heap.size := Nat.le_trans h.bg (Nat.le_of_lt h.blk.lt)
theorem RowL.keep {W W' : World} {base n : Nat} {vL : Value} {L : Int → List Int} (h : RowL W base vL n L) (h3 : ∀ (i : Nat) (cs : Array Value), W.heap[i]? = some (.cells cs 33 (0, 0)) → W'.heap[i]? = some (.cells cs 33 (0, 0))) (h5 : ∀ (i : Nat) (cs : Array Value) (fr : Nat × Nat), W.heap[i]? = some (.cells cs 5 fr) → W'.heap[i]? = some (.cells cs 5 fr)) : RowL W' base vL n L := by
  obtain ⟨xs, h1, h2⟩ := h
  exact ⟨xs, own_blk h1 h3, fun i hi => (h2 i hi).keep h5⟩
theorem RowW.keep {W W' : World} {base : Nat} {vW : Value} {O : List (Int × List Int)} (h : RowW W base vW O) (h3 : ∀ (i : Nat) (cs : Array Value), W.heap[i]? = some (.cells cs 87 (0, 0)) → W'.heap[i]? = some (.cells cs 87 (0, 0))) (h5 : ∀ (i : Nat) (cs : Array Value) (fr : Nat × Nat), W.heap[i]? = some (.cells cs 5 fr) → W'.heap[i]? = some (.cells cs 5 fr)) : RowW W' base vW O := by
  obtain ⟨ys, h1, h2, h4⟩ := h
  exact ⟨ys, own_blk h1 h3, h2, fun k hk => (h4 k hk).keep h5⟩
theorem Rv.keep {W W' : World} {base gr n : Nat} {vL vW : Value} {L : Int → List Int} {O : List (Int × List Int)} {f : Int} (h : Rv W base gr vL vW n L O f) (hk : ∀ (i : Nat) (cs : Array Value) (t : TypeId) (fr : Nat × Nat), t ≠ 79 → t ≠ 83 → W.heap[i]? = some (.cells cs t fr) → W'.heap[i]? = some (.cells cs t fr)) : Rv W' base gr vL vW n L O f :=
  ⟨hk _ _ 62 _ (by decide) (by decide) h.blk, h.rowL.keep (fun i cs => hk i cs 33 _ (by decide) (by decide)) (fun i cs fr => hk i cs 5 fr (by decide) (by decide)), h.rowW.keep (fun i cs => hk i cs 87 _ (by decide) (by decide)) (fun i cs fr => hk i cs 5 fr (by decide) (by decide)), h.okO, h.okF, h.okN, h.bg⟩
theorem Rv.below {W W' : World} {base gr n : Nat} {vL vW : Value} {L : Int → List Int} {O : List (Int × List Int)} {f : Int} (h : Rv W base gr vL vW n L O f) (hb : Below W.heap.size W W') : Rv W' base gr vL vW n L O f := h.keep (fun i _ _ _ _ _ hi => (hb.block i (Array.getElem?_eq_some_iff.1 hi).1).trans hi)
/-- What the document's calls leave as it was. -/
structure FrD (base : Nat) (w w' : World) : Prop where
  bel : Below base w w'
  keep : ∀ (i : Nat) (o : Obj), w.heap[i]? = some o → (∀ cs t fr, o = .cells cs t fr → t ≠ 62 ∧ t ≠ 33 ∧ t ≠ 87) → w'.heap[i]? = some o
theorem FrD.refl (base : Nat) (w : World) : FrD base w w := ⟨Below.refl _ _, fun _ _ h _ => h⟩
theorem FrD.trans {base : Nat} {a b c : World} (h : FrD base a b) (k : FrD base b c) : FrD base a c := ⟨h.bel.trans k.bel, fun i o h1 h2 => k.keep i o (h.keep i o h1 h2) h2⟩
theorem FrD.of_below {base : Nat} {w w' : World} (h : Below w.heap.size w w') (hb : base ≤ w.heap.size) : FrD base w w' := ⟨h.mono hb, fun i _ h1 _ => (h.block i (Array.getElem?_eq_some_iff.1 h1).1).trans h1⟩
theorem FrD.drew {base : Nat} {w w' : World} (h : FrD base w w') : FrD base w w'.drew := ⟨h.bel.drew, h.keep⟩
theorem FrD.cells {base : Nat} {w w' : World} (h : FrD base w w') {i : Nat} {cs : Array Value} {t : TypeId} {fr : Nat × Nat} (h1 : w.heap[i]? = some (.cells cs t fr)) (ht : t ≠ 62 ∧ t ≠ 33 ∧ t ≠ 87) : w'.heap[i]? = some (.cells cs t fr) := h.keep i _ h1 (fun _ _ _ e => by injection e with _ e; rw [← e]; exact ht)
/-- One block of the document's is turned. -/
theorem FrD.one {base g : Nat} {w w' : World} {cs : Array Value} {t : TypeId} {fr : Nat × Nat} (hg : w.heap[g]? = some (.cells cs t fr)) (ht : t = 62 ∨ t = 33 ∨ t = 87) (hb : base ≤ g) (ho : ∀ j, j ≠ g → w'.heap[j]? = w.heap[j]?) (h1 : Below 0 w w') : FrD base w w' :=
  ⟨⟨h1.os, h1.tape, h1.output, h1.size, fun i hi => ho i (by omega)⟩, fun i o hi hk => (ho i (by rintro rfl; rw [hg] at hi; cases hi; have := hk cs t fr rfl; rcases ht with rfl | rfl | rfl <;> simp at this)).trans hi⟩
theorem Dv.doc {W W' : World} {base gd gv gl gn N : Nat} {v : Value} {size : Int} {L : Int → List Int} {O : List (Int × List Int)} {fuse : Int} (h : Dv W base gd gv gl gn v N size L O fuse) (hb : FrD base W W') : Dv W' base gd gv gl gn v N size L O fuse := by
  obtain ⟨e1, c1, m1⟩ := h.lst.map
  obtain ⟨e2, c2, m2⟩ := h.nst.map
  exact ⟨hb.cells h.dsk (by decide), hb.cells h.dev (by decide), own_blk h.row (fun _ _ hi => hb.cells hi (by decide)), h.lst.later ((hb.keep gl _ m1 (fun _ _ _ e => by cases e)).trans m1.symm) (Nat.le_refl _), h.nst.later ((hb.keep gn _ m2 (fun _ _ _ e => by cases e)).trans m2.symm) (Nat.le_refl _), h.okL, h.okO, h.okF, h.okS, h.bd, h.bv, h.bl, h.bn, h.ne⟩
theorem Rv.code {W W' : World} {base gr n : Nat} {vL vW : Value} {L : Int → List Int} {O : List (Int × List Int)} {f : Int} (h : Rv W base gr vL vW n L O f) (hb : Fr base W W') : Rv W' base gr vL vW n L O f := h.keep hb.typ
/-- A cell of the device is set. -/
theorem rc_set {W : World} {base gr : Nat} {vL vW : Value} {dn : Bool} {f : Int} (h : Rc W gr vL vW dn f) (hb : base ≤ gr) (j : Nat) (x : Value) : (∀ i, i ≠ gr → (W.setCell ⟨gr, j, none⟩ x).heap[i]? = W.heap[i]?) ∧ FrD base W (W.setCell ⟨gr, j, none⟩ x) := by
  have h1 : ∀ i, i ≠ gr → (W.setCell ⟨gr, j, none⟩ x).heap[i]? = W.heap[i]? := fun i hi => Below.heap_setCell W ⟨gr, j, none⟩ x i hi
  exact ⟨h1, FrD.one h (.inl rfl) hb h1 ((Below.refl 0 W).setCell (Nat.zero_le _) x)⟩
theorem Rc.put {W : World} {gr : Nat} {vL vW : Value} {dn : Bool} {f : Int} (h : Rc W gr vL vW dn f) : (∀ v, Rc (W.setCell ⟨gr, 0, none⟩ v) gr v vW dn f) ∧ (∀ v, Rc (W.setCell ⟨gr, 1, none⟩ v) gr vL v dn f) ∧ (∀ d, Rc (W.setCell ⟨gr, 2, none⟩ (.bool d)) gr vL vW d f) := by
  refine ⟨fun v => ?_, fun v => ?_, fun v => ?_⟩ <;> (unfold Rc; rw [Joins.block_setCell h _]; simp [rC])
theorem Rc.ne5 {W : World} {gr i : Nat} {vL vW : Value} {dn : Bool} {f : Int} (h : Rc W gr vL vW dn f) {cs : Array Value} {t : TypeId} {fr : Nat × Nat} (hi : W.heap[i]? = some (.cells cs t fr)) (ht : t ≠ 62) : i ≠ gr := by
  rintro rfl
  unfold Rc at h
  rw [hi] at h
  injection h with h
  injection h with _ h
  exact ht h
/-- The rows stay while a cell of the device is set. -/
theorem Rv.rows {W : World} {base gr n : Nat} {vL vW : Value} {L : Int → List Int} {O : List (Int × List Int)} {f : Int} (h : Rv W base gr vL vW n L O f) (j : Nat) (x : Value) : RowL (W.setCell ⟨gr, j, none⟩ x) base vL n L ∧ RowW (W.setCell ⟨gr, j, none⟩ x) base vW O := by
  obtain ⟨h1, _⟩ := rc_set h.blk h.bg j x
  have hk : ∀ (i : Nat) (cs : Array Value) (t : TypeId) (fr : Nat × Nat), t ≠ 62 → W.heap[i]? = some (.cells cs t fr) → (W.setCell ⟨gr, j, none⟩ x).heap[i]? = some (.cells cs t fr) := fun i cs t fr ht hi => (h1 i (h.blk.ne5 hi ht)).trans hi
  exact ⟨h.rowL.keep (fun i cs => hk i cs 33 _ (by decide)) (fun i cs fr => hk i cs 5 fr (by decide)), h.rowW.keep (fun i cs => hk i cs 87 _ (by decide)) (fun i cs fr => hk i cs 5 fr (by decide))⟩
theorem Rv.fuse {W : World} {base gr n : Nat} {vL vW : Value} {L : Int → List Int} {O : List (Int × List Int)} {f : Int} (h : Rv W base gr vL vW n L O f) (f' : Int) (hf : -1 ≤ f' ∧ f' ≤ 9223372036854775807) : Rv ((W.setCell ⟨gr, 3, none⟩ (.bool (decide (0 ≤ f')))).setCell ⟨gr, 4, none⟩ (.int .i64 (max f' 0))) base gr vL vW n L O f' ∧ FrD base W ((W.setCell ⟨gr, 3, none⟩ (.bool (decide (0 ≤ f')))).setCell ⟨gr, 4, none⟩ (.int .i64 (max f' 0))) := by
  have hb : ((W.setCell ⟨gr, 3, none⟩ (.bool (decide (0 ≤ f')))).setCell ⟨gr, 4, none⟩ (.int .i64 (max f' 0))).heap[gr]? = some (.cells (rC vL vW false f') 62 (0, 0)) := by
    rw [Joins.block_setCell (Joins.block_setCell h.blk _) _]
    simp [rC]
  have ho : ∀ j, j ≠ gr → ((W.setCell ⟨gr, 3, none⟩ (.bool (decide (0 ≤ f')))).setCell ⟨gr, 4, none⟩ (.int .i64 (max f' 0))).heap[j]? = W.heap[j]? := fun j hj => (Below.heap_setCell _ ⟨gr, 4, none⟩ _ j hj).trans (Below.heap_setCell W ⟨gr, 3, none⟩ _ j hj)
  have hk : ∀ (i : Nat) (cs : Array Value) (t : TypeId) (fr : Nat × Nat), t ≠ 62 → W.heap[i]? = some (.cells cs t fr) → ((W.setCell ⟨gr, 3, none⟩ (.bool (decide (0 ≤ f')))).setCell ⟨gr, 4, none⟩ (.int .i64 (max f' 0))).heap[i]? = some (.cells cs t fr) := fun i cs t fr ht hi => (ho i (h.blk.ne5 hi ht)).trans hi
  exact ⟨⟨hb, h.rowL.keep (fun i cs => hk i cs 33 _ (by decide)) (fun i cs fr => hk i cs 5 fr (by decide)), h.rowW.keep (fun i cs => hk i cs 87 _ (by decide)) (fun i cs fr => hk i cs 5 fr (by decide)), h.okO, hf, h.okN, h.bg⟩, FrD.one h.blk (.inl rfl) h.bg ho (((Below.refl 0 W).setCell (Nat.zero_le _) _).setCell (Nat.zero_le _) _)⟩
theorem RowL.slice {W : World} {base n : Nat} {vL : Value} {L : Int → List Int} (h : RowL W base vL n L) : ∃ a c, vL = .slice a n c := by obtain ⟨xs, h1, _⟩ := h; exact own_slice h1
theorem RowW.slice {W : World} {base : Nat} {vW : Value} {O : List (Int × List Int)} (h : RowW W base vW O) : ∃ a c, vW = .slice a O.length c := by obtain ⟨ys, h1, _⟩ := h; exact own_slice h1

theorem asked_ref (base gr n : Nat) (vL vW : Value) (L : Int → List Int) (O : List (Int × List Int)) (f i : Int) (w : World) (k : Rv w base gr vL vW n L O f) : Calls Try.prog 43 #[.pointer (some ⟨gr, 0, none⟩), .int .i64 i] w fun e w' => e = .returned (.int .i64 (hasE (n : Int) i)) ∧ w' = w := by
  obtain ⟨a, c, rfl⟩ := k.rowL.slice
  obtain ⟨c0, c1, c2, _, _⟩ := k.blk.cells
  clear k
  by_cases h1 : i < 0
  · rw [show hasE (n : Int) i = 5 from if_neg (by omega)]
    go_enter Try.func43, Try.ntmps43
    go_wp2_with fail
    go_ret
    exact ⟨rfl, rfl⟩
  · by_cases h2 : i < (n : Int)
    · rw [show hasE (n : Int) i = 0 from if_pos ⟨by omega, h2⟩]
      have h3 : ¬ (n : Int) ≤ i := by omega
      go_enter Try.func43, Try.ntmps43
      go_wp2_with fail
      go_ret
      exact ⟨rfl, rfl⟩
    · rw [show hasE (n : Int) i = 5 from if_neg (by omega)]
      have h3 : (n : Int) ≤ i := by omega
      go_enter Try.func43, Try.ntmps43
      go_wp2_with fail
      go_ret
      exact ⟨rfl, rfl⟩
theorem open_ref (base gr n : Nat) (vL vW : Value) (L : Int → List Int) (O : List (Int × List Int)) (f : Int) (w : World) (k : Rv w base gr vL vW n L O f) : Calls Try.prog 31 #[.pointer (some ⟨gr, 0, none⟩)] w fun e w' => e = .returned (.int .i64 (O.length : Int)) ∧ w' = w := by
  obtain ⟨a, c, rfl⟩ := k.rowW.slice
  obtain ⟨_, c1, c2, _, _⟩ := k.blk.cells
  clear k
  generalize O.length = m at *
  go_enter Try.func31, Try.ntmps31
  go_wp2_with fail
  go_ret
  exact ⟨rfl, rfl⟩
theorem fuse_ref (base gr n : Nat) (vL vW : Value) (L : Int → List Int) (O : List (Int × List Int)) (f m : Int) (w : World) (k : Rv w base gr vL vW n L O f) (hm : okI m) : Calls Try.prog 30 #[.pointer (some ⟨gr, 0, none⟩), .int .i64 m] w fun e w' => e = .returned (.int .i64 0) ∧ Rv w' base gr vL vW n L O (max m (-1)) ∧ FrD base w w' := by
  have hw := wf_i64 hm
  have HF := hid (k.fuse (max m (-1)) ⟨by omega, by omega⟩)
  rw [show decide (0 ≤ max m (-1)) = decide (0 ≤ m) from by by_cases h : 0 ≤ m <;> simp [h] <;> omega, show max (max m (-1)) 0 = max m 0 from by omega] at HF
  obtain ⟨_, _, c2, c3, c4⟩ := k.blk.cells
  have f3 := k.blk.unfrozen 3
  have f4 := k.blk.unfrozen 4
  clear k hm
  go_enter Try.func30, Try.ntmps30
  go_wp2_with fail
  go_ret
  exact ⟨rfl, HF.out.1, HF.out.2⟩
end Go.Proofs.Ytldgiimkkgmgaaa
/-
  The document's power, Holds and Read.
-/
namespace Go.Proofs.Ytldgiimkkgmgaaa
open Go.RowKit

theorem Rv.left {W : World} {base gr n : Nat} {vL vW : Value} {L : Int → List Int} {O : List (Int × List Int)} {f : Int} (h : Rv W base gr vL vW n L O f) (f' : Int) (hf : -1 ≤ f' ∧ f' ≤ 9223372036854775807) (hd : decide (0 ≤ f') = decide (0 ≤ f)) : Rv (W.setCell ⟨gr, 4, none⟩ (.int .i64 (max f' 0))) base gr vL vW n L O f' ∧ FrD base W (W.setCell ⟨gr, 4, none⟩ (.int .i64 (max f' 0))) := by
  obtain ⟨h1, h2⟩ := rc_set h.blk h.bg 4 (.int .i64 (max f' 0))
  obtain ⟨h3, h4⟩ := h.rows 4 (.int .i64 (max f' 0))
  refine ⟨⟨?_, h3, h4, h.okO, hf, h.okN, h.bg⟩, h2⟩
  unfold Rc
  rw [Joins.block_setCell h.blk _]
  simp [rC, hd]
theorem power_ref (base gr n : Nat) (vL vW : Value) (L : Int → List Int) (O : List (Int × List Int)) (f : Int) (w : World) (k : Rv w base gr vL vW n L O f) : Calls Try.prog 44 #[.pointer (some ⟨gr, 0, none⟩)] w fun e w' => e = .returned (.bool (decide (f ≠ 0))) ∧ Rv w' base gr vL vW n L O (burnF f) ∧ FrD base w w' := by
  obtain ⟨o1, o2⟩ := k.okF
  obtain ⟨_, _, _, c3, c4⟩ := k.blk.cells
  have f4 := k.blk.unfrozen 4
  by_cases h0 : f = 0
  · subst h0
    have HK := hid k
    rw [show decide ((0 : Int) ≤ 0) = true from rfl] at c3
    rw [show max (0 : Int) 0 = 0 from rfl] at c4
    clear k
    go_enter Try.func44, Try.ntmps44
    go_wp2_with fail
    go_ret
    exact ⟨rfl, HK.out, FrD.refl _ _⟩
  · rw [show decide (f ≠ 0) = true from by simpa using h0]
    by_cases h1 : 0 < f
    · have HF := hid (k.left (f - 1) ⟨by omega, by omega⟩ (by rw [decide_eq_true (show (0 : Int) ≤ f - 1 by omega), decide_eq_true (show (0 : Int) ≤ f by omega)]))
      rw [show burnF f = f - 1 from if_pos h1]
      rw [decide_eq_true (show (0 : Int) ≤ f by omega)] at c3
      rw [show max f 0 = f from by omega] at c4
      have e0 : (f == 0) = false := by simpa using h0
      clear k
      go_enter Try.func44, Try.ntmps44
      go_wp2_with fail
      go_ret
      exact ⟨rfl, HF.out.1, HF.out.2⟩
    · have h2 : f = -1 := by omega
      subst h2
      have HF := hid (k.left (-1) ⟨by omega, by omega⟩ rfl)
      rw [show max (-1 : Int) 0 = 0 from rfl] at c4 HF
      rw [show decide ((0 : Int) ≤ -1) = false from rfl] at c3
      rw [show burnF (-1) = -1 from rfl]
      clear k
      go_enter Try.func44, Try.ntmps44
      go_wp2_with fail
      go_ret
      exact ⟨rfl, HF.out.1, HF.out.2⟩
/-- The rows of the device, by number. -/
theorem RowL.at {W : World} {base n : Nat} {vL : Value} {L : Int → List Int} (h : RowL W base vL n L) (h0 : 0 < n) : ∃ g c, vL = .slice (some ⟨g, 0, none⟩) n c ∧ n ≤ c ∧ c ≤ maxLen ∧ base ≤ g ∧ (∃ cs, W.heap[g]? = some (.cells cs 33 (0, 0))) ∧ ∀ i, i < n → ∃ x, W.cell? ⟨g, i, none⟩ = some x ∧ Bk W x (L (i : Int)) := by
  obtain ⟨xs, h1, h2⟩ := h
  rcases id h1.2 with ⟨_, h3⟩ | ⟨g, cap, cur, rfl, hb, hg, hnc, hcm, _⟩
  · omega
  · refine ⟨g, cap, rfl, hnc, hcm, hb, ⟨_, hg⟩, fun i hi => ⟨xs.getD i nilV, ?_, h2 i hi⟩⟩
    rw [h1.cellAt i (by omega)]
    have hl : i < xs.length := by rw [h1.1]; omega
    simp [List.getD, List.getElem?_eq_getElem hl]
theorem RowW.at {W : World} {base : Nat} {vW : Value} {O : List (Int × List Int)} (h : RowW W base vW O) (h0 : 0 < O.length) : ∃ g c, vW = .slice (some ⟨g, 0, none⟩) O.length c ∧ O.length ≤ c ∧ c ≤ maxLen ∧ base ≤ g ∧ (∃ cs, W.heap[g]? = some (.cells cs 87 (0, 0))) ∧ ∀ k, k < O.length → W.cell? ⟨g, k * 2, none⟩ = some (.int .i64 (O.getD k (0, [])).1) ∧ ∃ y, W.cell? ⟨g, k * 2 + 1, none⟩ = some y ∧ Bk W y (O.getD k (0, [])).2 := by
  obtain ⟨ys, h1, h2, h4⟩ := h
  rcases id h1.2 with ⟨_, h3⟩ | ⟨g, cap, cur, rfl, hb, hg, hnc, hcm, _⟩
  · omega
  · refine ⟨g, cap, rfl, hnc, hcm, hb, ⟨_, hg⟩, fun k hk => ?_⟩
    obtain ⟨w1, w2⟩ := wC_at O ys h2 k hk
    exact ⟨by rw [h1.cellAt (k * 2) (by omega)]; exact w1, _, by rw [h1.cellAt (k * 2 + 1) (by omega)]; exact w2, h4 k hk⟩
def HoPost (b : List Int) (w : World) (e : Ending) (w' : World) : Prop := ∃ v, e = .returned v ∧ Bk w' v b ∧ (∃ g c, v = .slice (some ⟨g, 0, none⟩) 512 c ∧ w.heap.size ≤ g) ∧ Below w.heap.size w w'
set_option maxHeartbeats 3200000 in
set_option maxRecDepth 100000 in
theorem holds_ref (base gr n : Nat) (vL vW : Value) (L : Int → List Int) (O : List (Int × List Int)) (f i : Int) (w : World) (k : Rv w base gr vL vW n L O f) (hi : 0 ≤ i ∧ i < (n : Int)) (hO : O.length ≤ 60000) : Calls Try.prog 32 #[.pointer (some ⟨gr, 0, none⟩), .int .i64 i] w (HoPost (holdF L O i) w) := by
  unfold HoPost
  obtain ⟨gL, cL, rfl, hc1, hc2, _, _, hat⟩ := k.rowL.at (by have := k.okN; omega)
  obtain ⟨aW, cW, rfl⟩ := k.rowW.slice
  obtain ⟨c0, c1, _, _, _⟩ := k.blk.cells
  obtain ⟨m, rfl⟩ : ∃ m : Nat, i = (m : Int) := ⟨i.toNat, by omega⟩
  obtain ⟨x0, hx0, hk0⟩ := hat m (by omega)
  have HW := hid k.rowW
  have HK0 := hid hk0
  obtain ⟨i1, i2⟩ := hi
  obtain ⟨q0, hq0⟩ : ∃ z, z = O.length := ⟨_, rfl⟩
  have HN := hid hq0
  rw [← hq0] at hO HW c1
  clear k hat hk0 hq0
  unfold maxLen at hc2
  obtain ⟨i0, hi0, hz0, hz1, hz2⟩ := info_parts Try.info5c
  go_enter Try.func32, Try.ntmps32
  go_wp2_with fail
  go_loopw [5, 6] (fun v j wr => wr = w ∧ ∃ (q : Nat) (vv : Value), j = .int .i64 (q : Int) ∧ q ≤ q0 ∧ v = vv ∧ Hid (Bk w vv (holdF L (O.take q) (m : Int)))) (fun _ j _ => q0 - (intOf j).toNat)
  case atStart => exact ⟨rfl, 0, _, rfl, Nat.zero_le _, rfl, HK0.out⟩
  case round =>
    obtain ⟨hwr, q, vv, rfl, hq, hvv, HB⟩ := hrel
    have hvv2 := hvv.symm
    clear hvv
    subst hvv2
    obtain rfl := hwr.symm
    clear hwr hx0 HK0
    by_cases hlt : q < q0
    · have hz : (q : Int) < (q0 : Int) := by omega
      have hzz : (0 : Int) ≤ (q : Int) := by omega
      obtain ⟨gW, cW', e, hw1, hw2, _, _, hwa⟩ := HW.out.at (by rw [← HN.out]; omega)
      rw [← HN.out] at e hw1
      cases e
      obtain ⟨d1, y, d2, hky⟩ := hwa q (by rw [← HN.out]; exact hlt)
      have HKY := hid hky
      have HSN := hid (congrFun (show holdF L (O.take (q + 1)) = setI (holdF L (O.take q)) (O.getD q (0, [])).1 (O.getD q (0, [])).2 from by rw [take_snoc O q (by rw [← HN.out]; exact hlt), hold_snoc]) (m : Int))
      clear hwa hky
      generalize O.getD q (0, []) = x at *
      obtain ⟨xi, xb⟩ := x
      dsimp only at *
      by_cases hxi : xi = (m : Int)
      · subst hxi
        rw [setI_same] at HSN
        have HB2 : Hid (Bk w y (holdF L (O.take (q + 1)) (m : Int))) := by show Bk _ _ _; rw [HSN.out]; exact HKY.out
        have e1 : ((m : Int) == (m : Int)) = true := by simp
        clear HB HSN HKY
        go_wp2_with fail
        exact ⟨⟨trivial, q + 1, _, by go_num, hlt, rfl, HB2⟩, by simp only [intOf]; omega⟩
      · rw [setI_ne _ _ (Ne.symm hxi)] at HSN
        have HB2 : Hid (Bk w vv (holdF L (O.take (q + 1)) (m : Int))) := by show Bk _ _ _; rw [HSN.out]; exact HB.out
        have e1 : (xi == (m : Int)) = false := by simpa using hxi
        clear HB HSN HKY
        go_wp2_with fail
        exact ⟨⟨trivial, q + 1, _, by go_num, hlt, rfl, HB2⟩, by simp only [intOf]; omega⟩
    · have hqn : q = q0 := by omega
      subst hqn
      have hz : ¬ (q : Int) < (q : Int) := by omega
      rw [show O.take q = O from by rw [HN.out, List.take_length]] at HB
      obtain ⟨g, c, rfl, hr⟩ := HB.out.ri
      have HBK := hid HB.out.blk
      have HR := hid (hr.later (bel_alloc w (.cells #[] 5)))
      have HO := hid (new_own w w.heap.size (Nat.le_refl _))
      have HB0 := hid (bel_alloc w (.cells #[] 5))
      have hsz : w.heap.size ≤ (w.alloc (.cells #[] 5)).heap.size := HB0.out.size
      have hbd : ([] : List Int).length + (holdF L O (m : Int)).length ≤ 10000000 := by rw [HBK.out.len]; simp
      have HX : Hid (Value.slice (some ⟨g, 0, none⟩) 512 c = .slice (some ⟨g, 0, none⟩) (holdF L O (m : Int)).length c) := by show _ = _; rw [HBK.out.len]
      clear hr HB
      go_wp2_with (at_builtin; refine app_any _ rfl _ _ rfl w.heap.size _ [] rfl HO.out (some ⟨g, 0, none⟩) c (holdF L O (m : Int)) HX.out HR.out hbd hsz ?_)
      intro v1 w1 hown hgr
      have HB1 := hid (HB0.out.trans (bel_grown HO.out hgr hsz))
      have HO1 : Hid (w1.ownsRow w.heap.size 5 1 v1 512 (bytesV (holdF L O (m : Int)))) := by
        have h9 := HBK.out.len
        show World.ownsRow _ _ _ _ _ _ _
        unfold bytesV
        simpa [h9] using hown
      have HG : Hid (∃ g c, v1 = .slice (some ⟨g, 0, none⟩) 512 c ∧ w.heap.size ≤ g) := by
        rcases HO1.out.2 with ⟨_, h0⟩ | ⟨g', c', cur, h3, h4, _⟩
        · cases h0
        · exact ⟨g', c', h3, h4⟩
      clear hown hgr HO HR
      go_wp2_with fail
      go_ret
      exact ⟨_, rfl, Bk.own HO1.out HBK.out, HG.out, HB1.out⟩
end Go.Proofs.Ytldgiimkkgmgaaa
/-
  The document's Read.
-/
namespace Go.Proofs.Ytldgiimkkgmgaaa
open Go.RowKit

def RrPost (b : List Int) (w : World) (e : Ending) (w' : World) : Prop := ∃ v, e = .returned (.tuple #[v, .int .i64 0]) ∧ Bk w' v b ∧ (∃ g c, v = .slice (some ⟨g, 0, none⟩) 512 c ∧ w.heap.size ≤ g) ∧ Below w.heap.size w w'
theorem rread_ref (base gr n : Nat) (vL vW : Value) (L : Int → List Int) (O : List (Int × List Int)) (f i : Int) (w : World) (k : Rv w base gr vL vW n L O f) (hi : 0 ≤ i ∧ i < (n : Int)) (hO : O.length ≤ 60000) : Calls Try.prog 26 #[.pointer (some ⟨gr, 0, none⟩), .int .i64 i] w (RrPost (holdF L O i) w) := by
  unfold RrPost
  have HA := hid (asked_ref base gr n vL vW L O f i w k)
  rw [show hasE (n : Int) i = 0 from if_pos hi] at HA
  have HH := hid (holds_ref base gr n vL vW L O f i w k hi hO)
  unfold HoPost at HH
  clear k
  go_enter Try.func26, Try.ntmps26
  go_wp2_with fail
  refine HA.out.mono ?_
  rintro _ w1 ⟨rfl, hw⟩
  obtain rfl := hw.symm
  clear hw HA
  go_wp2_with fail
  refine HH.out.mono ?_
  rintro _ w2 ⟨v, rfl, hk, hg, hb⟩
  have HK := hid hk
  have HG := hid hg
  have HB := hid hb
  clear hk hg hb HH
  go_wp2_with fail
  go_ret2
  exact ⟨v, rfl, HK.out, HG.out, HB.out⟩
theorem rread_range (base gr n : Nat) (vL vW : Value) (L : Int → List Int) (O : List (Int × List Int)) (f i : Int) (w : World) (k : Rv w base gr vL vW n L O f) (hi : ¬ (0 ≤ i ∧ i < (n : Int))) : Calls Try.prog 26 #[.pointer (some ⟨gr, 0, none⟩), .int .i64 i] w fun e w' => e = .returned (.tuple #[.slice none 0 0, .int .i64 5]) ∧ w' = w := by
  have HA := hid (asked_ref base gr n vL vW L O f i w k)
  rw [show hasE (n : Int) i = 5 from if_neg hi] at HA
  clear k
  go_enter Try.func26, Try.ntmps26
  go_wp2_with fail
  refine HA.out.mono ?_
  rintro _ w1 ⟨rfl, hw⟩
  obtain rfl := hw.symm
  clear hw HA
  go_wp2_with fail
  go_ret2
  exact ⟨rfl, rfl⟩
end Go.Proofs.Ytldgiimkkgmgaaa
