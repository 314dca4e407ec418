/-
  Arguments as they are handed in: rows of bytes, of bools, of rows of bytes, an act, a row of acts.
-/
import Derived.Test.YtldgiimkkgmgaaaPart04
import Derived.Deep.Matrix
import Derived.Deep.Grids
import Derived.Test.YtldgiimkkgmgaaaPart10
import Derived.Test.YtldgiimkkgmgaaaPart05
import Derived.Test.YtldgiimkkgmgaaaPart06
import Derived.Test.YtldgiimkkgmgaaaPart07
import Derived.Test.YtldgiimkkgmgaaaPart03
namespace Go.Proofs.Ytldgiimkkgmgaaa
open Go.RowKit

theorem Try.cells4 : Try.prog.cellsOf 4 = 1 := by kernel_rfl
theorem Try.cells33 : Try.prog.cellsOf 33 = 1 := by kernel_rfl
theorem Try.cells34 : Try.prog.cellsOf 34 = 1 := by kernel_rfl
theorem Try.cells36 : Try.prog.cellsOf 36 = 7 := by kernel_rfl

open Go.ChangeShapes Go.WideShapes Go.ChangeAt in
theorem ri_of {H : Type} {enc : TypeId × Value → H} {W : World} {fuel : Nat} {v : Value} {x : DataW H × List MemPlace} (hf : DataW.trod enc Try.prog W 0 (fun _ => true) true fuel 33 [v] = some x) (hlt : ∀ y ∈ x.2, y.block < W.heap.size) :
    ∃ a cap zs, v = .slice a (zs : List Int).length cap ∧ Ri W .u8 a cap zs := by
  rcases open_ints Try.underlying33 Try.underlying5 Try.cells5 hf with ⟨hcs, hx⟩ | ⟨a, len, cap, zs, hcs, _, hl, hm, hz, hx, hcell, hwz⟩
  · simp at hcs
    subst hcs
    exact ⟨none, 0, [], rfl, Nat.le_refl _, by unfold maxLen; omega, fun h => absurd h (by simp), fun j => by simp; exact wf_zero _⟩
  · simp at hcs
    subst hcs
    subst hx
    simp only [if_true] at hz
    have hlen : (zs.take len).length = len := by simp; omega
    refine ⟨some a, cap, zs.take len, by rw [hlen], by omega, hm, fun h0 => ?_, fun j => ?_⟩
    · rw [hlen] at h0 ⊢
      obtain ⟨b, off, spot⟩ := a
      have hspot : spot = none := by simpa [Addr.add] using World.cell?_spot (hcell 0 (by omega))
      subst hspot
      have hbW : b < W.heap.size := hlt (.cell b off) (MemPlace.mem_row.2 ⟨0, by omega, by simp⟩)
      refine ⟨b, off, rfl, hbW, fun j hj => ?_⟩
      rw [← add_plain, getD_take zs len j hj]
      exact hcell j (by omega)
    · by_cases hj : j < (zs.take len).length
      · have hm : (zs.take len).getD j 0 ∈ zs := by
          simp only [List.getD, List.getElem?_eq_getElem hj, Option.getD_some]
          exact List.mem_of_mem_take (List.getElem_mem hj)
        exact hwz _ hm
      · rw [getD_out _ _ (by omega)]; exact wf_zero _
open Go.ChangeShapes Go.WideShapes Go.ChangeAt in
theorem bls_of {H : Type} {enc : TypeId × Value → H} {W : World} {fuel : Nat} {v : Value} {x : DataW H × List MemPlace} (hf : DataW.trod enc Try.prog W 0 (fun _ => true) true fuel 34 [v] = some x) (hlt : ∀ y ∈ x.2, y.block < W.heap.size) :
    ∃ a cap l, v = .slice a (l : List Bool).length cap ∧ Bls W a cap l := by
  rcases Go.Deep.open_bools Try.underlying34 Try.underlying4 Try.cells4 hf with ⟨hcs, hx⟩ | ⟨a, len, cap, B, hcs, _, hl, hm, hx, hcell⟩
  · simp at hcs
    subst hcs
    exact ⟨none, 0, [], rfl, Nat.le_refl _, by unfold maxLen; omega, fun h => absurd h (by simp)⟩
  · simp at hcs
    subst hcs
    subst hx
    have hlen : ((List.range len).map B).length = len := by simp
    refine ⟨some a, cap, (List.range len).map B, by rw [hlen], by rw [hlen]; exact hl, hm, fun h0 => ?_⟩
    rw [hlen] at h0 ⊢
    obtain ⟨b, off, spot⟩ := a
    have hspot : spot = none := by simpa [Addr.add] using World.cell?_spot (hcell 0 (by omega))
    subst hspot
    have hbW : b < W.heap.size := hlt (.cell b off) (MemPlace.mem_row.2 ⟨0, by omega, by simp⟩)
    refine ⟨b, off, rfl, hbW, fun j hj => ?_⟩
    have h1 := hcell j (by omega)
    rw [add_plain] at h1
    rw [h1]
    simp [List.getD, hj]
open Go.ChangeShapes Go.WideShapes Go.ChangeAt in
theorem open_bls {H : Type} {enc : TypeId × Value → H} {W : World} {base : Nat} {v : Value} {d : DataW H} {p : List MemPlace} (hv : Value.okWide Try.prog W .any base 34 v)
    (h : DataW.Trod enc Try.prog W 0 (fun _ => true) true 34 v d p) (hlt : ∀ x ∈ p, x.block < W.heap.size) : ∃ a cap l, v = .slice a (l : List Bool).length cap ∧ Bls W a cap l := by
  obtain ⟨a0, len, cap, rfl⟩ := okWide_slice Try.underlying34 hv
  obtain ⟨fuel, hf⟩ := h
  exact bls_of (x := (d, p)) hf hlt

/-- An act as it reads. -/
structure OpZ where
  kind : Int
  i : Int
  at_ : Int
  torn : Int
  mask : Int
  b : List Int
  keep : List Bool
deriving Inhabited
structure OpW (x : OpZ) : Prop where
  kind : okI x.kind
  i : okI x.i
  at_ : okI x.at_
  torn : okI x.torn
  mask : 0 ≤ x.mask ∧ x.mask ≤ 255
def opV (x : OpZ) (ab : Option Addr) (cb : Nat) (ak : Option Addr) (ck : Nat) : List Value := [.int .i64 x.kind, .int .i64 x.i, .int .i64 x.at_, .int .i64 x.torn, .int .u8 x.mask, .slice ab x.b.length cb, .slice ak x.keep.length ck]
structure OpR (w : World) (x : OpZ) (ab : Option Addr) (cb : Nat) (ak : Option Addr) (ck : Nat) : Prop where
  wf : OpW x
  b : Ri w .u8 ab cb x.b
  keep : Bls w ak ck x.keep
theorem OpR.later {w w' : World} {x : OpZ} {ab ak : Option Addr} {cb ck : Nat} (h : OpR w x ab cb ak ck) (hb : Below w.heap.size w w') : OpR w' x ab cb ak ck := ⟨h.wf, h.b.later hb, h.keep.later hb⟩
set_option maxRecDepth 100000 in
open Go.ChangeShapes Go.WideShapes Go.ChangeAt in
theorem op_of {H : Type} {enc : TypeId × Value → H} {W : World} {fuel : Nat} {cs : List Value} {x : DataW H × List MemPlace} (hl : cs.length = 7) (hf : DataW.trod enc Try.prog W 0 (fun _ => true) true fuel 36 cs = some x) (hlt : ∀ y ∈ x.2, y.block < W.heap.size) :
    ∃ z ab cb ak ck, cs = opV z ab cb ak ck ∧ OpR W z ab cb ak ck := by
  obtain ⟨xs, k, hk, hxy, _, hxl, hf⟩ := DataW.trod_struct Try.underlying36 hf
  match xs, hxl, cs, hl with
  | [y0, y1, y2, y3, y4, y5, y6], _, [v0, v1, v2, v3, v4, v5, v6], _ =>
    subst hxy
    have g0 : DataW.trod enc Try.prog W 0 (fun _ => true) true k 3 (List.take (Try.prog.cellsOf 3) (List.drop 0 [v0, v1, v2, v3, v4, v5, v6])) = some y0 := hf 0 _ rfl
    have g1 : DataW.trod enc Try.prog W 0 (fun _ => true) true k 3 (List.take (Try.prog.cellsOf 3) (List.drop 1 [v0, v1, v2, v3, v4, v5, v6])) = some y1 := hf 1 _ rfl
    have g2 : DataW.trod enc Try.prog W 0 (fun _ => true) true k 3 (List.take (Try.prog.cellsOf 3) (List.drop 2 [v0, v1, v2, v3, v4, v5, v6])) = some y2 := hf 2 _ rfl
    have g3 : DataW.trod enc Try.prog W 0 (fun _ => true) true k 3 (List.take (Try.prog.cellsOf 3) (List.drop 3 [v0, v1, v2, v3, v4, v5, v6])) = some y3 := hf 3 _ rfl
    have g4 : DataW.trod enc Try.prog W 0 (fun _ => true) true k 5 (List.take (Try.prog.cellsOf 5) (List.drop 4 [v0, v1, v2, v3, v4, v5, v6])) = some y4 := hf 4 _ rfl
    have g5 : DataW.trod enc Try.prog W 0 (fun _ => true) true k 33 (List.take (Try.prog.cellsOf 33) (List.drop 5 [v0, v1, v2, v3, v4, v5, v6])) = some y5 := hf 5 _ rfl
    have g6 : DataW.trod enc Try.prog W 0 (fun _ => true) true k 34 (List.take (Try.prog.cellsOf 34) (List.drop 6 [v0, v1, v2, v3, v4, v5, v6])) = some y6 := hf 6 _ rfl
    rw [Try.cells3] at g0 g1 g2 g3
    rw [Try.cells5] at g4
    rw [Try.cells33] at g5
    rw [Try.cells34] at g6
    obtain ⟨z0, e0, _, f0⟩ := DataW.trod_int Try.underlying3 g0
    obtain ⟨z1, e1, _, f1⟩ := DataW.trod_int Try.underlying3 g1
    obtain ⟨z2, e2, _, f2⟩ := DataW.trod_int Try.underlying3 g2
    obtain ⟨z3, e3, _, f3⟩ := DataW.trod_int Try.underlying3 g3
    obtain ⟨z4, e4, _, f4⟩ := DataW.trod_int Try.underlying5 g4
    obtain ⟨ab, cb, zb, e5, hb⟩ := ri_of (v := v5) g5 (fun y hy => hlt y (by simp [hy]))
    obtain ⟨ak, ck, zk, e6, hk⟩ := bls_of (v := v6) g6 (fun y hy => hlt y (by simp [hy]))
    have e0' : v0 = .int .i64 z0 := by simpa using e0
    have e1' : v1 = .int .i64 z1 := by simpa using e1
    have e2' : v2 = .int .i64 z2 := by simpa using e2
    have e3' : v3 = .int .i64 z3 := by simpa using e3
    have e4' : v4 = .int .u8 z4 := by simpa using e4
    subst e0' e1' e2' e3' e4' e5 e6
    exact ⟨⟨z0, z1, z2, z3, z4, zb, zk⟩, ab, cb, ak, ck, rfl, ⟨f0, f1, f2, f3, wf_u8 f4⟩, hb, hk⟩
open Go.ChangeShapes Go.WideShapes Go.ChangeAt in
theorem open_op {H : Type} {enc : TypeId × Value → H} {W : World} {base : Nat} {v : Value} {d : DataW H} {p : List MemPlace} (hv : Value.okWide Try.prog W .any base 36 v)
    (h : DataW.Trod enc Try.prog W 0 (fun _ => true) true 36 v d p) (hlt : ∀ x ∈ p, x.block < W.heap.size) : ∃ z ab cb ak ck, v = .agg (opV z ab cb ak ck).toArray ∧ OpR W z ab cb ak ck := by
  obtain ⟨cs, rfl, hsz⟩ := okWide_struct Try.underlying36 hv
  obtain ⟨fuel, hf⟩ := h
  obtain ⟨z, ab, cb, ak, ck, e, hr⟩ := op_of (x := (d, p)) (by simpa [Value.cells] using hsz.trans Try.cells36) hf hlt
  refine ⟨z, ab, cb, ak, ck, ?_, hr⟩
  rw [← e]
  rfl
/-- A row of acts. -/
structure Ro (w : World) (a : Option Addr) (cap : Nat) (l : List OpZ) : Prop where
  room : l.length ≤ cap
  most : cap ≤ maxLen
  cells : 0 < l.length → ∃ b off, a = some ⟨b, off, none⟩ ∧ b < w.heap.size ∧ ∀ j, j < l.length → ∃ ab cb ak ck, w.rangeAt b (off + j * 7) (opV (l.getD j default) ab cb ak ck) ∧ OpR w (l.getD j default) ab cb ak ck
set_option maxRecDepth 100000 in
open Go.ChangeShapes Go.WideShapes Go.ChangeAt in
theorem open_ro {H : Type} {enc : TypeId × Value → H} {W : World} {base : Nat} {v : Value} {d : DataW H} {p : List MemPlace} (hv : Value.okWide Try.prog W .any base 22 v)
    (h : DataW.Trod enc Try.prog W 0 (fun _ => true) true 22 v d p) (hlt : ∀ x ∈ p, x.block < W.heap.size) : ∃ a cap l, v = .slice a (l : List OpZ).length cap ∧ Ro W a cap l := by
  obtain ⟨a0, len, cap, rfl⟩ := okWide_slice Try.underlying22 hv
  obtain ⟨fuel, hf⟩ := h
  rcases Go.Deep.open_slice Try.underlying22 hf with ⟨hcs, hx⟩ | ⟨a, len', cap', m, n, D, Pl, hcs, _, hl, hm, hmm, hx, hel⟩
  · simp [Value.cells] at hcs
    obtain ⟨rfl, rfl, rfl⟩ := hcs
    exact ⟨none, 0, [], rfl, Nat.le_refl _, by unfold maxLen; omega, fun h => absurd h (by simp)⟩
  · simp [Value.cells] at hcs
    obtain ⟨rfl, rfl, rfl⟩ := hcs
    rw [if_pos rfl] at hmm
    subst hmm
    rw [Try.cells36] at hel
    have hp : p = MemPlace.row a (m * Try.prog.cellsOf 36) ++ (List.range m).flatMap Pl := congrArg Prod.snd hx
    have key : ∀ j, j < len → ∃ z : OpZ, ∃ ab cb ak ck, (∀ i u, (opV z ab cb ak ck)[i]? = some u → W.cell? ((a.add (j * 7)).add i) = some u) ∧ OpR W z ab cb ak ck := by
      intro j hj
      obtain ⟨cs', h1, h2⟩ := hel j (by omega)
      obtain ⟨_, hcl, hcc⟩ := World.cells?_some h1
      obtain ⟨z, ab, cb, ak, ck, e, hr⟩ := op_of (x := (D j, Pl j)) hcl h2 (fun y hy => hlt y (by rw [hp, List.mem_append]; exact Or.inr (List.mem_flatMap.2 ⟨j, List.mem_range.2 (by omega), hy⟩)))
      subst e
      refine ⟨z, ab, cb, ak, ck, fun i u hu => ?_, hr⟩
      have hi : i < (opV z ab cb ak ck).length := (List.getElem?_eq_some_iff.1 hu).1
      have h3 := hcc i hi
      rw [h3, ← hu, List.getElem?_eq_getElem hi]
    obtain ⟨Y, hY⟩ := Go.Deep.choose_lt key
    have hlen : ((List.range len).map Y).length = len := by simp
    have hgd : ∀ j, j < len → ((List.range len).map Y).getD j default = Y j := fun j hj => by simp [List.getD, hj]
    refine ⟨some a, m, (List.range len).map Y, by rw [hlen], by rw [hlen]; exact hl, hm, fun h0 => ?_⟩
    rw [hlen] at h0
    obtain ⟨b, off, spot⟩ := a
    obtain ⟨ab, cb, ak, ck, hc0, _⟩ := hY 0 h0
    have hspot : spot = none := by
      have := World.cell?_spot (hc0 0 _ rfl)
      simpa [Addr.add] using this
    subst hspot
    have hbW : b < W.heap.size := hlt (.cell b off) (by
      rw [hp, List.mem_append]
      refine Or.inl (MemPlace.mem_row.2 ⟨0, ?_, by simp⟩)
      rw [Try.cells36]; omega)
    refine ⟨b, off, rfl, hbW, fun j hj => ?_⟩
    rw [hlen] at hj
    rw [hgd j hj]
    obtain ⟨ab, cb, ak, ck, c, r⟩ := hY j hj
    refine ⟨ab, cb, ak, ck, fun i u hu => ?_, r⟩
    have h3 := c i u hu
    rw [add_plain, add_plain] at h3
    exact h3
end Go.Proofs.Ytldgiimkkgmgaaa
/-
  What an act does to a device; the errors of the document's Rot.
-/
namespace Go.Proofs.Ytldgiimkkgmgaaa
open Go.RowKit

def rotB (x : OpZ) (n : Int) : Prop := (0 ≤ x.i ∧ x.i < n) ∧ (0 ≤ x.at_ ∧ x.at_ < 512)
instance (x : OpZ) (n : Int) : Decidable (rotB x n) := by unfold rotB; infer_instance
def stL (x : OpZ) (n f : Int) (L : Int → List Int) (O : List (Int × List Int)) : Int → List Int :=
  if x.kind = 3 then syL f L O else if x.kind = 4 then loseF L O x.keep x.torn x.at_ O.length else if x.kind = 5 then (if rotB x n then setI L x.i (xorL x.at_.toNat x.mask (L x.i)) else L) else L
def stO (x : OpZ) (n f : Int) (O : List (Int × List Int)) : List (Int × List Int) :=
  if x.kind = 1 then wrO n f x.i O (x.b.take 600) else if x.kind = 3 then syO f O else if x.kind = 4 then [] else if x.kind = 5 then (if rotB x n then rotO x.i x.at_.toNat x.mask O else O) else O
def stF (x : OpZ) (n f : Int) : Int :=
  if x.kind = 1 then wrF n f x.i (x.b.take 600).length else if x.kind = 3 then burnF f else if x.kind = 4 then -1 else if x.kind = 6 then max x.i (-1) else f
/-- What acts leave as it was. -/
structure Fb (base : Nat) (w w' : World) : Prop where
  bel : Below base w w'
  typ : ∀ (i : Nat) (cs : Array Value) (t : TypeId) (fr : Nat × Nat), t ≠ 79 → t ≠ 83 → t ≠ 62 → t ≠ 33 → t ≠ 87 → w.heap[i]? = some (.cells cs t fr) → w'.heap[i]? = some (.cells cs t fr)
theorem Fb.trans {base : Nat} {a b c : World} (h : Fb base a b) (k : Fb base b c) : Fb base a c := ⟨h.bel.trans k.bel, fun i cs t fr h1 h2 h3 h4 h5 h6 => k.typ i cs t fr h1 h2 h3 h4 h5 (h.typ i cs t fr h1 h2 h3 h4 h5 h6)⟩
theorem Fb.refl (base : Nat) (w : World) : Fb base w w := ⟨Below.refl _ _, fun _ _ _ _ _ _ _ _ _ h => h⟩
theorem Fb.drew {base : Nat} {w w' : World} (h : Fb base w w') : Fb base w w'.drew := ⟨h.bel.drew, h.typ⟩
theorem Fb.below {base : Nat} {w w' : World} (h : Below w.heap.size w w') (hb : base ≤ w.heap.size) : Fb base w w' := ⟨h.mono hb, fun i _ _ _ _ _ _ _ _ hi => (h.block i (Array.getElem?_eq_some_iff.1 hi).1).trans hi⟩
theorem Fr.fb {base : Nat} {w w' : World} (h : Fr base w w') : Fb base w w' := ⟨h.bel, fun i cs t fr h1 h2 _ _ _ h6 => h.typ i cs t fr h1 h2 h6⟩
theorem FrD.fb {base : Nat} {w w' : World} (h : FrD base w w') : Fb base w w' := ⟨h.bel, fun _ _ _ _ _ _ h3 h4 h5 h6 => h.cells h6 ⟨h3, h4, h5⟩⟩
def AcPost (base N n : Nat) (L1 : Int → List Int) (O1 : List (Int × List Int)) (L2 : Int → List Int) (O2 : List (Int × List Int)) (f : Int) (x : OpZ) (w : World) (e : Ending) (w' : World) : Prop :=
  ∃ gd gv gl gn v gr vL vW b, e = .returned (.tuple #[.pointer (some ⟨gd, 0, none⟩), .pointer (some ⟨gr, 0, none⟩), .bool b]) ∧ Dv w' base gd gv gl gn v (N + O1.length + 1) (n : Int) (stL x n f L1 O1) (stO x n f O1) (stF x n f) ∧ Rv w' base gr vL vW n (stL x n f L2 O2) (stO x n f O2) (stF x n f) ∧ (L1 = L2 → O1 = O2 → b = true) ∧ Fb base w w'
set_option maxHeartbeats 6400000 in
set_option maxRecDepth 100000 in
theorem rrot_range (base gr n : Nat) (vL vW : Value) (L : Int → List Int) (O : List (Int × List Int)) (f i at_ mk : Int) (w : World) (k : Rv w base gr vL vW n L O f) (hi : ¬ (0 ≤ i ∧ i < (n : Int))) :
    Calls Try.prog 29 #[.pointer (some ⟨gr, 0, none⟩), .int .i64 i, .int .i64 at_, .int .u8 mk] w fun e w' => e = .returned (.int .i64 5) ∧ w' = w := by
  have HA := hid (asked_ref base gr n vL vW L O f i w k)
  rw [show hasE (n : Int) i = 5 from if_neg hi] at HA
  clear k hi
  go_enter Try.func29, Try.ntmps29
  go_wp2_with fail
  refine HA.out.mono ?_
  rintro _ w1 ⟨rfl, hw⟩
  obtain rfl := hw.symm
  clear hw HA
  go_wp2_with fail
  go_ret
  exact ⟨rfl, rfl⟩
set_option maxHeartbeats 6400000 in
set_option maxRecDepth 100000 in
theorem rrot_at (base gr n : Nat) (vL vW : Value) (L : Int → List Int) (O : List (Int × List Int)) (f i at_ mk : Int) (w : World) (k : Rv w base gr vL vW n L O f) (hi : 0 ≤ i ∧ i < (n : Int)) (ha : ¬ (0 ≤ at_ ∧ at_ < 512)) :
    Calls Try.prog 29 #[.pointer (some ⟨gr, 0, none⟩), .int .i64 i, .int .i64 at_, .int .u8 mk] w fun e w' => e = .returned (.int .i64 5) ∧ w' = w := by
  have HA := hid (asked_ref base gr n vL vW L O f i w k)
  rw [show hasE (n : Int) i = 0 from if_pos hi] at HA
  clear k hi
  go_enter Try.func29, Try.ntmps29
  go_wp2_with fail
  refine HA.out.mono ?_
  rintro _ w1 ⟨rfl, hw⟩
  obtain rfl := hw.symm
  clear hw HA
  by_cases h0 : at_ < 0
  · clear ha
    go_wp2_with fail
    go_ret
    exact ⟨rfl, rfl⟩
  · have h9 : 512 ≤ at_ := by omega
    clear ha
    go_wp2_with fail
    go_ret
    exact ⟨rfl, rfl⟩
end Go.Proofs.Ytldgiimkkgmgaaa
/-
  An act of the law's script: kind 0.
-/
namespace Go.Proofs.Ytldgiimkkgmgaaa
open Go.RowKit

set_option maxHeartbeats 6400000 in
set_option maxRecDepth 100000 in
theorem ac0 (W0 w : World) (base gd gv gl gn N : Nat) (v : Value) (n : Nat) (L1 : Int → List Int) (O1 : List (Int × List Int)) (f : Int) (gr : Nat) (vL vW : Value) (L2 : Int → List Int) (O2 : List (Int × List Int)) (x : OpZ) (ab : Option Addr) (cb : Nat) (ak : Option Addr) (ck : Nat) (h0 : W0.heap.size = base) (hb : Below base W0 w) (hx : OpR W0 x ab cb ak ck) (kd : Dv w base gd gv gl gn v N (n : Int) L1 O1 f) (kr : Rv w base gr vL vW n L2 O2 f) (hN : N + O1.length + 1 ≤ 1000000) (h1 : O1.length ≤ 60000) (h2 : O2.length ≤ 60000) (hk : x.kind ≠ 1 ∧ x.kind ≠ 2 ∧ x.kind ≠ 3 ∧ x.kind ≠ 4 ∧ x.kind ≠ 5 ∧ x.kind ≠ 6) :
    Calls Try.prog 11 #[.pointer (some ⟨gd, 0, none⟩), .pointer (some ⟨gr, 0, none⟩), .agg (opV x ab cb ak ck).toArray] w (AcPost base N n L1 O1 L2 O2 f x w) := by
  have HO : Hid (N + O1.length + 1 ≤ 1000000 ∧ O1.length ≤ 60000 ∧ O2.length ≤ 60000) := ⟨hN, h1, h2⟩
  clear hN h1 h2
  obtain ⟨kind, i, at_, torn, mask, b, keep⟩ := x
  obtain ⟨⟨ok1, ok2, ok3, ok4, ok5⟩, hB, hKp⟩ := hx
  simp only [] at hk ok1 ok2 ok3 ok4 ok5 hB hKp
  unfold opV
  simp only []
  obtain ⟨k1, k2, k3, k4, k5, k6⟩ := hk
  have HX : Hid (W0.heap.size = base) := h0
  have HD := hid kd
  have HR := hid kr
  have HBB := hid hB
  have HKP := hid hKp
  have HBW := hid hb
  have hbz := kd.size
  have HOK : Hid (okI i ∧ okI at_ ∧ okI torn ∧ (0 ≤ mask ∧ mask ≤ 255)) := ⟨ok2, ok3, ok4, ok5⟩
  clear h0 kd kr hB hKp hb ok2 ok3 ok4 ok5
  obtain ⟨nb, hnb⟩ : ∃ m, m = b.length := ⟨_, rfl⟩
  obtain ⟨nk, hnk⟩ : ∃ m, m = keep.length := ⟨_, rfl⟩
  have HNB := hid hnb
  have HNK := hid hnk
  rw [← hnb, ← hnk]
  clear hnb hnk
  have HCUT : Hid (∀ W, Below base W0 W → Calls Try.prog 16 #[.slice ab nb cb] W (fun e w' => e = .returned (.slice ab (b.take 600).length cb) ∧ w' = W)) := fun W hW => by
    have h9 := cut_any ab cb b W (HBB.out.later (by rw [HX.out]; exact hW))
    rw [← HNB.out] at h9
    exact h9
  have HTK : Hid (Ri W0 .u8 ab cb (b.take 600)) := HBB.out.take 600
  obtain ⟨bt, hbt⟩ : ∃ l, l = b.take 600 := ⟨_, rfl⟩
  have HBT := hid hbt
  rw [← hbt] at HCUT HTK
  clear hbt
  obtain ⟨nt, hnt⟩ : ∃ m, m = bt.length := ⟨_, rfl⟩
  have HNT := hid hnt
  rw [← hnt] at HCUT
  clear hnt
  go_enter Try.func11, Try.ntmps11
  go_wp2_with fail
  have HA : Hid (Below w.heap.size w (w.alloc (.cells #[.int .i64 kind, .int .i64 i, .int .i64 at_, .int .i64 torn, .int .u8 mask, .slice ab nb cb, .slice ak nk ck] 36))) := bel_alloc w _
  have HG : Hid ((w.alloc (.cells #[.int .i64 kind, .int .i64 i, .int .i64 at_, .int .i64 torn, .int .u8 mask, .slice ab nb cb, .slice ak nk ck] 36)).heap[w.heap.size]? = some (.cells #[.int .i64 kind, .int .i64 i, .int .i64 at_, .int .i64 torn, .int .u8 mask, .slice ab nb cb, .slice ak nk ck] 36 (0, 0))) := heap_new w _
  refine (HCUT.out _ (HBW.out.trans (HA.out.mono hbz))).mono ?_
  rintro _ w1 ⟨rfl, hw⟩
  obtain rfl := hw
  have hg := HG.out
  have HA1 : Hid (Below w.heap.size w ((w.alloc (.cells #[.int .i64 kind, .int .i64 i, .int .i64 at_, .int .i64 torn, .int .u8 mask, .slice ab nb cb, .slice ak nk ck] 36)).setCell ⟨w.heap.size, 5, none⟩ (.slice ab nt cb))) := HA.out.setCell (Nat.le_refl _) _
  have hset : ((w.alloc (.cells #[.int .i64 kind, .int .i64 i, .int .i64 at_, .int .i64 torn, .int .u8 mask, .slice ab nb cb, .slice ak nk ck] 36)).setCell ⟨w.heap.size, 5, none⟩ (.slice ab nt cb)).heap[w.heap.size]? = some (.cells #[.int .i64 kind, .int .i64 i, .int .i64 at_, .int .i64 torn, .int .u8 mask, .slice ab nt cb, .slice ak nk ck] 36 (0, 0)) := by
    rw [Joins.block_setCell HG.out _]
    simp
  have HFB := hid (Fb.below HA1.out hbz)
  have HD1 := hid (HD.out.below HA1.out)
  have HR1 := hid (HR.out.below HA1.out)
  have HW1 := hid (HBW.out.trans (HA1.out.mono hbz))
  clear HA HA1 HG HD HR HBW HCUT
  generalize w.alloc (.cells #[.int .i64 kind, .int .i64 i, .int .i64 at_, .int .i64 torn, .int .u8 mask, .slice ab nb cb, .slice ak nk ck] 36) = v0 at *
  generalize w.heap.size = g0 at *
  have c0 := Joins.cell_of_block hg 0
  have c1 := Joins.cell_of_block hg 1
  have c5 := Joins.cell_of_block hg 5
  have hu := Joins.unfrozen_of_block hg 5
  have x0 := Joins.cell_of_block hset 0
  have x1 := Joins.cell_of_block hset 1
  have x2 := Joins.cell_of_block hset 2
  have x3 := Joins.cell_of_block hset 3
  have x4 := Joins.cell_of_block hset 4
  have x5 := Joins.cell_of_block hset 5
  have x6 := Joins.cell_of_block hset 6
  have HS := hid hset
  clear hg hset
  go_wp2_with fail
  go_ret3
  unfold AcPost
  refine ⟨gd, gv, gl, gn, v, gr, vL, vW, true, rfl, ?_, ?_, fun _ _ => rfl, HFB.out⟩
  · have := HD1.out.mono (show N ≤ N + O1.length + 1 by omega)
    simpa [stL, stO, stF, k1, k2, k3, k4, k5, k6] using this
  · simpa [stL, stO, stF, k1, k2, k3, k4, k5, k6] using HR1.out
end Go.Proofs.Ytldgiimkkgmgaaa
/-
  An act of the law's script: kind 1.
-/
namespace Go.Proofs.Ytldgiimkkgmgaaa
open Go.RowKit

set_option maxHeartbeats 6400000 in
set_option maxRecDepth 100000 in
theorem ac1 (W0 w : World) (base gd gv gl gn N : Nat) (v : Value) (n : Nat) (L1 : Int → List Int) (O1 : List (Int × List Int)) (f : Int) (gr : Nat) (vL vW : Value) (L2 : Int → List Int) (O2 : List (Int × List Int)) (x : OpZ) (ab : Option Addr) (cb : Nat) (ak : Option Addr) (ck : Nat) (h0 : W0.heap.size = base) (hb : Below base W0 w) (hx : OpR W0 x ab cb ak ck) (kd : Dv w base gd gv gl gn v N (n : Int) L1 O1 f) (kr : Rv w base gr vL vW n L2 O2 f) (hN : N + O1.length + 1 ≤ 1000000) (h1 : O1.length ≤ 60000) (h2 : O2.length ≤ 60000) (hk : x.kind = 1) :
    Calls Try.prog 11 #[.pointer (some ⟨gd, 0, none⟩), .pointer (some ⟨gr, 0, none⟩), .agg (opV x ab cb ak ck).toArray] w (AcPost base N n L1 O1 L2 O2 f x w) := by
  have HO : Hid (N + O1.length + 1 ≤ 1000000 ∧ O1.length ≤ 60000 ∧ O2.length ≤ 60000) := ⟨hN, h1, h2⟩
  clear hN h1 h2
  obtain ⟨kind, i, at_, torn, mask, b, keep⟩ := x
  obtain ⟨⟨ok1, ok2, ok3, ok4, ok5⟩, hB, hKp⟩ := hx
  simp only [] at hk ok1 ok2 ok3 ok4 ok5 hB hKp
  unfold opV
  simp only []
  subst hk
  have HX : Hid (W0.heap.size = base) := h0
  have HD := hid kd
  have HR := hid kr
  have HBB := hid hB
  have HKP := hid hKp
  have HBW := hid hb
  have hbz := kd.size
  have HOK : Hid (okI i ∧ okI at_ ∧ okI torn ∧ (0 ≤ mask ∧ mask ≤ 255)) := ⟨ok2, ok3, ok4, ok5⟩
  clear h0 kd kr hB hKp hb ok2 ok3 ok4 ok5
  obtain ⟨nb, hnb⟩ : ∃ m, m = b.length := ⟨_, rfl⟩
  obtain ⟨nk, hnk⟩ : ∃ m, m = keep.length := ⟨_, rfl⟩
  have HNB := hid hnb
  have HNK := hid hnk
  rw [← hnb, ← hnk]
  clear hnb hnk
  have HCUT : Hid (∀ W, Below base W0 W → Calls Try.prog 16 #[.slice ab nb cb] W (fun e w' => e = .returned (.slice ab (b.take 600).length cb) ∧ w' = W)) := fun W hW => by
    have h9 := cut_any ab cb b W (HBB.out.later (by rw [HX.out]; exact hW))
    rw [← HNB.out] at h9
    exact h9
  have HTK : Hid (Ri W0 .u8 ab cb (b.take 600)) := HBB.out.take 600
  obtain ⟨bt, hbt⟩ : ∃ l, l = b.take 600 := ⟨_, rfl⟩
  have HBT := hid hbt
  rw [← hbt] at HCUT HTK
  clear hbt
  obtain ⟨nt, hnt⟩ : ∃ m, m = bt.length := ⟨_, rfl⟩
  have HNT := hid hnt
  rw [← hnt] at HCUT
  clear hnt
  go_enter Try.func11, Try.ntmps11
  go_wp2_with fail
  have HA : Hid (Below w.heap.size w (w.alloc (.cells #[.int .i64 1, .int .i64 i, .int .i64 at_, .int .i64 torn, .int .u8 mask, .slice ab nb cb, .slice ak nk ck] 36))) := bel_alloc w _
  have HG : Hid ((w.alloc (.cells #[.int .i64 1, .int .i64 i, .int .i64 at_, .int .i64 torn, .int .u8 mask, .slice ab nb cb, .slice ak nk ck] 36)).heap[w.heap.size]? = some (.cells #[.int .i64 1, .int .i64 i, .int .i64 at_, .int .i64 torn, .int .u8 mask, .slice ab nb cb, .slice ak nk ck] 36 (0, 0))) := heap_new w _
  refine (HCUT.out _ (HBW.out.trans (HA.out.mono hbz))).mono ?_
  rintro _ w1 ⟨rfl, hw⟩
  obtain rfl := hw
  have hg := HG.out
  have HA1 : Hid (Below w.heap.size w ((w.alloc (.cells #[.int .i64 1, .int .i64 i, .int .i64 at_, .int .i64 torn, .int .u8 mask, .slice ab nb cb, .slice ak nk ck] 36)).setCell ⟨w.heap.size, 5, none⟩ (.slice ab nt cb))) := HA.out.setCell (Nat.le_refl _) _
  have hset : ((w.alloc (.cells #[.int .i64 1, .int .i64 i, .int .i64 at_, .int .i64 torn, .int .u8 mask, .slice ab nb cb, .slice ak nk ck] 36)).setCell ⟨w.heap.size, 5, none⟩ (.slice ab nt cb)).heap[w.heap.size]? = some (.cells #[.int .i64 1, .int .i64 i, .int .i64 at_, .int .i64 torn, .int .u8 mask, .slice ab nt cb, .slice ak nk ck] 36 (0, 0)) := by
    rw [Joins.block_setCell HG.out _]
    simp
  have HFB := hid (Fb.below HA1.out hbz)
  have HD1 := hid (HD.out.below HA1.out)
  have HR1 := hid (HR.out.below HA1.out)
  have HW1 := hid (HBW.out.trans (HA1.out.mono hbz))
  clear HA HA1 HG HD HR HBW HCUT
  generalize w.alloc (.cells #[.int .i64 1, .int .i64 i, .int .i64 at_, .int .i64 torn, .int .u8 mask, .slice ab nb cb, .slice ak nk ck] 36) = v0 at *
  generalize w.heap.size = g0 at *
  have c0 := Joins.cell_of_block hg 0
  have c1 := Joins.cell_of_block hg 1
  have c5 := Joins.cell_of_block hg 5
  have hu := Joins.unfrozen_of_block hg 5
  have x0 := Joins.cell_of_block hset 0
  have x1 := Joins.cell_of_block hset 1
  have x2 := Joins.cell_of_block hset 2
  have x3 := Joins.cell_of_block hset 3
  have x4 := Joins.cell_of_block hset 4
  have x5 := Joins.cell_of_block hset 5
  have x6 := Joins.cell_of_block hset 6
  have HS := hid hset
  clear hg hset
  go_wp2_with fail
  refine wp_region_held_drew (S := fun W => W.heap[g0]? = some (.cells #[.int .i64 1, .int .i64 i, .int .i64 at_, .int .i64 torn, .int .u8 mask, .slice ab nt cb, .slice ak nk ck] 36 (0, 0))) (by kernel_rfl) (show (v0.setCell ⟨g0, 5, none⟩ (.slice ab nt cb)).drew.heap[g0]? = _ from HS.out) (fun hS0 => ?_)
  have HD2 : Hid (Dv (v0.setCell ⟨g0, 5, none⟩ (.slice ab nt cb)).drew base gd gv gl gn v N (n : Int) L1 O1 f) := HD1.out.later (fun _ _ => rfl)
  have HR2 : Hid (Rv (v0.setCell ⟨g0, 5, none⟩ (.slice ab nt cb)).drew base gr vL vW n L2 O2 f) := HR1.out.keep (fun _ _ _ _ _ _ h => h)
  have HF2 := hid HFB.out.drew
  have HW2 := hid HW1.out.drew
  clear HD1 HR1 HFB HW1 HS x0 x1 x2 x3 x4 x5 x6 c0 c1 c5 hu
  generalize (v0.setCell ⟨g0, 5, none⟩ (.slice ab nt cb)).drew = v1 at *
  refine Ord.take (i := 0) (d := 31) (v := ?vk10) rfl rfl (by as_aux_lemma => kernel_rfl) (by as_aux_lemma => kernel_rfl) (by as_aux_lemma => kernel_rfl) (fun _ _ _ h => h) (by rfl) ?hk10 (by assumption) ?_
  case hk10 => intro w hSw; go_simp; try with_reducible rfl
  simp only [List.setIfInBounds_toArray, List.set_cons_zero, List.set_cons_succ]
  refine Ord.take (i := 1) (d := 32) (v := ?vk11) rfl rfl (by as_aux_lemma => kernel_rfl) (by as_aux_lemma => kernel_rfl) (by as_aux_lemma => kernel_rfl) (fun _ _ _ h => h) (by rfl) ?hk11 (by assumption) ?_
  case hk11 => intro w hSw; go_simp; try with_reducible rfl
  simp only [List.setIfInBounds_toArray, List.set_cons_zero, List.set_cons_succ]
  refine Ord.take (i := 2) (d := 33) (v := ?vk12) rfl rfl (by as_aux_lemma => kernel_rfl) (by as_aux_lemma => kernel_rfl) (by as_aux_lemma => kernel_rfl) (fun _ _ _ h => h) (by rfl) ?hk12 (by assumption) ?_
  case hk12 => intro w hSw; go_simp; try with_reducible rfl
  simp only [List.setIfInBounds_toArray, List.set_cons_zero, List.set_cons_succ]
  refine Ord.take (i := 3) (d := 34) (v := ?vk13) rfl rfl (by as_aux_lemma => kernel_rfl) (by as_aux_lemma => kernel_rfl) (by as_aux_lemma => kernel_rfl) (fun _ _ _ h => h) (by rfl) ?hk13 (by assumption) ?_
  case hk13 => intro w hSw; go_simp; try with_reducible rfl
  simp only [List.setIfInBounds_toArray, List.set_cons_zero, List.set_cons_succ]
  refine Ord.take (i := 4) (d := 35) (v := ?vk14) rfl rfl (by as_aux_lemma => kernel_rfl) (by as_aux_lemma => kernel_rfl) (by as_aux_lemma => kernel_rfl) (fun _ _ _ h => h) (by rfl) ?hk14 (by assumption) ?_
  case hk14 => intro w hSw; have q9 := Joins.cell_of_block hSw 1; go_simp; try with_reducible rfl
  simp only [List.setIfInBounds_toArray, List.set_cons_zero, List.set_cons_succ]
  refine Ord.take (i := 5) (d := 36) (v := ?vk15) rfl rfl (by as_aux_lemma => kernel_rfl) (by as_aux_lemma => kernel_rfl) (by as_aux_lemma => kernel_rfl) (fun _ _ _ h => h) (by rfl) ?hk15 (by assumption) ?_
  case hk15 => intro w hSw; go_simp; try with_reducible rfl
  simp only [List.setIfInBounds_toArray, List.set_cons_zero, List.set_cons_succ]
  refine Ord.take (i := 6) (d := 37) (v := ?vk16) rfl rfl (by as_aux_lemma => kernel_rfl) (by as_aux_lemma => kernel_rfl) (by as_aux_lemma => kernel_rfl) (fun _ _ _ h => h) (by rfl) ?hk16 (by assumption) ?_
  case hk16 => intro w hSw; have q9 := Joins.cell_of_block hSw 5; go_simp; try with_reducible rfl
  simp only [List.setIfInBounds_toArray, List.set_cons_zero, List.set_cons_succ]
  refine Ord.take (i := 8) (d := 39) (v := ?vk18) rfl rfl (by as_aux_lemma => kernel_rfl) (by as_aux_lemma => kernel_rfl) (by as_aux_lemma => kernel_rfl) (fun _ _ _ h => h) (by rfl) ?hk18 (by assumption) ?_
  case hk18 => intro w hSw; go_simp; try with_reducible rfl
  simp only [List.setIfInBounds_toArray, List.set_cons_zero, List.set_cons_succ]
  refine Ord.take (i := 9) (d := 40) (v := ?vk19) rfl rfl (by as_aux_lemma => kernel_rfl) (by as_aux_lemma => kernel_rfl) (by as_aux_lemma => kernel_rfl) (fun _ _ _ h => h) (by rfl) ?hk19 (by assumption) ?_
  case hk19 => intro w hSw; go_simp; try with_reducible rfl
  simp only [List.setIfInBounds_toArray, List.set_cons_zero, List.set_cons_succ]
  refine Ord.take (i := 10) (d := 41) (v := ?vk110) rfl rfl (by as_aux_lemma => kernel_rfl) (by as_aux_lemma => kernel_rfl) (by as_aux_lemma => kernel_rfl) (fun _ _ _ h => h) (by rfl) ?hk110 (by assumption) ?_
  case hk110 => intro w hSw; have q9 := Joins.cell_of_block hSw 1; go_simp; try with_reducible rfl
  simp only [List.setIfInBounds_toArray, List.set_cons_zero, List.set_cons_succ]
  refine Ord.take (i := 11) (d := 42) (v := ?vk111) rfl rfl (by as_aux_lemma => kernel_rfl) (by as_aux_lemma => kernel_rfl) (by as_aux_lemma => kernel_rfl) (fun _ _ _ h => h) (by rfl) ?hk111 (by assumption) ?_
  case hk111 => intro w hSw; go_simp; try with_reducible rfl
  simp only [List.setIfInBounds_toArray, List.set_cons_zero, List.set_cons_succ]
  refine Ord.take (i := 12) (d := 43) (v := ?vk112) rfl rfl (by as_aux_lemma => kernel_rfl) (by as_aux_lemma => kernel_rfl) (by as_aux_lemma => kernel_rfl) (fun _ _ _ h => h) (by rfl) ?hk112 (by assumption) ?_
  case hk112 => intro w hSw; have q9 := Joins.cell_of_block hSw 5; go_simp; try with_reducible rfl
  simp only [List.setIfInBounds_toArray, List.set_cons_zero, List.set_cons_succ]
  refine wpAnyH_ready (rs := [7]) (by as_aux_lemma => kernel_rfl) (by simp) (AllReadyH.cons rfl (fun KK hK => ?_) AllReadyH.nil)
  go_simp
  obtain ⟨o1, o2, o3⟩ := HO.out
  have HWR := write_ok base gd gv gl gn N v n L1 O1 f i ab cb bt v1 HD2.out (Rx.low HTK.out HX.out HW2.out) (by omega) o2
  rw [← HNT.out] at HWR
  refine HWR.mono ?_
  rintro _ w2 ⟨rfl, ⟨v2, hd2⟩, hf2⟩
  have hS2 := hf2.typ g0 _ 36 _ (by decide) (by decide) hS0
  refine hK.out _ _ hS2 (fun _ => ?_)
  clear hK HWR
  have HD3 := hid hd2
  have HR3 := hid (HR2.out.code hf2)
  have HF3 := hid (HF2.out.trans hf2.fb)
  have HW3 := hid (HW2.out.trans hf2.bel)
  clear hd2 hf2 hS0 HD2 HR2 HF2 HW2 o1 o2 o3
  try simp only [List.setIfInBounds_toArray, List.set_cons_zero, List.set_cons_succ]
  refine wpAnyH_ready (rs := [13]) (by as_aux_lemma => kernel_rfl) (by simp) (AllReadyH.cons rfl (fun KK hK => ?_) AllReadyH.nil)
  go_simp
  obtain ⟨o1, o2, o3⟩ := HO.out
  have HWR := rwrite_ref base gr n vL vW L2 O2 f i ab cb bt w2 HR3.out (RxD.low HTK.out HX.out HW3.out) o3
  rw [← HNT.out] at HWR
  refine HWR.mono ?_
  rintro _ w3 ⟨rfl, ⟨vW3, hr3⟩, hf3⟩
  have hS3 := hf3.cells hS2 (by decide)
  refine hK.out _ _ hS3 (fun _ => ?_)
  clear hK HWR
  have HD4 := hid (HD3.out.doc hf3)
  have HR4 := hid hr3
  have HF4 := hid (HF3.out.trans hf3.fb)
  clear hr3 hf3 hS2 HD3 HR3 HF3 HW3 o1 o2 o3
  rw [HBT.out] at HD4 HR4
  generalize wrC (n : Int) f i bt.length = cc at *
  try simp only [List.setIfInBounds_toArray, List.set_cons_zero, List.set_cons_succ]
  refine Ord.take (i := 14) (d := 45) (v := .bool true) rfl rfl (by as_aux_lemma => kernel_rfl) (by as_aux_lemma => kernel_rfl) (by as_aux_lemma => kernel_rfl) (fun _ _ _ h => h) (by rfl) ?hk114 (by assumption) ?_
  case hk114 => intro w hSw; go_simp; try with_reducible rfl
  simp only [List.setIfInBounds_toArray, List.set_cons_zero, List.set_cons_succ]
  refine Ord.take (i := 15) (d := 6) (v := ?vk115) rfl rfl (by as_aux_lemma => kernel_rfl) (by as_aux_lemma => kernel_rfl) (by as_aux_lemma => kernel_rfl) (fun _ _ _ h => h) (by rfl) ?hk115 (by assumption) ?_
  case hk115 => intro w hSw; go_simp; try with_reducible rfl
  simp only [List.setIfInBounds_toArray, List.set_cons_zero, List.set_cons_succ]
  refine Ord.take (i := 16) (d := 7) (v := ?vk116) rfl rfl (by as_aux_lemma => kernel_rfl) (by as_aux_lemma => kernel_rfl) (by as_aux_lemma => kernel_rfl) (fun _ _ _ h => h) (by rfl) ?hk116 (by assumption) ?_
  case hk116 => intro w hSw; go_simp; try with_reducible rfl
  simp only [List.setIfInBounds_toArray, List.set_cons_zero, List.set_cons_succ]
  refine Ord.take (i := 17) (d := 8) (v := .bool true) rfl rfl (by as_aux_lemma => kernel_rfl) (by as_aux_lemma => kernel_rfl) (by as_aux_lemma => kernel_rfl) (fun _ _ _ h => h) (by rfl) ?hk117 (by assumption) ?_
  case hk117 => intro w hSw; go_simp; try with_reducible rfl
  simp only [List.setIfInBounds_toArray, List.set_cons_zero, List.set_cons_succ]
  refine wpAnyH_done (by as_aux_lemma => kernel_rfl) ?_ _
  clear hS3
  go_wp2_with fail
  go_ret3
  unfold AcPost
  exact ⟨gd, gv, gl, gn, v2, gr, vL, vW3, true, rfl, HD4.out.mono (by omega), HR4.out, fun _ _ => rfl, HF4.out⟩
end Go.Proofs.Ytldgiimkkgmgaaa
