/-
  Rows of records and heads as arguments; what the tables of package sha hold at the start.
-/
import Derived.Test.YtpbaacplgohniaaDoorRcP
import Derived.Test.YtpbaacplgohniaaDoorTie
import Derived.Test.YtpbaacplgohniaaDoorCards
import Derived.LaidMore
import Derived.Lib.LaidTab
import Derived.Stop.Joined
namespace Go.Proofs.YtpbaacplgohniaaDoor
open Go.ChangeShapes Go.WideShapes Go.ChangeAt Go.RowKit Go.Deep

instance : Inhabited Rec := ⟨recZ⟩
section
variable {H : Type} {enc : TypeId × Value → H} {W : World} {fuel : Nat} {cs : List Value} {x : DataW H × List MemPlace}
set_option maxRecDepth 100000 in
theorem trod_recs (h : DataW.trod enc Tryd.prog W 0 (fun _ => true) true fuel 56 cs = some x) (hlt : ∀ q ∈ x.2, q.block < W.heap.size) : ∃ a cap l, cs = [.slice a (l : List Rec).length cap] ∧ Rr W a cap l := by
  rcases open_slice Tryd.underlying56 h with ⟨hcs, _⟩ | ⟨a, len, cap, m, n, D, Pl, hcs, _, hl, hm, hmm, hx, hel⟩
  · exact ⟨none, 0, [], hcs, ⟨Nat.le_refl _, by unfold maxLen; exact Nat.zero_le _, fun _ => rfl, fun h => absurd h (by simp), fun r hr => by cases hr⟩⟩
  · rw [if_pos rfl] at hmm
    subst hmm
    rw [Tryd.cells27] at hel
    have hp : x.2 = MemPlace.row a (m * Tryd.prog.cellsOf 27) ++ (List.range m).flatMap Pl := congrArg Prod.snd hx
    have key : ∀ j, j < len → ∃ y : Rec, Rv W y ∧ ∀ i u, y.cs[i]? = some u → W.cell? ((a.add (j * 38)).add i) = some u := by
      intro j hj
      obtain ⟨cs', h1, h2⟩ := hel j (by omega)
      obtain ⟨_, hcl, hcc⟩ := World.cells?_some h1
      obtain ⟨y, rfl, hy⟩ := trod_rec h2 (fun q hq => hlt q (by
        rw [hp, List.mem_append]
        exact Or.inr (List.mem_flatMap.2 ⟨j, List.mem_range.2 (by omega), hq⟩)))
      refine ⟨y, hy, fun i u hu => ?_⟩
      have hi : i < y.cs.length := (List.getElem?_eq_some_iff.1 hu).1
      have := hcc i (by rw [← hcl]; exact hi)
      rw [this]
      exact hu
    obtain ⟨Y, hY⟩ := choose_lt key
    have hlen : ((List.range len).map Y).length = len := by simp
    have hgd : ∀ j, j < len → ((List.range len).map Y).getD j recZ = Y j := fun j hj => by simp [List.getD, hj]
    refine ⟨some a, m, (List.range len).map Y, by rw [hlen]; exact hcs, by rw [hlen]; exact hl, hm, (fun h => by cases h), fun h0 => ?_, fun y hy => ?_⟩
    · rw [hlen] at h0
      obtain ⟨b, off, spot⟩ := a
      have hc0 := (hY 0 h0).2 0 _ rfl
      have hspot : spot = none := by
        have := World.cell?_spot hc0
        simpa [Addr.add] using this
      subst hspot
      have hbW : b < W.heap.size := hlt (.cell b off) (by
        rw [hp, List.mem_append]
        refine Or.inl (MemPlace.mem_row.2 ⟨0, ?_, by simp⟩)
        rw [Tryd.cells27]; omega)
      refine ⟨b, off, rfl, hbW, fun j hj => ?_⟩
      rw [hlen] at hj
      rw [hgd j hj]
      intro i u hu
      have := (hY j hj).2 i u hu
      rw [add_plain, add_plain] at this
      exact this
    · obtain ⟨i, hi, rfl⟩ := List.mem_map.1 hy
      exact (hY i (List.mem_range.1 hi)).1
set_option maxRecDepth 100000 in
theorem trod_head (h : DataW.trod enc Tryd.prog W 0 (fun _ => true) true fuel 55 cs = some x) : ∃ y : Hd, cs = hdV y ∧ y.2.2.length = 32 ∧ (∀ j, (Lit.int .u8 (y.2.2.getD j 0)).wf = true) ∧ (Lit.int .i64 y.1).wf = true ∧ (Lit.int .i64 y.2.1).wf = true := by
  obtain ⟨xs, k, _, _, hcl, hxl, hf⟩ := DataW.trod_struct Tryd.underlying55 h
  rw [Tryd.cells55] at hcl
  have hx3 : xs.length = 3 := hxl
  have g0 : DataW.trod enc Tryd.prog W 0 (fun _ => true) true k 3 (List.take (Tryd.prog.cellsOf 3) (List.drop 0 cs)) = xs[0]? := hf 0 _ rfl
  have g1 : DataW.trod enc Tryd.prog W 0 (fun _ => true) true k 3 (List.take (Tryd.prog.cellsOf 3) (List.drop 1 cs)) = xs[1]? := hf 1 _ rfl
  have g2 : DataW.trod enc Tryd.prog W 0 (fun _ => true) true k 23 (List.take (Tryd.prog.cellsOf 23) (List.drop 2 cs)) = xs[2]? := hf 2 _ rfl
  rw [Tryd.cells3, List.getElem?_eq_getElem (by omega)] at g0 g1
  rw [Tryd.cells23, List.getElem?_eq_getElem (by omega)] at g2
  obtain ⟨z0, e0, _, f0⟩ := DataW.trod_int Tryd.underlying3 g0
  obtain ⟨z1, e1, _, f1⟩ := DataW.trod_int Tryd.underlying3 g1
  obtain ⟨l, e2, hl, h8⟩ := trod_digest g2
  refine ⟨(z0, z1, l), ?_, hl, h8, f0, f1⟩
  unfold hdV hdL
  rw [← e2, List.take_of_length_le (l := List.drop 2 cs) (by simp; omega)]
  have c0 := at_one e0
  have c1 := at_one e1
  match cs, c0, c1 with
  | a :: b :: t, c0, c1 =>
    simp at c0 c1
    subst c0 c1
    rfl
end
set_option maxRecDepth 100000 in
theorem open_recs {H : Type} {enc : TypeId × Value → H} {W : World} {base : Nat} {v : Value} {d : DataW H} {p : List MemPlace} (hv : Value.okWide Tryd.prog W .any base 56 v)
    (h : DataW.Trod enc Tryd.prog W 0 (fun _ => true) true 56 v d p) (hlt : ∀ x ∈ p, x.block < W.heap.size) : ∃ a cap l, v = .slice a (l : List Rec).length cap ∧ Rr W a cap l := by
  obtain ⟨a0, len, cap0, rfl⟩ := okWide_slice Tryd.underlying56 hv
  obtain ⟨fuel, hf⟩ := h
  obtain ⟨a, cap, l, e, hr⟩ := trod_recs hf hlt
  simp [Value.cells] at e
  obtain ⟨rfl, rfl, rfl⟩ := e
  exact ⟨_, _, _, rfl, hr⟩
set_option maxRecDepth 100000 in
theorem open_head {H : Type} {enc : TypeId × Value → H} {W : World} {base : Nat} {v : Value} {d : DataW H} {p : List MemPlace} (hv : Value.okWide Tryd.prog W .any base 55 v)
    (h : DataW.Trod enc Tryd.prog W 0 (fun _ => true) true 55 v d p) : ∃ y : Hd, v = .agg (hdV y).toArray ∧ y.2.2.length = 32 ∧ (∀ j, (Lit.int .u8 (y.2.2.getD j 0)).wf = true) ∧ (Lit.int .i64 y.1).wf = true ∧ (Lit.int .i64 y.2.1).wf = true := by
  obtain ⟨cs, rfl, _⟩ := okWide_struct Tryd.underlying55 hv
  obtain ⟨fuel, hf⟩ := h
  obtain ⟨y, e, hy⟩ := trod_head hf
  refine ⟨y, ?_, hy⟩
  rw [← e]
  simp [Value.cells]
def laidL : List (String × DataW Unit) := [("saltern/sha.start", Rows.laid_saltern_sha_start), ("saltern/sha.constants", Rows.laid_saltern_sha_constants)]
theorem own : ownKnob Tryd.prog.godebug = none := by kernel_rfl
theorem gStart : Tryd.prog.globalNamed "saltern/sha.start" = some 0 := by kernel_rfl
theorem gConst : Tryd.prog.globalNamed "saltern/sha.constants" = some 1 := by kernel_rfl
theorem tStart : (Tryd.prog.globals[0]?).map (·.type) = some 118 := by kernel_rfl
theorem tConst : (Tryd.prog.globals[1]?).map (·.type) = some 129 := by kernel_rfl
theorem Tryd.cells117 : Tryd.prog.cellsOf 117 = 1 := by kernel_rfl
theorem Tryd.cells118 : Tryd.prog.cellsOf 118 = 8 := by kernel_rfl
theorem Tryd.cells129 : Tryd.prog.cellsOf 129 = 64 := by kernel_rfl
theorem door_met (os : Os) (args : Array Value) : laidMetH Tryd.prog laidL ((World.doorLaid Tryd.prog 400 os).forCall (fun _ _ => 0) ⟨#[], args, []⟩).memory :=
  laidMetH_of_parts3 (fuel := 8) (laidMet_of_run' 8 (by kernel_rfl) (by kernel_rfl)) (by kernel_rfl) (by kernel_rfl)
set_option maxHeartbeats 3200000 in
set_option maxRecDepth 100000 in
theorem of_laid {W : World} (h : laidMetH Tryd.prog laidL W) : Sh.Laid W := by
  rw [MakeChecks.laidMetH_plain _ _ _ (by kernel_rfl)] at h
  obtain ⟨ps, ⟨g0, t0, cs0, f0, p0, q0, hg0, ht0, hv0, hd0, ⟨g1, t1, cs1, f1, p1, q1, hg1, ht1, hv1, hd1, _, _⟩, _⟩, _, _⟩ := h
  obtain rfl := Option.some.inj (gStart.symm.trans hg0)
  obtain rfl := Option.some.inj (gConst.symm.trans hg1)
  obtain rfl := Option.some.inj (tStart.symm.trans ht0)
  obtain rfl := Option.some.inj (tConst.symm.trans ht1)
  have e0 := Lib.cells_of_tab (zs := Sh.ints Sh.Sha.start.list) Tryd.underlying118 Tryd.underlying117 Tryd.cells117 Tryd.cells118 hd0
  have e1 := Lib.cells_of_tab (zs := Sh.ints Sh.Sha.kL) Tryd.underlying129 Tryd.underlying117 Tryd.cells117 Tryd.cells129 hd1
  have c0 : ∀ i, W.cell? ⟨0, i, none⟩ = ((Sh.ints Sh.Sha.start.list).map fun z => Value.int .u32 z)[i]? := fun i => by
    have := World.var?_cell hg0 hv0 i
    rw [this, ← e0]; simp
  have c1 : ∀ i, W.cell? ⟨1, i, none⟩ = ((Sh.ints Sh.Sha.kL).map fun z => Value.int .u32 z)[i]? := fun i => by
    have := World.var?_cell hg1 hv1 i
    rw [this, ← e1]; simp
  refine ⟨fun i hi => ?_, fun i hi => ?_, ?_⟩
  · rw [c1 i]
    simp [Sh.ints, List.getD, List.getElem?_eq_getElem (show i < Sh.Sha.kL.length from hi)]
  · rw [c0 i]
    simp [Sh.ints, List.getD, List.getElem?_eq_getElem (show i < Sh.Sha.start.list.length from hi)]
  · have := World.block_lt_of_cell? W ⟨1, 0, none⟩ (c1 0)
    exact this
end Go.Proofs.YtpbaacplgohniaaDoor
