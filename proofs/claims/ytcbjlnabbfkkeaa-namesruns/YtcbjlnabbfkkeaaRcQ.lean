/-
  Rows of records and heads as arguments; what the tables of package sha hold at the start.
-/
import Derived.Test.YtcbjlnabbfkkeaaRcO
import Derived.LaidMore
import Derived.Lib.LaidTab
import Derived.Stop.Joined
namespace Go.Proofs.Ytcbjlnabbfkkeaa
open Go.ChangeShapes Go.WideShapes Go.ChangeAt Go.RowKit Go.Deep

instance : Inhabited Rec := ⟨recZ⟩
section
variable {H : Type} {enc : TypeId × Value → H} {W : World} {fuel : Nat} {cs : List Value} {x : DataW H × List MemPlace}
set_option maxRecDepth 100000 in
theorem trod_recs (h : DataW.trod enc Try.prog W 0 (fun _ => true) true fuel 22 cs = some x) (hlt : ∀ q ∈ x.2, q.block < W.heap.size) : ∃ a cap l, cs = [.slice a (l : List Rec).length cap] ∧ Rr W a cap l := by
  rcases open_slice Try.underlying22 h with ⟨hcs, _⟩ | ⟨a, len, cap, m, n, D, Pl, hcs, _, hl, hm, hmm, hx, hel⟩
  · exact ⟨none, 0, [], hcs, ⟨Nat.le_refl _, by unfold maxLen; exact Nat.zero_le _, fun _ => rfl, fun h => absurd h (by simp), fun r hr => by cases hr⟩⟩
  · rw [if_pos rfl] at hmm
    subst hmm
    rw [Try.cells36] at hel
    have hp : x.2 = MemPlace.row a (m * Try.prog.cellsOf 36) ++ (List.range m).flatMap Pl := congrArg Prod.snd hx
    have key : ∀ j, j < len → ∃ y : Rec, Rv W y ∧ ∀ i u, y.cs[i]? = some u → W.cell? ((a.add (j * 38)).add i) = some u := by
      intro j hj
      obtain ⟨cs', h1, h2⟩ := hel j (by omega)
      obtain ⟨_, hcl, hcc⟩ := World.cells?_some h1
      obtain ⟨y, rfl, hy⟩ := trod_rec h2 (fun q hq => hlt q (by
        rw [hp, List.mem_append]
        exact Or.inr (List.mem_flatMap.2 ⟨j, List.mem_range.2 (by omega), hq⟩)))
      refine ⟨y, hy, fun i u hu => ?_⟩
      have hi : i < y.cs.length := (List.getElem?_eq_some_iff.1 hu).1
      have := hcc i (by rw [← hcl]; exact hi)
      rw [this]
      exact hu
    obtain ⟨Y, hY⟩ := choose_lt key
    have hlen : ((List.range len).map Y).length = len := by simp
    have hgd : ∀ j, j < len → ((List.range len).map Y).getD j recZ = Y j := fun j hj => by simp [List.getD, hj]
    refine ⟨some a, m, (List.range len).map Y, by rw [hlen]; exact hcs, by rw [hlen]; exact hl, hm, (fun h => by cases h), fun h0 => ?_, fun y hy => ?_⟩
    · rw [hlen] at h0
      obtain ⟨b, off, spot⟩ := a
      have hc0 := (hY 0 h0).2 0 _ rfl
      have hspot : spot = none := by
        have := World.cell?_spot hc0
        simpa [Addr.add] using this
      subst hspot
      have hbW : b < W.heap.size := hlt (.cell b off) (by
        rw [hp, List.mem_append]
        refine Or.inl (MemPlace.mem_row.2 ⟨0, ?_, by simp⟩)
        rw [Try.cells36]; omega)
      refine ⟨b, off, rfl, hbW, fun j hj => ?_⟩
      rw [hlen] at hj
      rw [hgd j hj]
      intro i u hu
      have := (hY j hj).2 i u hu
      rw [add_plain, add_plain] at this
      exact this
    · obtain ⟨i, hi, rfl⟩ := List.mem_map.1 hy
      exact (hY i (List.mem_range.1 hi)).1
set_option maxRecDepth 100000 in
theorem open_recs {H : Type} {enc : TypeId × Value → H} {W : World} {base : Nat} {v : Value} {d : DataW H} {p : List MemPlace} (hv : Value.okWide Try.prog W .any base 22 v)
    (h : DataW.Trod enc Try.prog W 0 (fun _ => true) true 22 v d p) (hlt : ∀ x ∈ p, x.block < W.heap.size) : ∃ a cap l, v = .slice a (l : List Rec).length cap ∧ Rr W a cap l := by
  obtain ⟨a0, len, cap0, rfl⟩ := okWide_slice Try.underlying22 hv
  obtain ⟨fuel, hf⟩ := h
  obtain ⟨a, cap, l, e, hr⟩ := trod_recs hf hlt
  simp [Value.cells] at e
  obtain ⟨rfl, rfl, rfl⟩ := e
  exact ⟨_, _, _, rfl, hr⟩
end
end Go.Proofs.Ytcbjlnabbfkkeaa
