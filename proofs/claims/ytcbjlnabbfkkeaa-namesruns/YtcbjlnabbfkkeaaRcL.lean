/-
  Records, pieces and heads as arguments: what is handed in is one, and reads as one.
-/
import Derived.Test.YtcbjlnabbfkkeaaNmA
namespace Go.Proofs.Ytcbjlnabbfkkeaa
open Go.ChangeShapes Go.WideShapes Go.ChangeAt Go.RowKit Go.Deep Go.Lib

section
variable {H : Type} {enc : TypeId × Value → H} {W : World} {fuel : Nat} {cs : List Value} {x : DataW H × List MemPlace}
theorem Try.cells32 : Try.prog.cellsOf 32 = 32 := by kernel_rfl
theorem Try.cells33 : Try.prog.cellsOf 33 = 1 := by kernel_rfl
theorem Try.cells9 : Try.prog.cellsOf 9 = 1 := by kernel_rfl
theorem Try.cells34 : Try.prog.cellsOf 34 = 1 := by kernel_rfl
theorem Try.cells59 : Try.prog.cellsOf 59 = 33 := by kernel_rfl
theorem Try.cells36 : Try.prog.cellsOf 36 = 38 := by kernel_rfl
theorem all_ints {cs : List Value} {n : Nat} (hl : cs.length = n) (h : ∀ i, i < n → ∃ z : Int, cs[i]? = some (.int .u8 z) ∧ (Lit.int .u8 z).wf = true) : ∃ l : List Int, cs = l.map (Value.int .u8) ∧ l.length = n ∧ ∀ j, (Lit.int .u8 (l.getD j 0)).wf = true := by
  obtain ⟨Y, hY⟩ := choose_lt h
  refine ⟨(List.range n).map Y, List.ext_getElem? fun i => ?_, by simp, get_u8 (fun z hz => ?_)⟩
  · by_cases hi : i < n
    · rw [(hY i hi).1]; simp [hi]
    · rw [List.getElem?_eq_none (by omega), List.getElem?_eq_none (by simp; omega)]
  · obtain ⟨i, hi, rfl⟩ := List.mem_map.1 hz
    exact (hY i (List.mem_range.1 hi)).2
theorem trod_digest (h : DataW.trod enc Try.prog W 0 (fun _ => true) true fuel 32 cs = some x) : ∃ l : List Int, cs = l.map (Value.int .u8) ∧ l.length = 32 ∧ ∀ j, (Lit.int .u8 (l.getD j 0)).wf = true := by
  obtain ⟨xs, m, _, _, hcl, hxl, hel⟩ := DataW.trod_array Try.underlying32 h
  rw [Try.cells32] at hcl
  refine all_ints hcl fun i hi => ?_
  have h1 := hel i hi
  rw [Try.cells5, Nat.mul_one, List.getElem?_eq_getElem (by omega)] at h1
  obtain ⟨z, e1, _, e3⟩ := DataW.trod_int Try.underlying5 h1
  refine ⟨z, ?_, e3⟩
  have := congrArg (·[0]?) e1
  simpa [List.getElem?_take, List.getElem?_drop] using this
theorem at_one {cs : List Value} {k : Nat} {v : Value} (h : List.take 1 (List.drop k cs) = [v]) : cs[k]? = some v := by
  have := congrArg (·[0]?) h
  simpa [List.getElem?_take, List.getElem?_drop] using this
theorem trod_piece (h : DataW.trod enc Try.prog W 0 (fun _ => true) true fuel 59 cs = some x) : ∃ y : Pc, cs = pcC y ∧ PcOk y := by
  obtain ⟨xs, k, _, _, hcl, hxl, hf⟩ := DataW.trod_struct Try.underlying59 h
  rw [Try.cells59] at hcl
  have hx2 : xs.length = 2 := hxl
  have g0 : DataW.trod enc Try.prog W 0 (fun _ => true) true k 32 (List.take (Try.prog.cellsOf 32) (List.drop 0 cs)) = xs[0]? := hf 0 _ rfl
  have g1 : DataW.trod enc Try.prog W 0 (fun _ => true) true k 3 (List.take (Try.prog.cellsOf 3) (List.drop 32 cs)) = xs[1]? := hf 1 _ rfl
  rw [Try.cells32, List.getElem?_eq_getElem (by omega)] at g0
  rw [Try.cells3, List.getElem?_eq_getElem (by omega)] at g1
  obtain ⟨l, e0, hl, h8⟩ := trod_digest g0
  obtain ⟨z, e1, _, f1⟩ := DataW.trod_int Try.underlying3 g1
  refine ⟨(l, z), ?_, hl, h8, f1⟩
  unfold pcC
  rw [← e0, ← e1, List.drop_zero, List.take_of_length_le (l := List.drop 32 cs) (by simp; omega), List.take_append_drop]
set_option maxRecDepth 100000 in
theorem trod_pieces (h : DataW.trod enc Try.prog W 0 (fun _ => true) true fuel 34 cs = some x) (hlt : ∀ q ∈ x.2, q.block < W.heap.size) : ∃ a cap l, cs = [.slice a (l : List Pc).length cap] ∧ Rp W a cap l := by
  rcases open_slice Try.underlying34 h with ⟨hcs, _⟩ | ⟨a, len, cap, m, n, D, Pl, hcs, _, hl, hm, hmm, hx, hel⟩
  · exact ⟨none, 0, [], hcs, rp_nil W⟩
  · rw [if_pos rfl] at hmm
    subst hmm
    rw [Try.cells59] at hel
    have hp : x.2 = MemPlace.row a (m * Try.prog.cellsOf 59) ++ (List.range m).flatMap Pl := congrArg Prod.snd hx
    have key : ∀ j, j < len → ∃ y : Pc, PcOk y ∧ ∀ i u, (pcC y)[i]? = some u → W.cell? ((a.add (j * 33)).add i) = some u := by
      intro j hj
      obtain ⟨cs', h1, h2⟩ := hel j (by omega)
      obtain ⟨_, hcl, hcc⟩ := World.cells?_some h1
      obtain ⟨y, rfl, hy⟩ := trod_piece h2
      refine ⟨y, hy, fun i u hu => ?_⟩
      have hi : i < (pcC y).length := (List.getElem?_eq_some_iff.1 hu).1
      have := hcc i (by rw [← hcl]; exact hi)
      rw [this]
      exact hu
    obtain ⟨Y, hY⟩ := choose_lt key
    have hlen : ((List.range len).map Y).length = len := by simp
    have hgd : ∀ j, j < len → ((List.range len).map Y).getD j pc0 = Y j := fun j hj => by simp [List.getD, hj]
    refine ⟨some a, m, (List.range len).map Y, by rw [hlen]; exact hcs, by rw [hlen]; exact hl, hm, (fun h => by cases h), fun h0 => ?_, fun y hy => ?_⟩
    · rw [hlen] at h0
      obtain ⟨b, off, spot⟩ := a
      have hc0 := (hY 0 h0).2 0 _ (pcC_d (hY 0 h0).1.len 0 (by decide))
      have hspot : spot = none := by
        have := World.cell?_spot hc0
        simpa [Addr.add] using this
      subst hspot
      have hbW : b < W.heap.size := hlt (.cell b off) (by
        rw [hp, List.mem_append]
        refine Or.inl (MemPlace.mem_row.2 ⟨0, ?_, by simp⟩)
        rw [Try.cells59]; omega)
      refine ⟨b, off, rfl, hbW, fun j hj => ?_⟩
      rw [hlen] at hj
      rw [hgd j hj]
      intro i u hu
      have := (hY j hj).2 i u hu
      rw [add_plain, add_plain] at this
      exact this
    · obtain ⟨i, hi, rfl⟩ := List.mem_map.1 hy
      exact (hY i (List.mem_range.1 hi)).1
theorem mem_flat {xs : List (DataW H × List MemPlace)} {i : Nat} {y : DataW H × List MemPlace} (h : xs[i]? = some y) {q : MemPlace} (hq : q ∈ y.2) : q ∈ xs.flatMap (·.2) :=
  List.mem_flatMap.2 ⟨y, List.mem_of_getElem? h, hq⟩
theorem trod_rec (h : DataW.trod enc Try.prog W 0 (fun _ => true) true fuel 36 cs = some x) (hlt : ∀ q ∈ x.2, q.block < W.heap.size) : ∃ r : Rec, cs = r.cs ∧ Rv W r := by
  obtain ⟨xs, k, _, hx, hcl, hxl, hf⟩ := DataW.trod_struct Try.underlying36 h
  rw [Try.cells36] at hcl
  have hx7 : xs.length = 7 := hxl
  have g0 : DataW.trod enc Try.prog W 0 (fun _ => true) true k 3 (List.take (Try.prog.cellsOf 3) (List.drop 0 cs)) = xs[0]? := hf 0 _ rfl
  have g1 : DataW.trod enc Try.prog W 0 (fun _ => true) true k 3 (List.take (Try.prog.cellsOf 3) (List.drop 1 cs)) = xs[1]? := hf 1 _ rfl
  have g2 : DataW.trod enc Try.prog W 0 (fun _ => true) true k 32 (List.take (Try.prog.cellsOf 32) (List.drop 2 cs)) = xs[2]? := hf 2 _ rfl
  have g3 : DataW.trod enc Try.prog W 0 (fun _ => true) true k 33 (List.take (Try.prog.cellsOf 33) (List.drop 34 cs)) = xs[3]? := hf 3 _ rfl
  have g4 : DataW.trod enc Try.prog W 0 (fun _ => true) true k 3 (List.take (Try.prog.cellsOf 3) (List.drop 35 cs)) = xs[4]? := hf 4 _ rfl
  have g5 : DataW.trod enc Try.prog W 0 (fun _ => true) true k 9 (List.take (Try.prog.cellsOf 9) (List.drop 36 cs)) = xs[5]? := hf 5 _ rfl
  have g6 : DataW.trod enc Try.prog W 0 (fun _ => true) true k 34 (List.take (Try.prog.cellsOf 34) (List.drop 37 cs)) = xs[6]? := hf 6 _ rfl
  have q6 : xs[6]? = some (xs[6]'(by omega)) := List.getElem?_eq_getElem (by omega)
  rw [Try.cells3, List.getElem?_eq_getElem (by omega)] at g0 g1 g4
  rw [Try.cells32, List.getElem?_eq_getElem (by omega)] at g2
  rw [Try.cells33, List.getElem?_eq_getElem (by omega)] at g3
  rw [Try.cells9, List.getElem?_eq_getElem (by omega)] at g5
  rw [Try.cells34, q6] at g6
  obtain ⟨z0, e0, _, f0⟩ := DataW.trod_int Try.underlying3 g0
  obtain ⟨z1, e1, _, f1⟩ := DataW.trod_int Try.underlying3 g1
  obtain ⟨l, e2, hl, h8⟩ := trod_digest g2
  obtain ⟨z3, e3, _, f3⟩ := DataW.trod_int Try.underlying33 g3
  obtain ⟨z4, e4, _, f4⟩ := DataW.trod_int Try.underlying3 g4
  obtain ⟨s, e5, _, f5⟩ := DataW.trod_string Try.underlying9 g5
  obtain ⟨a, cap, ps, e6, hr⟩ := trod_pieces g6 (fun q hq => hlt q (by rw [hx]; exact mem_flat q6 hq))
  refine ⟨⟨z0, z1, l, z3, z4, s, a, cap, ps⟩, ?_, hl, h8, f0, f1, f3, f4, f5, hr⟩
  refine List.ext_getElem? fun i => ?_
  have c0 := at_one e0
  have c1 := at_one e1
  have c3 := at_one e3
  have c4 := at_one e4
  have c5 := at_one e5
  have c6 := at_one e6
  by_cases hi : i < 38
  · by_cases h0 : i = 0
    · subst h0; exact c0
    by_cases h1 : i = 1
    · subst h1; exact c1
    by_cases h2 : i < 34
    · obtain ⟨j, rfl⟩ : ∃ j, i = 2 + j := ⟨i - 2, by omega⟩
      rw [Rec.mid _ hl j (by omega)]
      have := congrArg (·[j]?) e2
      simp only [List.getElem?_take, List.getElem?_drop, if_pos (show j < 32 by omega)] at this
      rw [this]
      simp [List.getD, List.getElem?_eq_getElem (show j < l.length by omega)]
    · obtain ⟨j, rfl⟩ : ∃ j, i = 34 + j := ⟨i - 34, by omega⟩
      rw [Rec.tail _ hl j]
      match j, (show j < 4 by omega) with
      | 0, _ => exact c3
      | 1, _ => exact c4
      | 2, _ => exact c5
      | 3, _ => exact c6
  · rw [List.getElem?_eq_none (by omega), List.getElem?_eq_none (by rw [Rec.cs_len hl]; omega)]
end
set_option maxRecDepth 100000 in
/-- A record as an argument. -/
theorem open_rec {H : Type} {enc : TypeId × Value → H} {W : World} {base : Nat} {v : Value} {d : DataW H} {p : List MemPlace} (hv : Value.okWide Try.prog W .any base 36 v)
    (h : DataW.Trod enc Try.prog W 0 (fun _ => true) true 36 v d p) (hlt : ∀ x ∈ p, x.block < W.heap.size) : ∃ r : Rec, v = .agg r.cs.toArray ∧ Rv W r := by
  obtain ⟨cs, rfl, _⟩ := okWide_struct Try.underlying36 hv
  obtain ⟨fuel, hf⟩ := h
  obtain ⟨r, e, hr⟩ := trod_rec hf hlt
  refine ⟨r, ?_, hr⟩
  rw [← e]
  simp [Value.cells]
end Go.Proofs.Ytcbjlnabbfkkeaa
