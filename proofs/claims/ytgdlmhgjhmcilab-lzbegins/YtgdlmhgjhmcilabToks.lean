/-
  A row of tokens as an argument of type []api.Token: what it reads as, in which worlds.
-/
import Derived.Test.YtgdlmhgjhmcilabChkR
import Derived.Deep.Slices
namespace Go.Proofs.Ytgdlmhgjhmcilab
open Go.ChangeShapes Go.WideShapes Go.ChangeAt Go.RowKit Go.Deep Lz

def tk0 : Tkz := (0, 0, 0)
/-- The slice at a reads, in the world w, as the tokens l. -/
structure Rt (w : World) (a : Option Addr) (cap : Nat) (l : List Tkz) : Prop where
  room : l.length ≤ cap
  most : cap ≤ maxLen
  cells : 0 < l.length → ∃ b off, a = some ⟨b, off, none⟩ ∧ b < w.heap.size ∧ ∀ j, j < l.length → w.cell? ⟨b, off + j * 3, none⟩ = some (.int .i64 (l.getD j tk0).1) ∧ w.cell? ⟨b, off + j * 3 + 1, none⟩ = some (.int .i64 (l.getD j tk0).2.1) ∧ w.cell? ⟨b, off + j * 3 + 2, none⟩ = some (.int .u8 (l.getD j tk0).2.2)
  fits : ∀ j, j < l.length → (Lit.int .i64 (l.getD j tk0).1).wf = true ∧ (Lit.int .i64 (l.getD j tk0).2.1).wf = true ∧ (Lit.int .u8 (l.getD j tk0).2.2).wf = true

theorem Rt.later {w w' : World} {a : Option Addr} {cap : Nat} {l : List Tkz} (h : Rt w a cap l) (hb : Below w.heap.size w w') : Rt w' a cap l := by
  refine ⟨h.room, h.most, fun h0 => ?_, h.fits⟩
  obtain ⟨b, off, ha, hbw, hc⟩ := h.cells h0
  refine ⟨b, off, ha, Nat.lt_of_lt_of_le hbw hb.size, fun j hj => ?_⟩
  obtain ⟨c0, c1, c2⟩ := hc j hj
  exact ⟨(hb.cell (p := ⟨b, off + j * 3, none⟩) hbw).trans c0, (hb.cell (p := ⟨b, off + j * 3 + 1, none⟩) hbw).trans c1, (hb.cell (p := ⟨b, off + j * 3 + 2, none⟩) hbw).trans c2⟩

theorem Rt.take {w : World} {a : Option Addr} {cap : Nat} {l : List Tkz} (h : Rt w a cap l) (n : Nat) : Rt w a cap (l.take n) := by
  have hr := h.room
  have hle : (l.take n).length ≤ l.length := by simp; omega
  have e : ∀ j, j < (l.take n).length → (l.take n).getD j tk0 = l.getD j tk0 := fun j hj => by
    have : j < n := by simp at hj; omega
    simp [List.getD, List.getElem?_take_of_lt this]
  refine ⟨by omega, h.most, fun h0 => ?_, fun j hj => by rw [e j hj]; exact h.fits j (by omega)⟩
  obtain ⟨b, off, ha, hbw, hc⟩ := h.cells (by omega)
  exact ⟨b, off, ha, hbw, fun j hj => by rw [e j hj]; exact hc j (by omega)⟩

theorem Try.cells34 : Try.prog.cellsOf 34 = 3 := by kernel_rfl

/-- An argument of type []api.Token, as it is handed in. -/
theorem open_rt {H : Type} {enc : TypeId × Value → H} {W : World} {base : Nat} {v : Value} {d : DataW H} {p : List MemPlace} (hv : Value.okWide Try.prog W .any base 22 v)
    (h : DataW.Trod enc Try.prog W 0 (fun _ => true) true 22 v d p) (hlt : ∀ x ∈ p, x.block < W.heap.size) : ∃ a cap l, v = .slice a (l : List Tkz).length cap ∧ Rt W a cap l := by
  obtain ⟨a0, len, cap, rfl⟩ := okWide_slice Try.underlying22 hv
  obtain ⟨fuel, hf⟩ := h
  rcases open_slice Try.underlying22 hf with ⟨hcs, hx⟩ | ⟨a, len', cap', m, n, D, Pl, hcs, _, hl, hm, hmm, hx, hel⟩
  · simp [Value.cells] at hcs
    obtain ⟨rfl, rfl, rfl⟩ := hcs
    exact ⟨none, 0, [], rfl, Nat.le_refl _, by unfold maxLen; omega, fun h => absurd h (by simp), fun j hj => by simp at hj⟩
  · simp [Value.cells] at hcs
    obtain ⟨rfl, rfl, rfl⟩ := hcs
    rw [if_pos rfl] at hmm
    subst hmm
    rw [Try.cells34] at hel
    have hp : p = MemPlace.row a (m * Try.prog.cellsOf 34) ++ (List.range m).flatMap Pl := congrArg Prod.snd hx
    have key : ∀ j, j < len → ∃ y : Tkz, (Lit.int .i64 y.1).wf = true ∧ (Lit.int .i64 y.2.1).wf = true ∧ (Lit.int .u8 y.2.2).wf = true ∧ W.cell? ((a.add (j * 3)).add 0) = some (.int .i64 y.1) ∧ W.cell? ((a.add (j * 3)).add 1) = some (.int .i64 y.2.1) ∧ W.cell? ((a.add (j * 3)).add 2) = some (.int .u8 y.2.2) := by
      intro j hj
      obtain ⟨cs', h1, h2⟩ := hel j (by omega)
      obtain ⟨_, hcl, hcc⟩ := World.cells?_some h1
      obtain ⟨xs, k, hk, hxy, _, hxl, hf⟩ := DataW.trod_struct Try.underlying34 h2
      match xs, hxl, cs', hcl with
      | [y0, y1, y2], _, [v0, v1, v2], _ =>
        have g0 : DataW.trod enc Try.prog W 0 (fun _ => true) true k 3 (List.take (Try.prog.cellsOf 3) (List.drop 0 [v0, v1, v2])) = some y0 := hf 0 _ rfl
        have g1 : DataW.trod enc Try.prog W 0 (fun _ => true) true k 3 (List.take (Try.prog.cellsOf 3) (List.drop 1 [v0, v1, v2])) = some y1 := hf 1 _ rfl
        have g2 : DataW.trod enc Try.prog W 0 (fun _ => true) true k 5 (List.take (Try.prog.cellsOf 5) (List.drop 2 [v0, v1, v2])) = some y2 := hf 2 _ rfl
        rw [Try.cells3] at g0 g1
        rw [Try.cells5] at g2
        obtain ⟨z0, e0, _, f0⟩ := DataW.trod_int Try.underlying3 g0
        obtain ⟨z1, e1, _, f1⟩ := DataW.trod_int Try.underlying3 g1
        obtain ⟨z2, e2, _, f2⟩ := DataW.trod_int Try.underlying5 g2
        have e0' : v0 = .int .i64 z0 := by simpa using e0
        have e1' : v1 = .int .i64 z1 := by simpa using e1
        have e2' : v2 = .int .u8 z2 := by simpa using e2
        subst e0' e1' e2'
        exact ⟨(z0, z1, z2), f0, f1, f2, hcc 0 (by omega), hcc 1 (by omega), hcc 2 (by omega)⟩
    obtain ⟨Y, hY⟩ := choose_lt key
    have hlen : ((List.range len).map Y).length = len := by simp
    have hgd : ∀ j, j < len → ((List.range len).map Y).getD j tk0 = Y j := fun j hj => by simp [List.getD, hj]
    refine ⟨some a, m, (List.range len).map Y, by rw [hlen], by rw [hlen]; exact hl, hm, fun h0 => ?_, fun j hj => ?_⟩
    · rw [hlen] at h0
      obtain ⟨b, off, spot⟩ := a
      have hc0 := (hY 0 h0).2.2.2.1
      have hspot : spot = none := by
        have := World.cell?_spot hc0
        simpa [Addr.add] using this
      subst hspot
      have hbW : b < W.heap.size := hlt (.cell b off) (by
        rw [hp, List.mem_append]
        refine Or.inl (MemPlace.mem_row.2 ⟨0, ?_, by simp⟩)
        rw [Try.cells34]; omega)
      refine ⟨b, off, rfl, hbW, fun j hj => ?_⟩
      rw [hlen] at hj
      rw [hgd j hj]
      obtain ⟨_, _, _, c0, c1, c2⟩ := hY j hj
      rw [add_plain, add_plain] at c0 c1 c2
      exact ⟨c0, c1, c2⟩
    · rw [hlen] at hj
      rw [hgd j hj]
      exact ⟨(hY j hj).1, (hY j hj).2.1, (hY j hj).2.2.1⟩

/-- Tokens that lz made. -/
def toZ (t : Tok) : Tkz := ((t.1 : Int), (t.2.1 : Int), t.2.2)
theorem flat_get (l : List Tok) : ∀ j, j < l.length → (l.flatMap tokC)[j * 3]? = some (.int .i64 ((l.map toZ).getD j tk0).1) ∧ (l.flatMap tokC)[j * 3 + 1]? = some (.int .i64 ((l.map toZ).getD j tk0).2.1) ∧ (l.flatMap tokC)[j * 3 + 2]? = some (.int .u8 ((l.map toZ).getD j tk0).2.2) := by
  induction l with
  | nil => intro j hj; simp at hj
  | cons t l ih =>
    intro j hj
    rw [List.flatMap_cons]
    cases j with
    | zero => exact ⟨rfl, rfl, rfl⟩
    | succ j =>
      have hl : (tokC t).length = 3 := rfl
      obtain ⟨h0, h1, h2⟩ := ih j (by simp at hj; omega)
      have e : ∀ i, (tokC t ++ l.flatMap tokC)[(j + 1) * 3 + i]? = (l.flatMap tokC)[j * 3 + i]? := fun i => by
        rw [List.getElem?_append_right (by omega), hl]
        congr 1
        omega
      have eg : ((t :: l).map toZ).getD (j + 1) tk0 = (l.map toZ).getD j tk0 := rfl
      rw [eg]
      refine ⟨?_, ?_, ?_⟩
      · rw [← h0]; exact e 0
      · rw [← h1]; exact e 1
      · rw [← h2]; exact e 2

theorem Rt.own {w : World} {base : Nat} {v : Value} {l : List Tok} (h : w.ownsRow base 34 3 v l.length (l.flatMap tokC)) (hf : ∀ t ∈ l, t.1 ≤ 65536 ∧ t.2.1 ≤ 65536 ∧ (Lit.int .u8 t.2.2).wf = true) :
    ∃ a cap, v = .slice a l.length cap ∧ Rt w a cap (l.map toZ) := by
  have hfit : ∀ j, j < (l.map toZ).length → (Lit.int .i64 ((l.map toZ).getD j tk0).1).wf = true ∧ (Lit.int .i64 ((l.map toZ).getD j tk0).2.1).wf = true ∧ (Lit.int .u8 ((l.map toZ).getD j tk0).2.2).wf = true := fun j hj => by
    have hj' : j < l.length := by simpa using hj
    have e : (l.map toZ).getD j tk0 = toZ l[j] := by simp [List.getD, hj']
    obtain ⟨f0, f1, f2⟩ := hf l[j] (List.getElem_mem hj')
    rw [e]
    exact ⟨wf_mk_i64 (by simp only [toZ]; omega) (by simp only [toZ]; omega), wf_mk_i64 (by simp only [toZ]; omega) (by simp only [toZ]; omega), f2⟩
  obtain ⟨hl, hn | ⟨g, cap, cur, rfl, hb, hg, hnc, hcm, hcur, htk⟩⟩ := id h
  · obtain ⟨rfl, h0⟩ := hn
    refine ⟨none, 0, by rw [h0], by simp [h0], by unfold maxLen; omega, fun h1 => by simp [h0] at h1, hfit⟩
  · refine ⟨some ⟨g, 0, none⟩, cap, rfl, by simpa using hnc, hcm, fun h0 => ⟨g, 0, rfl, (Array.getElem?_eq_some_iff.1 hg).1, fun j hj => ?_⟩, hfit⟩
    have hj' : j < l.length := by simpa using hj
    obtain ⟨h0, h1, h2⟩ := flat_get l j hj'
    simp only [Nat.zero_add]
    exact ⟨(h.cellAt _ (by omega)).trans h0, (h.cellAt _ (by omega)).trans h1, (h.cellAt _ (by omega)).trans h2⟩

theorem few_any (a : Option Addr) (cap : Nat) (l : List Tkz) (w : World) (hr : Rt w a cap l) :
    Calls Try.prog 5 #[.slice a l.length cap] w fun e w' => e = .returned (.slice a (l.take 400).length cap) ∧ w' = w := by
  have hcap := hr.room
  have hmax := hr.most
  unfold maxLen at hmax
  have hcells := hr.cells
  clear hr
  by_cases h : 400 < l.length
  · have hl : (l.take 400).length = 400 := by simp; omega
    obtain ⟨b, off, rfl, hbw, hc⟩ := hcells (by omega)
    clear hcells hc hbw
    rw [hl]
    generalize l.length = len at *
    clear hl
    go_enter Try.func5, Try.ntmps5
    go_wp2
    go_ret
    exact ⟨rfl, rfl⟩
  · have hl : (l.take 400).length = l.length := by simp; omega
    rw [hl]
    generalize l.length = len at *
    clear hcells hl
    go_enter Try.func5, Try.ntmps5
    go_wp2
    go_ret
    exact ⟨rfl, rfl⟩
end Go.Proofs.Ytgdlmhgjhmcilab
