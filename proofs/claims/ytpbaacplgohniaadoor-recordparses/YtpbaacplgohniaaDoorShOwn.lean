/-
  Plain facts on rows of bytes that are owned, on blocks and on paddings.
-/
import Derived.Test.YtpbaacplgohniaaDoorShRefSum
namespace Go.Proofs.YtpbaacplgohniaaDoor.Sh
open Go.RowKit Sha

set_option maxRecDepth 100000 in
theorem own_later {w w' : World} {B n : Nat} {v : Value} {xs : List Value} (h : w.ownsRow B 5 1 v n xs) (hb : Below w.heap.size w w') : w'.ownsRow B 5 1 v n xs := by
  refine ⟨h.1, ?_⟩
  rcases h.2 with h1 | ⟨g, cap, cur, hv, hg, hh, hr⟩
  · exact Or.inl h1
  · have hlt : g < w.heap.size := (Array.getElem?_eq_some_iff.1 hh).1
    exact Or.inr ⟨g, cap, cur, hv, hg, (hb.block g hlt).trans hh, hr⟩

set_option maxRecDepth 100000 in
theorem own_slice {w : World} {B n : Nat} {v : Value} {xs : List Value} (h : w.ownsRow B 5 1 v n xs) : ∃ a cap, v = .slice a n cap := by
  rcases h.2 with ⟨rfl, rfl⟩ | ⟨g, cap, cur, rfl, _⟩
  · exact ⟨none, 0, rfl⟩
  · exact ⟨_, cap, rfl⟩

set_option maxRecDepth 100000 in
theorem blocksG_snoc (f : St → List Nat → St) (n : Nat) : ∀ (l : List Nat) (s : St), blocksG f (n + 1) l s = f (blocksG f n l s) ((l.drop (64 * n)).take 64) := by
  induction n with
  | zero => intro l s; rw [blocksG_succ, blocksG_zero, blocksG_zero, Nat.mul_zero, List.drop_zero]
  | succ n ih => intro l s; rw [blocksG_succ, ih, blocksG_succ, List.drop_drop, show 64 + 64 * n = 64 * (n + 1) from by omega]

set_option maxRecDepth 100000 in
theorem pad_length (n : Nat) : (n + (pad n).length) % 64 = 0 ∧ 9 ≤ (pad n).length ∧ (pad n).length ≤ 72 := by
  have h : (pad n).length = zeroes n + 9 := by rw [pad_parts]; simp [tailL_length]
  rw [h]; unfold zeroes; omega
set_option maxRecDepth 100000 in
theorem pad_lt (n j : Nat) : (pad n).getD j 0 < 256 := by
  have h : ∀ z ∈ pad n, z < 256 := by
    intro z hz
    rw [pad_parts, List.mem_append] at hz
    rcases hz with h | h
    · rw [List.mem_cons] at h
      rcases h with h | h
      · omega
      · rw [List.eq_of_mem_replicate h]; decide
    · simp only [tailL, List.mem_map] at h
      obtain ⟨i, _, rfl⟩ := h
      exact Nat.mod_lt _ (by decide)
  by_cases hj : j < (pad n).length
  · have : (pad n).getD j 0 ∈ pad n := by
      simp only [List.getD, List.getElem?_eq_getElem hj, Option.getD_some]
      exact List.getElem_mem hj
    exact h _ this
  · simp [List.getD, List.getElem?_eq_none (show (pad n).length ≤ j from by omega)]

set_option maxRecDepth 100000 in
theorem flat_take (l : List (List Nat)) (k : Nat) (hk : k < l.length) : (l.take (k + 1)).flatten = (l.take k).flatten ++ l.getD k [] := by
  have e : l.take (k + 1) = l.take k ++ [l.getD k []] := by
    rw [List.take_succ_eq_append_getElem hk]
    simp [List.getD, List.getElem?_eq_getElem hk]
  rw [e, List.flatten_append]; simp
set_option maxRecDepth 100000 in
theorem flat_le (l : List (List Nat)) (k : Nat) : (l.take k).flatten.length ≤ l.flatten.length := by
  conv => rhs; rw [← List.take_append_drop k l]
  rw [List.flatten_append, List.length_append]; omega

set_option maxRecDepth 100000 in
theorem Tryd.zero119 : ∀ w, (zeroValue 119).run Tryd.prog w = .ok (.agg (arr .u8 z64)) w := (zero_of_info (t := 119) (n := 64) (by kernel_rfl)).1
set_option maxRecDepth 100000 in
theorem Tryd.size119o : (Tryd.prog.info? 119).map (·.size) = some 64 := by kernel_rfl

set_option maxRecDepth 100000 in
theorem flat_lt (l : List (List Nat)) (h : ∀ y ∈ l, ∀ j, y.getD j 0 < 256) : ∀ j, l.flatten.getD j 0 < 256 := by
  induction l with
  | nil => intro j; simp
  | cons y l ih =>
    rw [List.flatten_cons]
    exact getD_app y l.flatten (h y (by simp)) (ih (fun z hz => h z (by simp [hz])))
set_option maxRecDepth 100000 in
theorem Ps.lt {w : World} {a : Option Addr} {cap : Nat} {l : List (List Nat)} (h : Ps w a cap l) : ∀ j, l.flatten.getD j 0 < 256 := by
  refine flat_lt l (fun y hy => ?_)
  obtain ⟨i, hi, rfl⟩ := List.getElem_of_mem hy
  obtain ⟨_, _, _, _, hc⟩ := h.cells (by omega)
  obtain ⟨_, _, _, _, hr⟩ := hc i hi
  have e : l.getD i [] = l[i] := by simp [List.getD, List.getElem?_eq_getElem hi]
  rw [← e]
  exact hr.hi

/-- What the walk of Sum keeps from the blocks on. -/
structure MemS (w wr : World) (gS ag ac : Nat) (al : List Nat) (s : St) : Prop where
  res : wr.heap[w.heap.size]? = some (.cells (arr .u8 z32) 22 (0, 0))
  sv : wr.heap[gS]? = some (.cells (arr .u32 s.list) 118 (0, 0))
  rd : Rd wr (.slice (some ⟨ag, 0, none⟩) al.length ac) (some ⟨ag, 0, none⟩) ac al
  bel : Below w.heap.size w wr

set_option maxRecDepth 100000 in
theorem MemS.later {w wr w' : World} {gS ag ac : Nat} {al : List Nat} {s : St} (h : MemS w wr gS ag ac al s) (hb : Below wr.heap.size wr w') : MemS w w' gS ag ac al s := by
  have h1 : w.heap.size < wr.heap.size := (Array.getElem?_eq_some_iff.1 h.res).1
  have h2 : gS < wr.heap.size := (Array.getElem?_eq_some_iff.1 h.sv).1
  exact ⟨by rw [hb.block _ h1]; exact h.res, by rw [hb.block _ h2]; exact h.sv, h.rd.later hb, Bn h.bel hb⟩

set_option maxRecDepth 100000 in
theorem MemS.keep {w wr w' : World} {gS ag ac B : Nat} {al : List Nat} {s : St} (h : MemS w wr gS ag ac al s) (hb : Below B wr w') (h1 : w.heap.size < B) (h2 : gS < B) (h3 : ag < B) : MemS w w' gS ag ac al s := by
  refine ⟨by rw [hb.block _ h1]; exact h.res, by rw [hb.block _ h2]; exact h.sv, ⟨h.rd.val, h.rd.room, h.rd.most, fun h0 => ?_, h.rd.hi, h.rd.nil⟩, h.bel.trans (hb.mono (by omega))⟩
  obtain ⟨b, off, ha, hbw, hc⟩ := h.rd.cells h0
  injection ha with ha'
  injection ha' with hb1 hb2
  subst hb1 hb2
  exact ⟨ag, 0, rfl, Nat.lt_of_lt_of_le hbw hb.size, fun j hj => (hb.cell (p := ⟨ag, 0 + j, none⟩) h3).trans (hc j hj)⟩

set_option maxRecDepth 100000 in
theorem blk_lt (l : List Nat) (h : ∀ j, l.getD j 0 < 256) (p : Nat) : ∀ j, ((l.drop p).take 64).getD j 0 < 256 := by
  intro j
  by_cases hj : j < 64
  · have := h (p + j)
    simpa [List.getD, List.getElem?_take_of_lt hj, List.getElem?_drop] using this
  · have hn : ((l.drop p).take 64)[j]? = none := List.getElem?_eq_none (by rw [List.length_take]; omega)
    simp [List.getD, hn]
set_option maxRecDepth 100000 in
theorem blk_get (l : List Nat) (p j : Nat) (hj : j < 64) : ((l.drop p).take 64).getD j 0 = l.getD (p + j) 0 := by
  simp [List.getD, List.getElem?_take_of_lt hj, List.getElem?_drop]

end Go.Proofs.YtpbaacplgohniaaDoor.Sh
