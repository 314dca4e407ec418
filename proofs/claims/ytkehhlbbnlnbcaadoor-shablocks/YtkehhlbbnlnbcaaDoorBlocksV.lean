/-
  What the statement ShaBlocks needs besides.
-/
import Derived.Test.YtkehhlbbnlnbcaaDoorBlocksW
import Derived.Test.YtkehhlbbnlnbcaaDoorPiecesW
import Derived.Test.YtkehhlbbnlnbcaaDoorCutsW
namespace Go.Proofs.YtkehhlbbnlnbcaaDoor.shaBlocks
open Go.ChangeShapes Go.WideShapes Go.ChangeAt Go.RowKit Sha shaPieces

theorem put_state (w : World) (l : List Nat) (g : Nat) (hg : g = w.heap.size) :
    Below w.heap.size w ((w.alloc (.cells (arr .u32 z8) 31)).setRow g (arr .u32 l)) ∧ ((w.alloc (.cells (arr .u32 z8) 31)).setRow g (arr .u32 l)).heap[g]? = some (.cells (arr .u32 l) 31 (0, 0)) ∧ ((w.alloc (.cells (arr .u32 z8) 31)).setRow g (arr .u32 l)).heap.size = w.heap.size + 1 := by
  subst hg
  have b := bel_alloc w (.cells (arr .u32 z8) 31)
  have e := heap_new w (.cells (arr .u32 z8) 31)
  have h1 := setRow_heap _ w.heap.size _ (arr .u32 l) _ _ e
  refine ⟨below_setRow b (Nat.le_refl _) _, h1, ?_⟩
  simp

theorem flat_len (bl : List (List Nat)) (h : ∀ j, j < bl.length → (bl.getD j []).length = 64) : ∀ k, k ≤ bl.length → (bl.take k).flatten.length = 64 * k
  | 0, _ => by simp
  | k + 1, hk => by rw [flat_take bl k (by omega), List.length_append, flat_len bl h k (by omega), h k (by omega)]; omega
theorem step_one (bl : List (List Nat)) (h : ∀ j, j < bl.length → (bl.getD j []).length = 64) (k : Nat) (hk : k < bl.length) :
    blocks (k + 1) (bl.take (k + 1)).flatten Sha.start = Sha.step (blocks k (bl.take k).flatten Sha.start) (bl.getD k []) := by
  have h1 := flat_len bl h k (by omega)
  rw [blocks_snoc, flat_take bl k hk, blocks_app _ _ _ _ (by omega), List.drop_append_of_le_length (by omega), List.drop_eq_nil_of_le (by omega), List.nil_append, show (bl.getD k []).take 64 = bl.getD k [] from List.take_of_length_le (by rw [h k hk]; omega)]
theorem step_two (al rs : List Nat) (n j : Nat) (h : al.length = 64 * n) : blocks (n + j + 1) (al ++ rs) Sha.start = Sha.step (blocks (n + j) (al ++ rs) Sha.start) ((rs.drop (64 * j)).take 64) := by
  rw [blocks_snoc, List.drop_append, List.drop_eq_nil_of_le (by omega), List.nil_append, show 64 * (n + j) - al.length = 64 * j from by omega]
theorem rd_block {w : World} {b off : Nat} {y : List Nat} (hy : y.length = 64) (hlo : ∀ i, y.getD i 0 < 256) (hb : b < w.heap.size) (hc : ∀ i, i < 64 → w.cell? ⟨b, off + i, none⟩ = some (.int .u8 ((y.getD i 0 : Nat) : Int))) : Rd w (.slice (some ⟨b, off, none⟩) 64 64) (some ⟨b, off, none⟩) 64 y :=
  ⟨by rw [hy], by omega, by unfold maxLen; omega, fun _ => ⟨b, off, rfl, hb, fun j hj => hc j (by omega)⟩, hlo, fun h => by cases h⟩
theorem load_block {w : World} {b off : Nat} {y : List Nat} (hy : y.length = 64) (hc : ∀ i, i < 64 → w.cell? ⟨b, off + i, none⟩ = some (.int .u8 ((y.getD i 0 : Nat) : Int))) : (Instr.loadAt 32 (.pointer (some ⟨b, off, none⟩))).run Tryd.prog w = .ok (.agg (arr .u8 y)) w := by
  refine run_loadAt_mid w b off 32 (lst .u8 y) _ (fun j v hv => ?_) Tryd.underlying32 rfl (by rw [lst_length, hy]; exact Tryd.size32)
  have hj : j < y.length := by have := (List.getElem?_eq_some_iff.1 hv).1; rw [lst_length] at this; exact this
  rw [hc j (by omega), ← hv]
  simp [lst, List.getD, List.getElem?_eq_getElem hj]
/-- copy, as an operation. -/
theorem wp_copy_run {o : Oper} {ac : Act} {w w' : World} {K : Act → World → Prop} {Q : Exit → Act → World → Prop} (s x : Operand) (ho : o.op = .call { callee := .builtin .copy, args := #[s, x], argTypes := #[35, 35] }) (p q v : Value) (hs : ac.eval s = p) (hx : ac.eval x = q)
    (h : ∀ ty, (Builtin.copy_ #[35, 35] ty #[p, q]).run Tryd.prog w = .ok v w') (hK : K (ac.put o.dst v) w') : o.wp Tryd.prog ac w K Q := by
  unfold Oper.wp execOp
  simp only [ho, resolve, invoke, builtin, Sem.run_bind, Sem.run_pure, Result.andThen_ok, List.map_toArray, List.map_cons, List.map_nil, hs, hx, h]
  exact hK
theorem own_kept {w w' : World} {B g n : Nat} {v : Value} {xs : List Value} (h : w.ownsRow B 5 1 v n xs) (hg : w.grownBy w' (some g)) (hB : g < B) : w'.ownsRow B 5 1 v n xs := by
  refine ⟨h.1, ?_⟩
  rcases h.2 with h1 | ⟨g', cap, cur, hv, hg', hh, hr⟩
  · exact Or.inl h1
  · have hlt : g' < w.heap.size := (Array.getElem?_eq_some_iff.1 hh).1
    exact Or.inr ⟨g', cap, cur, hv, hg', (hg.block g' hlt (by intro h; injection h with h; omega)).trans hh, hr⟩
theorem rd_part {w : World} {b off : Nat} {y : List Nat} (hy : y.length = 64) (hlo : ∀ i, y.getD i 0 < 256) (hb : b < w.heap.size) (hc : ∀ i, i < 64 → w.cell? ⟨b, off + i, none⟩ = some (.int .u8 ((y.getD i 0 : Nat) : Int))) : Rd w (.slice (some ⟨b, off, none⟩) y.length 64) (some ⟨b, off, none⟩) 64 y :=
  ⟨rfl, by omega, by unfold maxLen; omega, fun _ => ⟨b, off, rfl, hb, fun j hj => hc j (by omega)⟩, hlo, fun h => by cases h⟩
theorem slice_whole (b off : Nat) (W : World) : (Instr.sliceAt 32 (.pointer (some ⟨b, off, none⟩)) none none none).run Tryd.prog W = .ok (.slice (some ⟨b, off, none⟩) 64 64) W := by
  have h := run_sliceAt_array_all (P := Tryd.prog) W 32 ⟨b, off, none⟩ Tryd.underlying32
  rw [h, show Tryd.prog.elem 32 = 5 from rfl, Tryd.sizeB, show Tryd.prog.arrayLen 32 = 64 from rfl]
  simp only [Result.andThen_ok, slicedAt]
  rw [if_neg (by omega)]
  simp [Addr.add]
theorem app_len (w : World) {ops : Array Oper} {rest : List Oper} {o : Oper} {ac : Act} {Q : Exit → Act → World → Prop} (hgd : o.guard = none) (s x : Operand)
    (ho : o.op = .call { callee := .builtin .append, args := #[s, x], argTypes := #[35, 35] }) (B : Nat) (v : Value) (l : List Nat) (hs : ac.eval s = v) (hown : w.ownsRow B 5 1 v l.length (V l))
    (a : Option Addr) (cap : Nat) (zs : List Nat) (m : Nat) (hx : ac.eval x = .slice a m cap) (hm : zs.length = m) (hrd : Rd w (.slice a zs.length cap) a cap zs) (hbd : l.length + zs.length ≤ 1000000) (hB : B ≤ w.heap.size)
    (h : ∀ v' w', w'.ownsRow B 5 1 v' (l ++ zs).length (V (l ++ zs)) → w.grownBy w' v.ownBlock → wpList Tryd.prog ops Q rest (ac.put o.dst v') w') : wpList Tryd.prog ops Q (o :: rest) ac w := by
  subst hm
  exact app_any w hgd s x ho B v l hs hown a cap zs hx hrd hbd hB h
theorem bs_lt {w : World} {a : Option Addr} {cap : Nat} {bl : List (List Nat)} (h : Bs w a cap bl) (k : Nat) : ∀ j, (bl.take k).flatten.getD j 0 < 256 := by
  refine flat_lt _ (fun y hy => ?_)
  obtain ⟨i, hi, rfl⟩ := List.getElem_of_mem (List.mem_of_mem_take hy)
  have := h.lo i hi
  simpa [List.getD, List.getElem?_eq_getElem hi] using this
theorem rd_any {w : World} {B : Nat} {a : Option Addr} {c : Nat} {l : List Nat} {n : Nat} (hown : w.ownsRow B 5 1 (.slice a n c) n (V l)) (hn : l.length = n) (hz : ∀ j, l.getD j 0 < 256) : Rd w (.slice a n c) a c l := by
  subst hn
  have h' := hown
  rcases hown.2 with ⟨h0, h1⟩ | ⟨g, cp, cur, hv, hg, hh, hn, hcap, _, _⟩
  · injection h0 with h01 h02 h03
    subst h01 h03
    exact ⟨rfl, by omega, by unfold maxLen; omega, fun h => by omega, hz, fun _ => rfl⟩
  · injection hv with hv1 hv2 hv3
    subst hv1 hv3
    refine ⟨rfl, hn, hcap, fun _ => ⟨g, 0, rfl, (Array.getElem?_eq_some_iff.1 hh).1, fun j hj => ?_⟩, hz, fun h => by cases h⟩
    rw [Nat.zero_add, h'.cellAt j (by omega)]
    simp [V, List.getD, List.getElem?_eq_getElem hj]
theorem slice_at (rg len cap m : Nat) (h : 64 * m < len) (hc : len ≤ cap) (W : World) : (Instr.slice 35 (.slice (some ⟨rg, 0, none⟩) len cap) (some (.int .i64 (64 * (m : Int)))) none none).run Tryd.prog W = .ok (.slice (some ⟨rg, 64 * m, none⟩) (len - 64 * m) (cap - 64 * m)) W := by
  have := slice_rest (some ⟨rg, 0, none⟩) len cap (64 * m) (by omega) W
  rw [show ((64 * m : Nat) : Int) = 64 * (m : Int) from by omega] at this
  rw [this, sliced, if_neg (by omega)]
  simp [Go.WideShapes.add_plain]
theorem copy_block (w : World) (gB rg p len cap : Nat) (bk : List Nat) (hb : w.heap[gB]? = some (.cells (arr .u8 z64) 32 (0, 0))) (h64 : bk.length = 64) (hlen : 64 ≤ len) (hc : ∀ i, i < 64 → w.cell? ⟨rg, p + i, none⟩ = some (.int .u8 ((bk.getD i 0 : Nat) : Int))) (ty : TypeId) :
    (Builtin.copy_ #[35, 35] ty #[.slice (some ⟨gB, 0, none⟩) 64 64, .slice (some ⟨rg, p, none⟩) len cap]).run Tryd.prog w = .ok (goInt 64) (w.setRow gB (arr .u8 bk)) := by
  have hl : (lst .u8 bk).length = 64 := by rw [lst_length, h64]
  have h := run_copy_row (P := Tryd.prog) w 35 35 ty 5 gB 0 64 64 ⟨rg, p, none⟩ len cap (arr .u8 z64) 32 (lst .u8 bk) Tryd.underlying35 (by kernel_rfl) hb (by rw [hl]; exact (Nat.min_eq_right hlen).symm) (fun j v hv => by
    have hj : j < 64 := by have := (List.getElem?_eq_some_iff.1 hv).1; omega
    rw [Go.WideShapes.add_plain, hc j hj, ← hv]
    simp [lst, List.getD, List.getElem?_eq_getElem (show j < bk.length by omega)]) (by rw [hl, arr_size]; exact Nat.le_refl 64) (lst_one _ _)
  rw [h, hl, List.take_zero, List.nil_append, List.drop_eq_nil_of_le (by rw [Array.length_toList, arr_size]; exact Nat.le_refl 64), List.append_nil, arr_lst]
  rfl
theorem digest_blocks (al z rs : List Nat) (n m : Nat) (hrs : z ++ pad (al.length + z.length) = rs) (ha : al.length = 64 * n) (hr : rs.length = 64 * m) : digest (al ++ z) = Sha.bytes (blocks (n + m) (al ++ rs) Sha.start) := by
  have e : (al ++ z) ++ pad (al ++ z).length = al ++ rs := by rw [List.length_append, List.append_assoc, hrs]
  have e2 : (al ++ rs).length / 64 = n + m := by rw [List.length_append, ha, hr]; omega
  rw [digest, e, e2]
theorem two_flat (x y : List Nat) : [x, y].flatten = x ++ y := by simp
end Go.Proofs.YtkehhlbbnlnbcaaDoor.shaBlocks
