/-
  A Hash in memory: its cells, what it has taken, and sha.New.
-/
import Derived.Test.YtgnjicpmfpgdeaaDoorShPadW
import Derived.Deep.MidRow
import Derived.StillTailTactics
namespace Go.Proofs.YtgnjicpmfpgdeaaDoor.Sh
open Go.RowKit Sha

/-- Numbers of a kind as cells. -/
def lst (k : IntKind) (l : List Nat) : List Value := l.map fun z : Nat => Value.int k (z : Int)
set_option maxRecDepth 100000 in
theorem lst_length (k : IntKind) (l : List Nat) : (lst k l).length = l.length := by simp [lst]
set_option maxRecDepth 100000 in
theorem arr_lst (k : IntKind) (l : List Nat) : (lst k l).toArray = arr k l := rfl
set_option maxRecDepth 100000 in
theorem lst_one (k : IntKind) (l : List Nat) : ∀ v ∈ lst k l, v.oneCell' = true := by
  intro v hv
  simp only [lst, List.mem_map] at hv
  obtain ⟨z, _, rfl⟩ := hv
  rfl

/-- The cells of a Hash. -/
def hL (s : St) (op : List Nat) (n : Nat) : List Value := .bool true :: (lst .u32 s.list ++ (lst .u8 op ++ [.int .u64 (n : Int)]))
set_option maxRecDepth 100000 in
theorem list8 (s : St) : s.list.length = 8 := rfl
set_option maxRecDepth 100000 in
theorem hL_length (s : St) (op : List Nat) (n : Nat) (h : op.length = 64) : (hL s op n).length = 74 := by
  simp [hL, lst_length, list8, h]

set_option maxRecDepth 100000 in
theorem hL_made (s : St) (op : List Nat) (n : Nat) : (hL s op n)[0]? = some (.bool true) := rfl
set_option maxRecDepth 100000 in
theorem hL_st (s : St) (op : List Nat) (n j : Nat) (v : Value) (h : (lst .u32 s.list)[j]? = some v) : (hL s op n)[1 + j]? = some v := by
  have hj : j < (lst .u32 s.list).length := (List.getElem?_eq_some_iff.1 h).1
  rw [hL, Nat.add_comm, List.getElem?_cons_succ, List.getElem?_append_left hj]; exact h
set_option maxRecDepth 100000 in
theorem hL_op (s : St) (op : List Nat) (n j : Nat) (v : Value) (h : (lst .u8 op)[j]? = some v) : (hL s op n)[9 + j]? = some v := by
  have hj : j < (lst .u8 op).length := (List.getElem?_eq_some_iff.1 h).1
  rw [hL, show 9 + j = (8 + j) + 1 from by omega, List.getElem?_cons_succ, List.getElem?_append_right (by rw [lst_length, list8]; omega), lst_length, list8, show 8 + j - 8 = j from by omega, List.getElem?_append_left hj]; exact h
set_option maxRecDepth 100000 in
theorem hL_n (s : St) (op : List Nat) (n : Nat) (ho : op.length = 64) : (hL s op n)[73]? = some (.int .u64 (n : Int)) := by
  rw [hL, List.getElem?_cons_succ, List.getElem?_append_right (by rw [lst_length, list8]; omega), lst_length, list8, List.getElem?_append_right (by rw [lst_length, ho]; omega), lst_length, ho]; rfl
set_option maxRecDepth 100000 in
theorem hL_set_n (s : St) (op : List Nat) (n m : Nat) (ho : op.length = 64) : (hL s op n).set 73 (.int .u64 (m : Int)) = hL s op m := by
  rw [hL, List.set_cons_succ, List.set_append_right _ _ (by rw [lst_length, list8]; omega), lst_length, list8, List.set_append_right _ _ (by rw [lst_length, ho]; omega), lst_length, ho]; rfl
set_option maxRecDepth 100000 in
theorem hL_splice_st (s t : St) (op : List Nat) (n : Nat) : splice (hL s op n) 1 (lst .u32 t.list) = hL t op n := by
  rw [splice, lst_length, list8, hL, hL]
  rfl

/-- The bytes that lie in the open block behind more bytes. -/
def putL (op : List Nat) (at_ : Nat) (l : List Nat) : List Nat := op.take at_ ++ (l ++ op.drop (at_ + l.length))
set_option maxRecDepth 100000 in
theorem putL_length (op : List Nat) (i : Nat) (l : List Nat) (h : i + l.length ≤ op.length) : (putL op i l).length = op.length := by simp [putL]; omega
set_option maxRecDepth 100000 in
theorem hL_splice_op (s : St) (op : List Nat) (n i : Nat) (l : List Nat) (h : i + l.length ≤ op.length) : splice (hL s op n) (9 + i) (lst .u8 l) = hL s (putL op i l) n := by
  have e8 : (lst .u32 s.list).length = 8 := rfl
  have e1 : (hL s op n).take (9 + i) = .bool true :: (lst .u32 s.list ++ lst .u8 (op.take i)) := by
    rw [hL, show 9 + i = (8 + i) + 1 from by omega, List.take_succ_cons, List.take_append, e8, List.take_of_length_le (by rw [e8]; omega), show 8 + i - 8 = i from by omega, List.take_append, lst_length, show i - op.length = 0 from by omega, List.take_zero, List.append_nil, lst, lst, lst, List.map_take]
  have e2 : (hL s op n).drop (9 + i + l.length) = lst .u8 (op.drop (i + l.length)) ++ [.int .u64 (n : Int)] := by
    rw [hL, show 9 + i + l.length = (8 + (i + l.length)) + 1 from by omega, List.drop_succ_cons, List.drop_append, e8, List.drop_eq_nil_of_le (by rw [e8]; omega), List.nil_append, show 8 + (i + l.length) - 8 = i + l.length from by omega, List.drop_append, lst_length, show i + l.length - op.length = 0 from by omega, List.drop_zero, lst, lst, List.map_drop]
  rw [splice, lst_length, e1, e2, hL, putL]
  simp [lst]

/-- The block g holds a Hash that has taken the bytes msg. -/
structure Hs (w : World) (g : Nat) (msg : List Nat) (op : List Nat) : Prop where
  blk : w.heap[g]? = some (.cells (hL (blocks (msg.length / 64) msg Sha.start) op msg.length).toArray 123 (0, 0))
  len : op.length = 64
  lo : ∀ j, op.getD j 0 < 256
  tk : op.take (msg.length % 64) = msg.drop (64 * (msg.length / 64))
  hi : ∀ j, msg.getD j 0 < 256

set_option maxRecDepth 100000 in
theorem blocksG_app (f : St → List Nat → St) (n : Nat) : ∀ (l m : List Nat) (s : St), 64 * n ≤ l.length → blocksG f n (l ++ m) s = blocksG f n l s := by
  induction n with
  | zero => intro l m s _; rfl
  | succ n ih =>
    intro l m s h
    rw [blocksG_succ, blocksG_succ, List.drop_append_of_le_length (by omega), List.take_append_of_le_length (by omega), ih _ _ _ (by rw [List.length_drop]; omega)]
set_option maxRecDepth 100000 in
theorem blocks_app (n : Nat) (l m : List Nat) (s : St) (h : 64 * n ≤ l.length) : blocks n (l ++ m) s = blocks n l s := blocksG_app _ n l m s h
set_option maxRecDepth 100000 in
theorem blocks_snoc (n : Nat) (l : List Nat) (s : St) : blocks (n + 1) l s = Sha.step (blocks n l s) ((l.drop (64 * n)).take 64) := blocksG_snoc _ n l s

set_option maxRecDepth 100000 in
theorem all_lt (l : List Nat) : (∀ j, l.getD j 0 < 256) ↔ ∀ z ∈ l, z < 256 := by
  constructor
  · intro h z hz
    obtain ⟨i, hi, rfl⟩ := List.getElem_of_mem hz
    have := h i
    simpa [List.getD, List.getElem?_eq_getElem hi] using this
  · intro h j
    by_cases hj : j < l.length
    · have : l.getD j 0 ∈ l := by
        simp only [List.getD, List.getElem?_eq_getElem hj, Option.getD_some]
        exact List.getElem_mem hj
      exact h _ this
    · simp [List.getD, List.getElem?_eq_none (show l.length ≤ j from by omega)]
set_option maxRecDepth 100000 in
theorem putL_lt (op : List Nat) (i : Nat) (l : List Nat) (ho : ∀ j, op.getD j 0 < 256) (hl : ∀ j, l.getD j 0 < 256) : ∀ j, (putL op i l).getD j 0 < 256 := by
  rw [all_lt] at *
  intro z hz
  rw [putL, List.mem_append, List.mem_append] at hz
  rcases hz with h | h | h
  · exact ho z (List.mem_of_mem_take h)
  · exact hl z h
  · exact ho z (List.mem_of_mem_drop h)
set_option maxRecDepth 100000 in
theorem putL_take (op : List Nat) (i : Nat) (l : List Nat) (h : i + l.length ≤ op.length) : (putL op i l).take (i + l.length) = op.take i ++ l := by
  have e : (op.take i ++ l).length = i + l.length := by simp; omega
  rw [putL, ← List.append_assoc, List.take_append_of_le_length (by omega), List.take_of_length_le (by omega)]

set_option maxRecDepth 100000 in
theorem hs_less {W : World} {g : Nat} {M op l : List Nat} (len : op.length = 64) (lo : ∀ j, op.getD j 0 < 256) (tk : op.take (M.length % 64) = M.drop (64 * (M.length / 64))) (hi : ∀ j, M.getD j 0 < 256) (hl : ∀ j, l.getD j 0 < 256) (hlt : M.length % 64 + l.length < 64)
    (hb : W.heap[g]? = some (.cells (hL (blocks (M.length / 64) M Sha.start) (putL op (M.length % 64) l) (M.length + l.length)).toArray 123 (0, 0))) : Hs W g (M ++ l) (putL op (M.length % 64) l) := by
  have e1 : (M ++ l).length = M.length + l.length := List.length_append
  have e2 : (M ++ l).length / 64 = M.length / 64 := by omega
  have e3 : (M ++ l).length % 64 = M.length % 64 + l.length := by omega
  refine ⟨?_, by rw [putL_length _ _ _ (by omega)]; exact len, putL_lt _ _ _ lo hl, ?_, getD_app _ _ hi hl⟩
  · rw [e2, blocks_app _ _ _ _ (by omega), e1]; exact hb
  · rw [e3, e2, putL_take _ _ _ (by omega), tk, List.drop_append_of_le_length (by omega)]

set_option maxRecDepth 100000 in
theorem hs_full {W : World} {g : Nat} {M op l : List Nat} (len : op.length = 64) (lo : ∀ j, op.getD j 0 < 256) (tk : op.take (M.length % 64) = M.drop (64 * (M.length / 64))) (hi : ∀ j, M.getD j 0 < 256) (hl : ∀ j, l.getD j 0 < 256) (heq : M.length % 64 + l.length = 64)
    (hb : W.heap[g]? = some (.cells (hL (Sha.step (blocks (M.length / 64) M Sha.start) (putL op (M.length % 64) l)) (putL op (M.length % 64) l) (M.length + l.length)).toArray 123 (0, 0))) : Hs W g (M ++ l) (putL op (M.length % 64) l) := by
  have e1 : (M ++ l).length = M.length + l.length := List.length_append
  have e2 : (M ++ l).length / 64 = M.length / 64 + 1 := by omega
  have e3 : (M ++ l).length % 64 = 0 := by omega
  have hpl : (putL op (M.length % 64) l).length = 64 := by rw [putL_length _ _ _ (by omega)]; exact len
  have e4 : putL op (M.length % 64) l = (M ++ l).drop (64 * (M.length / 64)) := by
    have h := putL_take op (M.length % 64) l (by omega)
    rw [heq, List.take_of_length_le (by omega)] at h
    rw [h, tk, List.drop_append_of_le_length (by omega)]
  refine ⟨?_, hpl, putL_lt _ _ _ lo hl, ?_, getD_app _ _ hi hl⟩
  · rw [e2, blocks_snoc, blocks_app _ _ _ _ (by omega), ← e4, List.take_of_length_le (by omega), e1]; exact hb
  · rw [e3, e2, List.take_zero, List.drop_eq_nil_of_le (by omega)]

end Go.Proofs.YtgnjicpmfpgdeaaDoor.Sh
