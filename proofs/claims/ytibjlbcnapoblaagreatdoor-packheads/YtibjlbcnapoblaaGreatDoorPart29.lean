/-
 The contract of the document's Pad: the padding, in new memory.
-/
import Derived.Test.YtibjlbcnapoblaaGreatDoorPart10
import Derived.Laws.AppendOwn
import Derived.Test.YtibjlbcnapoblaaGreatDoorPart28
import Derived.Laws.AppendOwnNone
import Derived.Laws.BytesArg
import Derived.Test.YtibjlbcnapoblaaGreatDoorPart11
namespace Go.Proofs.YtibjlbcnapoblaaGreatDoor.Sh
open Go.RowKit Sha

theorem Tryz.info5 : (Tryz.prog.info? 5).map (fun i => (i.zero, i.size, i.bytes)) = some (some (.int .u8 0), 1, 1) := by kernel_rfl

def V (l : List Nat) : List Value := l.map (fun z : Nat => Value.int .u8 (z : Int))

theorem V_length (l : List Nat) : (V l).length = l.length := by simp [V]
theorem V_snoc (l : List Nat) (z : Nat) : V l ++ [.int .u8 (z : Int)] = V (l ++ [z]) := by simp [V]

def slen : Value → Nat
 | .slice _ n _ => n
 | _ => 0
theorem slen_own {w : World} {B e n : Nat} {v : Value} {xs : List Value} (h : w.ownsRow B e 1 v n xs) : slen v = n := by
 rcases h.2 with ⟨rfl, rfl⟩ | ⟨g, cap, cur, rfl, _⟩
 · rfl
 · rfl

theorem own_first (w : World) (z : Nat) : (w.alloc (.cells #[.int .u8 (z : Int)] 5)).ownsRow w.heap.size 5 1 (.slice (some ⟨w.heap.size, 0, none⟩) 1 1) 1 (V [z]) :=
 ⟨rfl, Or.inr ⟨w.heap.size, 1, #[.int .u8 (z : Int)], rfl, Nat.le_refl _, heap_new w _, Nat.le_refl _, by unfold maxLen; omega, rfl, rfl⟩⟩

theorem one_new (w : World) (v : Value) : ∀ (j : Nat) (u : Value), [v][j]? = some u → (w.alloc (.cells #[v] 5)).cell? (Addr.add ⟨w.heap.size, 0, none⟩ j) = some u := by
 intro j u h
 match j, h with
 | 0, h => simp at h; subst h; simp [Addr.add]

theorem one_cell (z : Int) : ∀ u ∈ [Value.int .u8 z], u.oneCell' = true := by
 intro u hu
 simp at hu
 subst hu
 rfl

def zeroes (n : Nat) : Nat := (119 - n % 64) % 64
theorem more_zeroes (n z : Nat) (hz : z ≤ zeroes n) : (n % 64 + (z + 1) + 8) % 64 = 0 ↔ z = zeroes n := by
 unfold zeroes at *; omega
def tailL (n i : Nat) : List Nat := (List.range i).map fun i => (8 * n) % 2 ^ 64 / 256 ^ (7 - i) % 256
theorem tailL_succ (n i : Nat) : tailL n (i + 1) = tailL n i ++ [(8 * n) % 2 ^ 64 / 256 ^ (7 - i) % 256] := by
 rw [tailL, List.range_succ, List.map_append]; rfl
theorem tailL_length (n i : Nat) : (tailL n i).length = i := by simp [tailL]
def outX (n i : Nat) : Nat := (8 * n) % 2 ^ 64 * 256 ^ i % 2 ^ 64

theorem outX_succ (n i : Nat) : outX n i * 256 % 2 ^ 64 = outX n (i + 1) := by
 unfold outX
 rw [Nat.mod_mul_mod, Nat.mul_assoc, ← Nat.pow_succ]
theorem outX_byte (n i : Nat) (hi : i < 8) : outX n i / 72057594037927936 = (8 * n) % 2 ^ 64 / 256 ^ (7 - i) % 256 := by
 unfold outX
 generalize (8 * n) % 2 ^ 64 = x
 have hp : (2 : Nat) ^ 64 = 256 ^ (8 - i) * 256 ^ i := by rw [← Nat.pow_add, show 8 - i + i = 8 from by omega]
 have hq : (72057594037927936 : Nat) = 256 ^ (7 - i) * 256 ^ i := by rw [← Nat.pow_add, show 7 - i + i = 7 from by omega]
 have h8 : (256 : Nat) ^ (8 - i) = 256 ^ (7 - i) * 256 := by rw [← Nat.pow_succ, show (7 - i).succ = 8 - i from by omega]
 have hpos : 0 < 256 ^ i := Nat.pow_pos (by decide)
 rw [hp, Nat.mul_mod_mul_right, hq, Nat.mul_div_mul_right _ _ hpos, h8, Nat.mod_mul_right_div_self]
theorem outX_lt (n i : Nat) : outX n i < 2 ^ 64 := Nat.mod_lt _ (by decide)
theorem outX_start (n : Nat) : IntKind.u64.wrap ((n : Int) * 8) = ((outX n 0 : Nat) : Int) := by
 rw [IntKind.wrap_u64]; unfold outX; rw [Nat.pow_zero, Nat.mul_one, Nat.mod_mod]; omega
theorem pad_parts (n : Nat) : pad n = 128 :: List.replicate (zeroes n) 0 ++ tailL n 8 := rfl

set_option maxHeartbeats 1600000 in
theorem pad_ref (n : Nat) (w : World) (hn : n < 2 ^ 64) :
   Calls Tryz.prog 61 #[.int .u64 (n : Int)] w fun e w' => ∃ v, e = .returned v ∧ w'.ownsRow w.heap.size 5 1 v (pad n).length (V (pad n)) ∧ Below w.heap.size w w' := by
 obtain ⟨i0, hi, hz0, hz1, hz2⟩ := info_parts Tryz.info5
 have O1 := own_first w 128
 have B1 := bel_alloc w (.cells #[.int .u8 ((128 : Nat) : Int)] 5)
 have hzl : zeroes n < 64 := Nat.mod_lt _ (by decide)
 go_enter Tryz.func61, Tryz.ntmps61
 go_wp2_with fail
 rw [show (128 : Int) = ((128 : Nat) : Int) from rfl]
 generalize w.alloc (.cells #[.int .u8 ((128 : Nat) : Int)] 5) = w1 at *
 go_loopw [3] (fun v wr => ∃ z : Nat, z ≤ zeroes n ∧ wr.ownsRow w.heap.size 5 1 v (z + 1) (V (128 :: List.replicate z 0)) ∧ Below w.heap.size w wr) (fun v _ => 64 - slen v)
 case atStart => exact ⟨0, by omega, O1, B1⟩
 case round =>
   obtain ⟨z, hz, hown, hbel⟩ := hrel
   obtain ⟨g, cap, rfl⟩ := Joins.ownsRow_form hown (by omega)
   have hmz := more_zeroes n z hz
   by_cases hze : z = zeroes n
   · have hc : (((n : Int) % 64 + ((z : Int) + 1) + 8) % 64 != 0) = false := by
       have := hmz.2 hze
       simp
       omega
     have HX0 := hid (outX_start n)
     have hl0 : (V (128 :: List.replicate z 0 ++ tailL n 0)) = V (128 :: List.replicate z 0) := by simp [tailL]
     rw [← hl0] at hown
     have HOW := hid hown
     have HZE := hid hze
     clear hown hmz O1 hl0 hze
     go_wp2_with fail
     rw [HX0.out]
     go_loopw [3, 4, 5] (fun v x i wr => ∃ j : Nat, j ≤ 8 ∧ i = .int .i64 j ∧ x = .int .u64 ((outX n j : Nat) : Int) ∧ wr.ownsRow w.heap.size 5 1 v (z + 1 + j) (V (128 :: List.replicate z 0 ++ tailL n j)) ∧ Below w.heap.size w wr) (fun _ _ i _ => 8 - (intOf i).toNat)
     case atStart => exact ⟨0, by omega, rfl, rfl, HOW.out, hbel⟩
     case round =>
       obtain ⟨j, hj, rfl, rfl, hown, hbel⟩ := hrel
       by_cases hlt : j < 8
       · have hj8 : (j : Int) < 8 := by omega
         have HBY := hid (outX_byte n j hlt)
         have HSU := hid (outX_succ n j)
         have hol := outX_lt n j
         have HTL := hid (tailL_succ n j)
         have hby : outX n j / 72057594037927936 < 256 := by omega
         have HI : Hid ((outX n j : Int) / 72057594037927936 = ((outX n j / 72057594037927936 : Nat) : Int)) := by
           show _ = _
           omega
         generalize outX n j = x at *
         go_wp2_with (at_builtin; refine wpList_append_own _ rfl _ _ 22 rfl w.heap.size 5 i0 (.int .u8 0) 1 1 Tryz.underlying22 hi hz0 hz1 hz2 rfl (by decide) _ _ _ rfl (hown.alloc _) ⟨wr.heap.size, 0, none⟩ 1 1 [.int .u8 ((x : Int) / 72057594037927936)] rfl rfl (one_new wr _) (one_cell _) (by unfold maxLen; omega) (by omega) (by have := hbel.size; simp; omega) ?_)
         intro v' w2 hown' hgrow _
         have hb2 := (hbel.alloc hbel.size _).grown hgrow (by have := hbel.size; simp; omega) (fun j hj => (hown.lt j hj).1)
         have R : w2.ownsRow w.heap.size 5 1 v' (z + 1 + (j + 1)) (V (128 :: List.replicate z 0 ++ tailL n (j + 1))) := by
           rw [HTL.out, ← List.append_assoc, ← V_snoc, ← HBY.out, ← HI.out]
           exact hown'
         clear hown' hgrow hown
         go_wp2
         refine ⟨⟨j + 1, by omega, by go_num, ?_, R, hb2⟩, by simp [intOf]; omega⟩
         rw [IntKind.wrap_u64, ← HSU.out]
         congr 1
       · obtain rfl : j = 8 := by omega
         have R : wr.ownsRow w.heap.size 5 1 u3 (pad n).length (V (pad n)) := by
           rw [pad_parts, ← HZE.out]
           have e : (128 :: List.replicate z 0 ++ tailL n 8).length = z + 1 + 8 := by simp [tailL_length]
           rw [e]
           exact hown
         clear hown
         go_wp2
         go_ret
         exact ⟨_, rfl, R, hbel⟩
   · have hc : (((n : Int) % 64 + ((z : Int) + 1) + 8) % 64 != 0) = true := by
       have h1 : ¬ (n % 64 + (z + 1) + 8) % 64 = 0 := fun h => hze (hmz.1 h)
       simp
       omega
     have hzlt : z < zeroes n := by omega
     clear hmz O1 hze
     go_wp2_with (at_builtin; refine wpList_append_own _ rfl _ _ 22 rfl w.heap.size 5 i0 (.int .u8 0) 1 1 Tryz.underlying22 hi hz0 hz1 hz2 rfl (by decide) _ _ _ rfl (hown.alloc _) ⟨wr.heap.size, 0, none⟩ 1 1 [.int .u8 0] rfl rfl (one_new wr _) (one_cell _) (by unfold maxLen; omega) (by omega) (by have := hbel.size; simp; omega) ?_)
     intro v' w2 hown' hgrow _
     have hb2 := (hbel.alloc hbel.size _).grown hgrow (by have := hbel.size; simp; omega) (fun j hj => (hown.lt j hj).1)
     have R : w2.ownsRow w.heap.size 5 1 v' (z + 1 + 1) (V (128 :: List.replicate (z + 1) 0)) := by
       have e : V (128 :: List.replicate z 0) ++ [.int .u8 0] = V (128 :: List.replicate (z + 1) 0) := by
         rw [show (0 : Int) = ((0 : Nat) : Int) from rfl, V_snoc, List.cons_append, ← List.replicate_succ']
       rw [← e]; exact hown'
     have hs1 := slen_own R
     clear hown' hgrow hown
     go_wp2
     refine ⟨⟨z + 1, by omega, R, hb2⟩, ?_⟩
     rw [hs1]
     show 64 - (z + 1 + 1) < 64 - (z + 1)
     omega
end Go.Proofs.YtibjlbcnapoblaaGreatDoor.Sh
/-
 The contract of the document's Sum: the digest of all rows.
-/
namespace Go.Proofs.YtibjlbcnapoblaaGreatDoor.Sh
open Go.RowKit Sha

structure Rd (w : World) (v : Value) (a : Option Addr) (cap : Nat) (zs : List Nat) : Prop where
 val : v = .slice a zs.length cap
 room : zs.length ≤ cap
 most : cap ≤ maxLen
 cells : 0 < zs.length → ∃ b off, a = some ⟨b, off, none⟩ ∧ b < w.heap.size ∧ ∀ j, j < zs.length → w.cell? ⟨b, off + j, none⟩ = some (.int .u8 ((zs.getD j 0 : Nat) : Int))
 hi : ∀ j, zs.getD j 0 < 256
 nil : a = none → cap = 0

set_option maxRecDepth 100000 in
theorem Rd.later {w w' : World} {v : Value} {a : Option Addr} {cap : Nat} {zs : List Nat} (h : Rd w v a cap zs) (hb : Below w.heap.size w w') : Rd w' v a cap zs := by
 refine ⟨h.val, h.room, h.most, fun h0 => ?_, h.hi, h.nil⟩
 obtain ⟨b, off, ha, hbw, hc⟩ := h.cells h0
 exact ⟨b, off, ha, Nat.lt_of_lt_of_le hbw hb.size, fun j hj => (hb.cell (p := ⟨b, off + j, none⟩) hbw).trans (hc j hj)⟩

structure Ps (w : World) (a : Option Addr) (cap : Nat) (l : List (List Nat)) : Prop where
 room : l.length ≤ cap
 most : cap ≤ maxLen
 cells : 0 < l.length → ∃ b off, a = some ⟨b, off, none⟩ ∧ b < w.heap.size ∧ ∀ j, j < l.length → ∃ v a' cap', w.cell? ⟨b, off + j, none⟩ = some v ∧ Rd w v a' cap' (l.getD j [])

set_option maxRecDepth 100000 in
theorem V_one (l : List Nat) : ∀ u ∈ V l, u.oneCell' = true := by
 intro u hu
 simp only [V, List.mem_map] at hu
 obtain ⟨z, _, rfl⟩ := hu
 rfl

set_option maxRecDepth 100000 in
theorem grown_refl (w : World) (r : Option Nat) : w.grownBy w r := ⟨rfl, rfl, rfl, Nat.le_refl _, fun _ _ _ => rfl⟩

set_option maxRecDepth 100000 in
theorem app_any (w : World) {ops : Array Oper} {rest : List Oper} {o : Oper} {ac : Act} {Q : Exit → Act → World → Prop} (hgd : o.guard = none) (s x : Operand)
   (ho : o.op = .call { callee := .builtin .append, args := #[s, x], argTypes := #[22, 22] }) (B : Nat) (v : Value) (l : List Nat) (hs : ac.eval s = v) (hown : w.ownsRow B 5 1 v l.length (V l))
   (a : Option Addr) (cap : Nat) (zs : List Nat) (hx : ac.eval x = .slice a zs.length cap) (hrd : Rd w (.slice a zs.length cap) a cap zs) (hbd : l.length + zs.length ≤ 1000000) (hB : B ≤ w.heap.size)
   (h : ∀ v' w', w'.ownsRow B 5 1 v' (l ++ zs).length (V (l ++ zs)) → w.grownBy w' v.ownBlock → wpList Tryz.prog ops Q rest (ac.put o.dst v') w') : wpList Tryz.prog ops Q (o :: rest) ac w := by
 obtain ⟨i0, hi, hz0, hz1, hz2⟩ := info_parts Tryz.info5
 cases a with
 | none =>
   have hz : zs = [] := by
     apply List.length_eq_zero_iff.1
     rcases Nat.eq_zero_or_pos zs.length with h | h
     · exact h
     · obtain ⟨_, _, h', _⟩ := hrd.cells h
       cases h'
   subst hz
   have hc := hrd.nil rfl
   subst hc
   refine wpList_append_own_none hgd s x 22 ho B 5 i0 1 Tryz.underlying22 hi v l.length _ hs hown hx ?_
   have := h v w (by simpa using hown) (grown_refl _ _)
   exact this
 | some ad =>
   refine wpList_append_own w hgd s x 22 ho B 5 i0 (.int .u8 0) 1 1 Tryz.underlying22 hi hz0 hz1 hz2 rfl (by decide) v l.length _ hs hown ad zs.length cap (V zs) hx (by simp [V]) ?_ (V_one _) (by unfold maxLen; omega) (by omega) hB ?_
   · intro j u hj
     have hjl : j < zs.length := by
       have := (List.getElem?_eq_some_iff.1 hj).1
       simpa [V] using this
     obtain ⟨b, off, hb, _, hc⟩ := hrd.cells (by omega)
     injection hb with hb
     subst hb
     rw [Go.WideShapes.add_plain, hc j hjl, ← hj]
     simp [V, List.getD, List.getElem?_eq_getElem hjl]
   · intro v' w' h1 h2 _
     refine h v' w' ?_ h2
     rw [List.length_append, show V (l ++ zs) = V l ++ V zs from by simp [V]]
     exact h1

set_option maxRecDepth 100000 in
theorem rd_own {w : World} {B : Nat} {v : Value} {l : List Nat} (hown : w.ownsRow B 5 1 v l.length (V l)) (h0 : 0 < l.length) (hz : ∀ j, l.getD j 0 < 256) :
   ∃ g cap, v = .slice (some ⟨g, 0, none⟩) l.length cap ∧ B ≤ g ∧ Rd w v (some ⟨g, 0, none⟩) cap l := by
 have h' := hown
 rcases hown.2 with ⟨_, h1⟩ | ⟨g, cp, cur, rfl, hg, hh, hn, hcap, _, _⟩
 · omega
 · refine ⟨g, cp, rfl, hg, rfl, hn, hcap, fun _ => ⟨g, 0, rfl, (Array.getElem?_eq_some_iff.1 hh).1, fun j hj => ?_⟩, hz, fun h => by cases h⟩
   rw [Nat.zero_add, h'.cellAt j (by omega)]
   simp [V, List.getD, List.getElem?_eq_getElem hj]

set_option maxRecDepth 100000 in
theorem getD_app (l m : List Nat) (hl : ∀ j, l.getD j 0 < 256) (hm : ∀ j, m.getD j 0 < 256) (j : Nat) : (l ++ m).getD j 0 < 256 := by
 by_cases hj : j < l.length
 · have := hl j
   simpa [List.getD, List.getElem?_append_left hj] using this
 · have := hm (j - l.length)
   simpa [List.getD, List.getElem?_append_right (show l.length ≤ j by omega)] using this
end Go.Proofs.YtibjlbcnapoblaaGreatDoor.Sh
/-
 Plain facts on rows of bytes that are owned, on blocks and on paddings.
-/
namespace Go.Proofs.YtibjlbcnapoblaaGreatDoor.Sh
open Go.RowKit Sha

set_option maxRecDepth 100000 in
theorem own_later {w w' : World} {B n : Nat} {v : Value} {xs : List Value} (h : w.ownsRow B 5 1 v n xs) (hb : Below w.heap.size w w') : w'.ownsRow B 5 1 v n xs := by
 refine ⟨h.1, ?_⟩
 rcases h.2 with h1 | ⟨g, cap, cur, hv, hg, hh, hr⟩
 · exact Or.inl h1
 · have hlt : g < w.heap.size := (Array.getElem?_eq_some_iff.1 hh).1
   exact Or.inr ⟨g, cap, cur, hv, hg, (hb.block g hlt).trans hh, hr⟩

set_option maxRecDepth 100000 in
theorem own_slice {w : World} {B n : Nat} {v : Value} {xs : List Value} (h : w.ownsRow B 5 1 v n xs) : ∃ a cap, v = .slice a n cap := by
 rcases h.2 with ⟨rfl, rfl⟩ | ⟨g, cap, cur, rfl, _⟩
 · exact ⟨none, 0, rfl⟩
 · exact ⟨_, cap, rfl⟩

set_option maxRecDepth 100000 in
theorem blocksG_snoc (f : St → List Nat → St) (n : Nat) : ∀ (l : List Nat) (s : St), blocksG f (n + 1) l s = f (blocksG f n l s) ((l.drop (64 * n)).take 64) := by
 induction n with
 | zero => intro l s; rw [blocksG_succ, blocksG_zero, blocksG_zero, Nat.mul_zero, List.drop_zero]
 | succ n ih => intro l s; rw [blocksG_succ, ih, blocksG_succ, List.drop_drop, show 64 + 64 * n = 64 * (n + 1) from by omega]

set_option maxRecDepth 100000 in
theorem pad_length (n : Nat) : (n + (pad n).length) % 64 = 0 ∧ 9 ≤ (pad n).length ∧ (pad n).length ≤ 72 := by
 have h : (pad n).length = zeroes n + 9 := by rw [pad_parts]; simp [tailL_length]
 rw [h]; unfold zeroes; omega
set_option maxRecDepth 100000 in
theorem pad_lt (n j : Nat) : (pad n).getD j 0 < 256 := by
 have h : ∀ z ∈ pad n, z < 256 := by
   intro z hz
   rw [pad_parts, List.mem_append] at hz
   rcases hz with h | h
   · rw [List.mem_cons] at h
     rcases h with h | h
     · omega
     · rw [List.eq_of_mem_replicate h]; decide
   · simp only [tailL, List.mem_map] at h
     obtain ⟨i, _, rfl⟩ := h
     exact Nat.mod_lt _ (by decide)
 by_cases hj : j < (pad n).length
 · have : (pad n).getD j 0 ∈ pad n := by
     simp only [List.getD, List.getElem?_eq_getElem hj, Option.getD_some]
     exact List.getElem_mem hj
   exact h _ this
 · simp [List.getD, List.getElem?_eq_none (show (pad n).length ≤ j from by omega)]

set_option maxRecDepth 100000 in
theorem flat_take (l : List (List Nat)) (k : Nat) (hk : k < l.length) : (l.take (k + 1)).flatten = (l.take k).flatten ++ l.getD k [] := by
 have e : l.take (k + 1) = l.take k ++ [l.getD k []] := by
   rw [List.take_succ_eq_append_getElem hk]
   simp [List.getD, List.getElem?_eq_getElem hk]
 rw [e, List.flatten_append]; simp
set_option maxRecDepth 100000 in
theorem flat_le (l : List (List Nat)) (k : Nat) : (l.take k).flatten.length ≤ l.flatten.length := by
 conv => rhs; rw [← List.take_append_drop k l]
 rw [List.flatten_append, List.length_append]; omega

set_option maxRecDepth 100000 in
theorem Tryz.zero96 : ∀ w, (zeroValue 96).run Tryz.prog w = .ok (.agg (arr .u8 z64)) w := (zero_of_info (t := 96) (n := 64) (by kernel_rfl)).1
set_option maxRecDepth 100000 in
theorem Tryz.size96o : (Tryz.prog.info? 96).map (·.size) = some 64 := by kernel_rfl

set_option maxRecDepth 100000 in
theorem flat_lt (l : List (List Nat)) (h : ∀ y ∈ l, ∀ j, y.getD j 0 < 256) : ∀ j, l.flatten.getD j 0 < 256 := by
 induction l with
 | nil => intro j; simp
 | cons y l ih =>
   rw [List.flatten_cons]
   exact getD_app y l.flatten (h y (by simp)) (ih (fun z hz => h z (by simp [hz])))
set_option maxRecDepth 100000 in
theorem Ps.lt {w : World} {a : Option Addr} {cap : Nat} {l : List (List Nat)} (h : Ps w a cap l) : ∀ j, l.flatten.getD j 0 < 256 := by
 refine flat_lt l (fun y hy => ?_)
 obtain ⟨i, hi, rfl⟩ := List.getElem_of_mem hy
 obtain ⟨_, _, _, _, hc⟩ := h.cells (by omega)
 obtain ⟨_, _, _, _, hr⟩ := hc i hi
 have e : l.getD i [] = l[i] := by simp [List.getD, List.getElem?_eq_getElem hi]
 rw [← e]
 exact hr.hi

structure MemS (w wr : World) (gS ag ac : Nat) (al : List Nat) (s : St) : Prop where
 res : wr.heap[w.heap.size]? = some (.cells (arr .u8 z32) 36 (0, 0))
 sv : wr.heap[gS]? = some (.cells (arr .u32 s.list) 95 (0, 0))
 rd : Rd wr (.slice (some ⟨ag, 0, none⟩) al.length ac) (some ⟨ag, 0, none⟩) ac al
 bel : Below w.heap.size w wr

set_option maxRecDepth 100000 in
theorem MemS.later {w wr w' : World} {gS ag ac : Nat} {al : List Nat} {s : St} (h : MemS w wr gS ag ac al s) (hb : Below wr.heap.size wr w') : MemS w w' gS ag ac al s := by
 have h1 : w.heap.size < wr.heap.size := (Array.getElem?_eq_some_iff.1 h.res).1
 have h2 : gS < wr.heap.size := (Array.getElem?_eq_some_iff.1 h.sv).1
 exact ⟨by rw [hb.block _ h1]; exact h.res, by rw [hb.block _ h2]; exact h.sv, h.rd.later hb, Bn h.bel hb⟩

set_option maxRecDepth 100000 in
theorem MemS.keep {w wr w' : World} {gS ag ac B : Nat} {al : List Nat} {s : St} (h : MemS w wr gS ag ac al s) (hb : Below B wr w') (h1 : w.heap.size < B) (h2 : gS < B) (h3 : ag < B) : MemS w w' gS ag ac al s := by
 refine ⟨by rw [hb.block _ h1]; exact h.res, by rw [hb.block _ h2]; exact h.sv, ⟨h.rd.val, h.rd.room, h.rd.most, fun h0 => ?_, h.rd.hi, h.rd.nil⟩, h.bel.trans (hb.mono (by omega))⟩
 obtain ⟨b, off, ha, hbw, hc⟩ := h.rd.cells h0
 injection ha with ha'
 injection ha' with hb1 hb2
 subst hb1 hb2
 exact ⟨ag, 0, rfl, Nat.lt_of_lt_of_le hbw hb.size, fun j hj => (hb.cell (p := ⟨ag, 0 + j, none⟩) h3).trans (hc j hj)⟩

set_option maxRecDepth 100000 in
theorem blk_lt (l : List Nat) (h : ∀ j, l.getD j 0 < 256) (p : Nat) : ∀ j, ((l.drop p).take 64).getD j 0 < 256 := by
 intro j
 by_cases hj : j < 64
 · have := h (p + j)
   simpa [List.getD, List.getElem?_take_of_lt hj, List.getElem?_drop] using this
 · have hn : ((l.drop p).take 64)[j]? = none := List.getElem?_eq_none (by rw [List.length_take]; omega)
   simp [List.getD, hn]
set_option maxRecDepth 100000 in
theorem blk_get (l : List Nat) (p j : Nat) (hj : j < 64) : ((l.drop p).take 64).getD j 0 = l.getD (p + j) 0 := by
 simp [List.getD, List.getElem?_take_of_lt hj, List.getElem?_drop]

end Go.Proofs.YtibjlbcnapoblaaGreatDoor.Sh
/-
 The contracts of sha's right and of math/bits.RotateLeft32.
-/
namespace Go.Proofs.YtibjlbcnapoblaaGreatDoor.Sh
open Go.RowKit Sha

theorem and31 (n : Nat) (h0 : 0 < n) (hn : n < 32) : bits .and .u64 (IntKind.u64.wrap (-(n : Int))) 31 = ((32 - n : Nat) : Int) := by
 rw [IntKind.wrap_u64, show (-(n : Int)) % 18446744073709551616 = ((18446744073709551616 - n : Nat) : Int) from by omega, show (31 : Int) = ((31 : Nat) : Int) from rfl, u64_and_nat _ _ (by omega) (by decide), show (31 : Nat) = 2 ^ 5 - 1 from rfl, Nat.and_two_pow_sub_one_eq_mod]
 omega

theorem rot_join (x n s : Nat) (hx : x < 2 ^ 32) (hs : n + s = 32) : bits .or .u32 (IntKind.u32.wrap ((x : Int) * 2 ^ s)) ((x : Int) / 2 ^ n) = ((rotN n x : Nat) : Int) := by
 have hq : (2 : Nat) ^ 32 = 2 ^ n * 2 ^ s := by rw [← Nat.pow_add, hs]
 have hp : 0 < 2 ^ n := Nat.two_pow_pos n
 have e1 : IntKind.u32.wrap ((x : Int) * 2 ^ s) = ((x % 2 ^ n * 2 ^ s : Nat) : Int) := by
   rw [IntKind.wrap_u32, show (4294967296 : Int) = ((2 ^ 32 : Nat) : Int) from rfl, show (2 : Int) ^ s = ((2 ^ s : Nat) : Int) from by simp, ← Int.natCast_mul, ← Int.natCast_emod, hq, Nat.mul_mod_mul_right]
 have e2 : (x : Int) / 2 ^ n = ((x / 2 ^ n : Nat) : Int) := by rw [show (2 : Int) ^ n = ((2 ^ n : Nat) : Int) from by simp, Int.natCast_ediv]
 have hl : x / 2 ^ n < 2 ^ s := by rw [Nat.div_lt_iff_lt_mul hp, Nat.mul_comm, ← hq]; exact hx
 have hh : x % 2 ^ n * 2 ^ s < 2 ^ 32 := by
   rw [hq]; exact Nat.mul_lt_mul_of_pos_right (Nat.mod_lt _ hp) (Nat.two_pow_pos s)
 rw [e1, e2, u32_or_nat _ _ hh (Nat.lt_of_le_of_lt (Nat.div_le_self _ _) hx), nat_join s _ _ (Nat.mul_mod_left _ _) hl, rotN_quick n x (by omega) hx, rotQ, show 32 - n = s from by omega, Nat.add_comm]

theorem rot_word (x n : Nat) (w : World) (hx : x < 2 ^ 32) (h0 : 0 < n) (hn : n < 32) :
   Calls Tryz.prog 124 #[.int .u32 (x : Int), .int .i64 (-(n : Int))] w fun e w' => e = .returned (.int .u32 ((rotN n x : Nat) : Int)) ∧ w' = w := by
 obtain ⟨s, hs⟩ : ∃ s, n + s = 32 := ⟨32 - n, by omega⟩
 have HA := and31 n h0 hn
 rw [show 32 - n = s from by omega] at HA
 have HR := hid (rot_join x n s hx hs)
 have hss : 32 - s = n := by omega
 go_enter Tryz.func124, Tryz.ntmps124
 go_wp2
 go_ret
 exact ⟨ret_int (by rw [← HR.out, IntKind.wrap_u32]), rfl⟩

theorem right_word (x n : Nat) (z : Int) (w : World) (hx : x < 2 ^ 32) (h0 : 0 < n) (hn : n < 32) (hz : z = (n : Int)) :
   Calls Tryz.prog 89 #[.int .u32 (x : Int), .int .i64 z] w fun e w' => e = .returned (.int .u32 ((rotN n x : Nat) : Int)) ∧ w' = w := by
 subst hz
 have HC := hid (fun W : World => rot_word x n W hx h0 hn)
 go_enter Tryz.func89, Tryz.ntmps89
 go_wp2_with (go_at_call 124; refine (HC.out _).mono ?_; rintro e w' ⟨rfl, rfl⟩)
 go_ret
 exact ⟨rfl, rfl⟩

theorem shr_int (x n : Nat) (hx : x < 2 ^ 32) (hn : n ≤ 32) : (x : Int) / 2 ^ n = ((movN n x : Nat) : Int) := by
 rw [movN_quick n x hn hx, show (2 : Int) ^ n = ((2 ^ n : Nat) : Int) from by simp, Int.natCast_ediv]
end Go.Proofs.YtibjlbcnapoblaaGreatDoor.Sh
/-
 The contract of sha's spread: the numbers w of a block.
-/
namespace Go.Proofs.YtibjlbcnapoblaaGreatDoor.Sh
open Go.RowKit Sha

def ints (l : List Nat) : List Int := l.map fun z : Nat => (z : Int)
theorem ints_length (l : List Nat) : (ints l).length = l.length := by simp [ints]
theorem ints_getD (l : List Nat) (j : Nat) : (ints l).getD j 0 = ((l.getD j 0 : Nat) : Int) := by
 simp only [ints, List.getD, List.getElem?_map]
 cases l[j]? <;> rfl

def sixteen (bl : List Nat) : List Int := Wd.wordsF 4 1 (ints bl) 16
theorem sixteen_length (bl : List Nat) : (sixteen bl).length = 16 := Wd.wordsF_length _ _ _ _

theorem four_list (l : List Int) (h : l.length = 4) : l = [l.getD 0 0, l.getD 1 0, l.getD 2 0, l.getD 3 0] := by
 match l, h with
 | [a, b, c, d], _ => rfl

theorem be4_num (b0 b1 b2 b3 : Nat) (h0 : b0 < 256) (h1 : b1 < 256) (h2 : b2 < 256) (h3 : b3 < 256) : (((0 * 256 + (b0 : Int)) * 256 + (b1 : Int)) * 256 + (b2 : Int)) * 256 + (b3 : Int) = ((add32 (add32 (add32 (b0 * 16777216 % 4294967296) (b1 * 65536 % 4294967296)) (b2 * 256 % 4294967296)) b3 : Nat) : Int) := by
 unfold add32; omega

theorem sixteen_get (bl : List Nat) (hl : bl.length = 64) (hb : ∀ j, bl.getD j 0 < 256) (k : Nat) (hk : k < 16) : (sixteen bl).getD k 0 = ((wS bl k : Nat) : Int) := by
 rw [sixteen, Wd.wordsF_getD 4 1 (ints bl) 16 k hk, Wd.numF, if_pos rfl, wS_low bl k hk]
 have hlen : (((ints bl).drop (k * 4)).take 4).length = 4 := by rw [List.length_take, List.length_drop, ints_length, hl]; omega
 rw [four_list _ hlen, Wd.getD_drop_take _ _ _ _ (by decide), Wd.getD_drop_take _ _ _ _ (by decide), Wd.getD_drop_take _ _ _ _ (by decide), Wd.getD_drop_take _ _ _ _ (by decide), ints_getD, ints_getD, ints_getD, ints_getD, be4, Nat.mul_comm k 4, Nat.add_zero]
 exact be4_num _ _ _ _ (hb _) (hb _) (hb _) (hb _)

structure MemP (w wr : World) (gl : Nat) (ls : List Int) (ws : List Nat) : Prop where
 res : wr.heap[w.heap.size + 1]? = some (.cells (arr .u32 z64) 138 (0, 0))
 wv : wr.heap[w.heap.size + 1 + 1]? = some (.cells (arr .u32 ws) 138 (0, 0))
 lv : ∀ j, j < 16 → wr.cell? ⟨gl, j, none⟩ = some (.int .u64 (ls.getD j 0))
 bel : Below w.heap.size w wr

theorem MemP.put {w wr : World} {gl : Nat} {ls : List Int} {ws : List Nat} (h : MemP w wr gl ls ws) (hg : gl ≠ w.heap.size + 1 + 1) (i v : Nat) : MemP w (wr.setCell ⟨w.heap.size + 1 + 1, i, none⟩ (.int .u32 (v : Int))) gl ls (ws.set i v) := by
 refine ⟨?_, ?_, fun j hj => ?_, h.bel.setCell (by simp; omega) _⟩
 · rw [heap_put_other h.wv (by omega)]; exact h.res
 · rw [Joins.block_setCell h.wv, arr_set]
 · rw [World.cell?_of_block (w := wr) (heap_put_other h.wv hg _)]; exact h.lv j hj

theorem MemP.drew {w wr : World} {gl : Nat} {ls : List Int} {ws : List Nat} (h : MemP w wr gl ls ws) : MemP w wr.drew gl ls ws := ⟨h.res, h.wv, h.lv, h.bel.drew⟩

theorem sum4_code (p q a c : Nat) : ((p : Int) + (q : Int) + (a : Int) + (c : Int)) % 4294967296 = ((add32 (add32 (add32 p a) q) c : Nat) : Int) := by
 unfold add32; omega

theorem Tryz.size138 : (Tryz.prog.info? 138).map (·.size) = some 64 := by kernel_rfl

theorem words_block (g : Nat) (bl : List Nat) (w : World) (hg : g < w.heap.size) (hl : bl.length = 64) (hb : ∀ j, bl.getD j 0 < 256) (hc : ∀ j, j < 64 → w.cell? ⟨g, j, none⟩ = some (.int .u8 ((bl.getD j 0 : Nat) : Int))) :
   Calls Tryz.prog 123 #[.slice (some ⟨g, 0, none⟩) 64 64, .int .i64 32, .int .i64 1] w fun e w' => ∃ gl cap, e = .returned (.tuple #[.slice (some ⟨gl, 0, none⟩) 16 cap, .int .i64 0]) ∧ w.heap.size ≤ gl ∧ gl < w'.heap.size ∧ (∀ j, j < 16 → w'.cell? ⟨gl, j, none⟩ = some (.int .u64 ((sixteen bl).getD j 0))) ∧ Below w.heap.size w w' := by
 have hr : Wd.Rd w (.slice (some ⟨g, 0, none⟩) (ints bl).length 64) (some ⟨g, 0, none⟩) 64 (ints bl) := by
   refine ⟨rfl, by rw [ints_length]; omega, by unfold maxLen; omega, fun _ => ⟨g, 0, rfl, hg, fun j hj => ?_⟩, fun j => ?_, fun j => ?_⟩
   · rw [Nat.zero_add, ints_getD]; exact hc j (by rw [ints_length] at hj; omega)
   · rw [ints_getD]; omega
   · rw [ints_getD]; have := hb j; omega
 have h := Wd.words_ok (some ⟨g, 0, none⟩) 64 (ints bl) 32 1 4 16 w hr (by decide) (by decide) (by decide) (by decide) (by rw [ints_length, hl]; decide) (by rw [ints_length, hl])
 rw [ints_length, hl] at h
 refine h.mono ?_
 rintro e w' ⟨v, rfl, hown, hbel⟩
 have hlen := sixteen_length bl
 have hown' := hown
 rcases hown.2 with ⟨_, h0⟩ | ⟨gl, cap, cur, rfl, hg2, hh, hn, hcap, _, _⟩
 · exact absurd h0 (by rw [show (Wd.wordsF 4 1 (ints bl) 16).length = 16 from hlen]; decide)
 · refine ⟨gl, cap, by rw [show (Wd.wordsF 4 1 (ints bl) 16).length = 16 from hlen], hg2, (Array.getElem?_eq_some_iff.1 hh).1, fun j hj => ?_, hbel⟩
   have hj' : j < (Wd.wordsF 4 1 (ints bl) 16).length := by rw [show (Wd.wordsF 4 1 (ints bl) 16).length = 16 from hlen]; exact hj
   rw [hown'.cellAt j hj']
   simp [sixteen, List.getD, List.getElem?_eq_getElem hj']

set_option maxHeartbeats 4000000 in
set_option maxRecDepth 100000 in
theorem spread_word (bl : List Nat) (w : World) (hl : bl.length = 64) (hb : ∀ j, bl.getD j 0 < 256) :
   Calls Tryz.prog 88 #[.agg (arr .u8 bl)] w fun e w' => e = .returned (.agg (arr .u32 (sched bl 64))) ∧ Below w.heap.size w w' := by
 have HG := hid (sixteen_get bl hl hb)
 have HWD := hid (fun (W : World) h1 h2 => words_block w.heap.size bl W h1 hl hb h2)
 have b1 := bel_alloc w (.cells (arr .u8 bl) 96)
 have s1 : (w.alloc (.cells (arr .u8 bl) 96)).heap.size = w.heap.size + 1 := by simp
 have e1 := heap_new w (.cells (arr .u8 bl) 96)
 have b2 := bel_alloc (w.alloc (.cells (arr .u8 bl) 96)) (.cells (arr .u32 z64) 138)
 have s2 : ((w.alloc (.cells (arr .u8 bl) 96)).alloc (.cells (arr .u32 z64) 138)).heap.size = w.heap.size + 1 + 1 := by simp
 have e2 := heap_new (w.alloc (.cells (arr .u8 bl) 96)) (.cells (arr .u32 z64) 138)
 have b3 := bel_alloc ((w.alloc (.cells (arr .u8 bl) 96)).alloc (.cells (arr .u32 z64) 138)) (.cells (arr .u32 z64) 138)
 have e3 := heap_new ((w.alloc (.cells (arr .u8 bl) 96)).alloc (.cells (arr .u32 z64) 138)) (.cells (arr .u32 z64) 138)
 have s3 : (((w.alloc (.cells (arr .u8 bl) 96)).alloc (.cells (arr .u32 z64) 138)).alloc (.cells (arr .u32 z64) 138)).heap.size = w.heap.size + 1 + 1 + 1 := by simp
 have HL := hid hl
 rw [s1] at e2
 rw [s2] at e3
 go_enter Tryz.func88, Tryz.ntmps88
 go_wp2_with (first
   | (refine wpList_alloc_at rfl 138 rfl (some 2) rfl (arr .u32 z64) Tryz.zero138 (w.heap.size + 1) (by simp) ?_)
   | (refine wpList_alloc_at rfl 138 rfl (some 3) rfl (arr .u32 z64) Tryz.zero138 (w.heap.size + 1 + 1) (by simp) ?_))
 generalize hw3 : ((w.alloc (.cells (arr .u8 bl) 96)).alloc (.cells (arr .u32 z64) 138)).alloc (.cells (arr .u32 z64) 138) = w3 at *
 have e1' : w3.heap[w.heap.size]? = some (.cells (arr .u8 bl) 96 (0, 0)) := by rw [b3.block _ (by omega), b2.block _ (by omega)]; exact e1
 have e2' : w3.heap[w.heap.size + 1]? = some (.cells (arr .u32 z64) 138 (0, 0)) := by rw [b3.block _ (by omega)]; exact e2
 have hB3 := Bn (Bn b1 b2) b3
 clear b1 s1 e1 b2 s2 e2 b3 hw3
 refine (HWD.out w3 (by omega) (fun j hj => (Joins.cell_of_block e1' j).trans (arr_get .u8 bl j (by have := HL.out; omega)))).mono ?_
 rintro _ w4 ⟨gl, cap, rfl, hgl, hgl4, hlv, hb4⟩
 have hM : MemP w w4 gl (sixteen bl) (wsL bl 0) := ⟨by rw [hb4.block _ (by omega)]; exact e2', by rw [hb4.block _ (by omega)]; exact e3, hlv, Bn hB3 hb4⟩
 have hgne : gl ≠ w.heap.size + 1 + 1 := by omega
 clear hb4 hlv hB3 e3 e1' e2' HWD hl hb
 go_wp2_with fail
 go_loopw [20] (fun i wr => ∃ k : Nat, k ≤ 16 ∧ i = .int .i64 k ∧ MemP w wr gl (sixteen bl) (wsL bl k)) (fun i _ => 16 - (intOf i).toNat)
 case atStart => exact ⟨0, by omega, rfl, hM⟩
 case round =>
   obtain ⟨k, hk, rfl, hM⟩ := hrel
   by_cases hlt : k < 16
   · have hk16 : (k : Int) < 16 := by omega
     have cl := hM.lv k hlt
     rw [HG.out k hlt] at cl
     have hwl := wsL_length bl k (by omega)
     have cw := (Joins.cell_of_block hM.wv k).trans (arr_get .u32 _ k (by omega))
     have fw := Joins.unfrozen_of_block hM.wv k
     have hput := hM.put hgne k (wS bl k)
     rw [wsL_set bl k (by omega)] at hput
     have hv := wS_lt bl k
     have HP := hid hput
     clear hput hM hwl
     generalize (wsL bl k).getD k 0 = old at *
     generalize wS bl k = v at *
     go_wp2
     exact ⟨⟨k + 1, by omega, by go_num, HP.out⟩, by simp [intOf]; omega⟩
   obtain rfl : k = 16 := by omega
   have HM := hid hM
   clear hM
   go_wp2_with fail
   rw [show ((16 : Nat) : Int) = 16 from rfl]
   go_loopw [8] (fun i wr => ∃ j : Nat, j ≤ 48 ∧ i = .int .i64 ((j : Int) + 16) ∧ MemP w wr gl (sixteen bl) (wsL bl (j + 16))) (fun i _ => 64 - (intOf i).toNat)
   case atStart => exact ⟨0, by omega, rfl, HM.out⟩
   case round =>
     obtain ⟨j, hj, rfl, hM⟩ := hrel
     by_cases hlt : j < 48
     · have hj48 : (j : Int) + 16 < 64 := by omega
       have hwl := wsL_length bl (j + 16) (by omega)
       have d0 := (Joins.cell_of_block hM.wv j).trans (arr_get .u32 _ j (by omega))
       have d1 := (Joins.cell_of_block hM.wv (j + 1)).trans (arr_get .u32 _ _ (by omega))
       have d9 := (Joins.cell_of_block hM.wv (j + 9)).trans (arr_get .u32 _ _ (by omega))
       have d14 := (Joins.cell_of_block hM.wv (j + 14)).trans (arr_get .u32 _ _ (by omega))
       have dw := (Joins.cell_of_block hM.wv (j + 16)).trans (arr_get .u32 _ _ (by omega))
       have fw := Joins.unfrozen_of_block hM.wv (j + 16)
       rw [wsL_get bl (j + 16) _ (by omega)] at d0 d1 d9 d14
       have x0 := wS_lt bl j
       have x1 := wS_lt bl (j + 1)
       have x9 := wS_lt bl (j + 9)
       have x14 := wS_lt bl (j + 14)
       have HN := hid (wS_step bl j)
       have HS0 := hid (sg0_int _ x1)
       have HS1 := hid (sg1_int _ x14)
       have HM0 : Hid ((wS bl (j + 1) : Int) / 8 = ((movN 3 (wS bl (j + 1)) : Nat) : Int)) := shr_int _ 3 x1 (by decide)
       have HM1x : Hid ((wS bl (j + 14) : Int) / 1024 = ((movN 10 (wS bl (j + 14)) : Nat) : Int)) := shr_int _ 10 x14 (by decide)
       have HSM := hid (sum4_code (wS bl j) (wS bl (j + 9)) (sg0 (wS bl (j + 1))) (sg1 (wS bl (j + 14))))
       have y0 := sg0_lt _ x1
       have y1 := sg1_lt _ x14
       have hput := fun W (h : MemP w W gl (sixteen bl) (wsL bl (j + 16))) => (h.put hgne (j + 16) (wS bl (j + 16))).drew
       rw [wsL_set bl (j + 16) (by omega), HN.out] at hput
       have HP := hid hput
       have HM := hid hM
       clear hput hM hwl
       generalize (wsL bl (j + 16)).getD (j + 16) 0 = old at *
       generalize wS bl j = v0 at *
       generalize wS bl (j + 1) = v1 at *
       generalize wS bl (j + 9) = v9 at *
       generalize wS bl (j + 14) = v14 at *
       go_wp2_with fail
       go_region
       have HM1 := hid HM.out.drew
       generalize hW1 : wr.drew = W1 at *
       have e0 : W1.cell? ⟨w.heap.size + 1 + 1, j, none⟩ = some (.int .u32 (v0 : Int)) := by rw [← hW1]; exact d0
       have e9 : W1.cell? ⟨w.heap.size + 1 + 1, j + 9, none⟩ = some (.int .u32 (v9 : Int)) := by rw [← hW1]; exact d9
       have ew : W1.cell? ⟨w.heap.size + 1 + 1, j + 16, none⟩ = some (.int .u32 (old : Int)) := by rw [← hW1]; exact dw
       have ef : W1.frozen? ⟨w.heap.size + 1 + 1, j + 16, none⟩ = false := by rw [← hW1]; exact fw
       clear d0 d1 d9 d14 dw fw HM hW1
       go_wp2_with fail
       go_at_call 89
       refine (right_word v1 7 _ _ x1 (by decide) (by decide) rfl).mono ?_
       rintro _ w' ⟨rfl, hw⟩
       obtain rfl := hw.symm
       clear hw
       go_wp2_with fail
       go_at_call 89
       refine (right_word v1 18 _ _ x1 (by decide) (by decide) rfl).mono ?_
       rintro _ w' ⟨rfl, hw⟩
       obtain rfl := hw.symm
       clear hw
       go_wp2_with fail
       rw [HM0.out, HS0.out]
       go_at_call 89
       refine (right_word v14 17 _ _ x14 (by decide) (by decide) rfl).mono ?_
       rintro _ w' ⟨rfl, hw⟩
       obtain rfl := hw.symm
       clear hw
       go_wp2_with fail
       go_at_call 89
       refine (right_word v14 19 _ _ x14 (by decide) (by decide) rfl).mono ?_
       rintro _ w' ⟨rfl, hw⟩
       obtain rfl := hw.symm
       clear hw
       go_wp2_with fail
       rw [HM1x.out, HS1.out]
       generalize sg0 v1 = t0 at *
       generalize sg1 v14 = t1 at *
       go_region
       rw [HSM.out]
       have HP1 := hid (HP.out _ HM1.out)
       generalize hW2 : (W1.setCell ⟨w.heap.size + 1 + 1, j + 16, none⟩ (.int .u32 ((add32 (add32 (add32 v0 t0) v9) t1 : Nat) : Int))).drew = W2 at *
       clear hW2
       go_wp2
       go_roundw
       case rel => exact ⟨j + 1, by omega, by go_num, by rw [show j + 1 + 16 = j + 16 + 1 from by omega]; exact HP1.out⟩
       case measure => simp [intOf]; omega
     · obtain rfl : j = 48 := by omega
       rw [show 48 + 16 = 64 from rfl, wsL_full] at hM
       have hres := hM.res
       have hwv := hM.wv
       have hbel := hM.bel
       have hsz : (arr .u32 (sched bl 64)).size = 64 := by rw [arr_size, sched_length]
       clear hM HM
       go_wp2_with (first
         | (refine wpList_load_row rfl 138 _ rfl (w.heap.size + 1 + 1) rfl 138 (arr .u32 (sched bl 64)) (0, 0) _ hwv Tryz.underlying138 rfl (by rw [hsz]; exact Tryz.size138) ?_)
         | (refine wpList_store_rowTo rfl 138 _ _ rfl rfl (w.heap.size + 1) (arr .u32 (sched bl 64)) rfl rfl 138 _ hres (by rw [hsz]; exact Tryz.size138) (by rw [hsz]; rfl) (arr_one _ _) ?_))
       refine bodyPost_ret (results_cell_row (ty := 138) rfl _ _ _ _ _ _ _ rfl (setRow_heap _ _ _ _ _ _ hres) Tryz.underlying138 rfl (by rw [hsz]; exact Tryz.size138)) rfl ?_
       exact ⟨rfl, below_setRow hbel (by omega) _⟩
end Go.Proofs.YtibjlbcnapoblaaGreatDoor.Sh
