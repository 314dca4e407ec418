/-
 Four bytes as a map's key; what lz's map of places says.
-/
import Derived.Test.YtibjlbcnapoblaaGreatDoorPart06
import Derived.Maps.OwnIn
import Derived.Maps.Views
import Derived.DeepKeys4
import Derived.WideKeyPair
import Derived.Laws.Cover3
import Derived.StillTailTactics
namespace Go.Proofs.YtibjlbcnapoblaaGreatDoor
open Go.RowKit Go.Shelf Lz Go.WideMaps

theorem Tryz.cells189 : Tryz.prog.cellsOf 189 = 4 := by kernel_rfl
theorem Tryz.row67 : (189 : TypeId) < Tryz.prog.types.size := of_decide_eq_true (by kernel_rfl)
theorem Tryz.wide67 : (match Tryz.prog.underlying 189 with | some (.array _ _) | some (.struct _) => true | _ => false) = true := by rw [Tryz.underlying189]
set_option maxRecDepth 100000 in
theorem Tryz.law67 : KeyLaw Tryz.prog 189 := deep_law_laid Tryz.laidOut (m := 2) (by omega) Tryz.row67 (by kernel_rfl) Tryz.wide67
theorem Tryz.keyed67 : Maps.Keyed Tryz.prog 189 := Maps.Keyed.of_law Tryz.law67
theorem Tryz.arr67 : ArrKey Tryz.prog 189 5 4 := ⟨Tryz.underlying189, by kernel_rfl, Tryz.cells5, Tryz.cells189⟩

def four (a b c d : Int) : Value := .agg #[.int .u8 a, .int .u8 b, .int .u8 c, .int .u8 d]
def fourL (a b c d : Int) : Lit := .string (keyBytes [.int .u8 a, .int .u8 b, .int .u8 c, .int .u8 d])

theorem keyOf_four {a b c d : Int} (wa : (Lit.int .u8 a).wf = true) (wb : (Lit.int .u8 b).wf = true) (wc : (Lit.int .u8 c).wf = true) (wd : (Lit.int .u8 d).wf = true) : keyOf Tryz.prog 189 (four a b c d) = some (fourL a b c d) := by
 have hkt := Tryz.arr67.keyType ⟨266, by kernel_rfl⟩
 have hm : Tryz.prog.types.size = 266 + 1 := by kernel_rfl
 unfold keyOf four
 simp only [Tryz.arr67.hu]
 rw [if_pos (by simp [hkt, Value.formed, Tryz.arr67.hu, Tryz.arr67.size]), hm]
 unfold Program.keyLits
 simp only [Tryz.arr67.hu, Value.cells]
 rw [if_pos (by rw [Tryz.arr67.size]; rfl), show List.range 4 = [0, 1, 2, 3] from rfl, List.mapM_cons, List.mapM_cons, List.mapM_cons, List.mapM_cons, List.mapM_nil]
 simp [Tryz.arr67.one, Program.keyLits, Tryz.underlying5, wa, wb, wc, wd, fourL]

theorem keyBytes_u8 {a : Int} (h : 0 ≤ a ∧ a ≤ 255) : Lit.keyBytes (.int .u8 a) = [UInt8.ofNat a.toNat] := by
 show [UInt8.ofNat ((a % 2 ^ 8).toNat % 256)] = _
 have h2 : a % 2 ^ 8 = a := Int.emod_eq_of_lt h.1 (by omega)
 rw [h2, Nat.mod_eq_of_lt (by omega)]

theorem byte_inj {a b : Int} (ha : 0 ≤ a ∧ a ≤ 255) (hb : 0 ≤ b ∧ b ≤ 255) (h : UInt8.ofNat a.toNat = UInt8.ofNat b.toNat) : a = b := by
 have := congrArg UInt8.toNat h
 simp only [UInt8.toNat_ofNat'] at this
 omega

theorem fourL_inj {a b c d a' b' c' d' : Int} (ha : 0 ≤ a ∧ a ≤ 255) (hb : 0 ≤ b ∧ b ≤ 255) (hc : 0 ≤ c ∧ c ≤ 255) (hd : 0 ≤ d ∧ d ≤ 255) (ha' : 0 ≤ a' ∧ a' ≤ 255) (hb' : 0 ≤ b' ∧ b' ≤ 255) (hc' : 0 ≤ c' ∧ c' ≤ 255) (hd' : 0 ≤ d' ∧ d' ≤ 255)
   (h : fourL a b c d = fourL a' b' c' d') : a = a' ∧ b = b' ∧ c = c' ∧ d = d' := by
 unfold fourL keyBytes at h
 simp only [List.flatMap_cons, List.flatMap_nil, keyBytes_u8 ha, keyBytes_u8 hb, keyBytes_u8 hc, keyBytes_u8 hd, keyBytes_u8 ha', keyBytes_u8 hb', keyBytes_u8 hc', keyBytes_u8 hd', Lit.string.injEq, List.cons_append, List.nil_append, List.cons.injEq] at h
 exact ⟨byte_inj ha ha' h.1, byte_inj hb hb' h.2.1, byte_inj hc hc' h.2.2.1, byte_inj hd hd' h.2.2.2.1⟩

def keyV (bs : List Int) (p : Nat) : Value := four (bs.getD p 0) (bs.getD (p + 1) 0) (bs.getD (p + 2) 0) (bs.getD (p + 3) 0)
def keyL (bs : List Int) (p : Nat) : Lit := fourL (bs.getD p 0) (bs.getD (p + 1) 0) (bs.getD (p + 2) 0) (bs.getD (p + 3) 0)
def Bytes8 (bs : List Int) : Prop := ∀ j, (Lit.int .u8 (bs.getD j 0)).wf = true
theorem key_of {bs : List Int} (h : Bytes8 bs) (p : Nat) : keyOf Tryz.prog 189 (keyV bs p) = some (keyL bs p) := keyOf_four (h _) (h _) (h _) (h _)
theorem keyL_same {bs : List Int} (h : Bytes8 bs) (p q : Nat) : (keyL bs p = keyL bs q) ↔ same4 bs p q = true := by
 unfold same4
 simp only [Bool.and_eq_true, beq_iff_eq]
 constructor
 · intro e
   exact fourL_inj (wf_u8 (h _)) (wf_u8 (h _)) (wf_u8 (h _)) (wf_u8 (h _)) (wf_u8 (h _)) (wf_u8 (h _)) (wf_u8 (h _)) (wf_u8 (h _)) e
 · rintro ⟨e0, e1, e2, e3⟩
   unfold keyL
   rw [e0, e1, e2, e3]
theorem keyL_is (bs : List Int) (p : Nat) : WideAt.IsKeyLit (keyL bs p) := trivial

theorem same4_eq {bs : List Int} {p q : Nat} (h : same4 bs p q = true) (x : Nat) : same4 bs x p = same4 bs x q := by
 unfold same4 at *
 simp only [Bool.and_eq_true, beq_iff_eq] at h
 obtain ⟨e0, e1, e2, e3⟩ := h
 rw [e0, e1, e2, e3]
theorem nxt_eq {bs : List Int} {p q : Nat} (h : same4 bs p q = true) : ∀ m, nxt bs p m = nxt bs q m
 | 0 => rfl
 | m + 1 => by unfold nxt; rw [same4_eq h m, nxt_eq h m]

def Mp (W : World) (b : Nat) (bs : List Int) (m : Nat) : Prop :=
 ∃ D : DataW Unit, W.ownsMap Tryz.prog 189 (plainElem Tryz.prog 3) b m D ∧ ∀ q, m ≤ q → q + 4 ≤ bs.length → D.atKey (keyL bs q) (.lit (.int .i64 0)) = .lit (.int .i64 ((nxt bs q m : Nat) : Int))

theorem Mp.new (w : World) (bs : List Int) : Mp (w.alloc (.map #[] 0)) w.heap.size bs 0 :=
 ⟨.map [], World.ownsMap_made w _ _ _, fun _ _ _ => rfl⟩
theorem Mp.kept {W W' : World} {b m : Nat} {bs : List Int} {row : Option Nat} (h : Mp W b bs m) (hg : W.grownBy W' row) (hne : some b ≠ row) : Mp W' b bs m := by
 obtain ⟨D, hD, hq⟩ := h
 exact ⟨D, hD.kept hg hne, hq⟩
theorem Mp.below {W W' : World} {b m n : Nat} {bs : List Int} (h : Mp W b bs m) (hb : Below n W W') (hn : b < n) : Mp W' b bs m := by
 obtain ⟨D, ⟨es, clock, hh, F, hs, hD⟩, hq⟩ := h
 exact ⟨D, ⟨es, clock, (hb.block b hn).trans hh, F, hs, hD⟩, hq⟩
theorem Mp.look {W : World} {b m : Nat} {bs : List Int} (h : Mp W b bs m) (h8 : Bytes8 bs) (q : Nat) (hq : m ≤ q) (hl : q + 4 ≤ bs.length) : (Instr.lookup 185 (.map (some b)) (keyV bs q) false).run Tryz.prog W = .ok (.int .i64 ((nxt bs q m : Nat) : Int)) W := by
 obtain ⟨D, hD, hat⟩ := h
 obtain ⟨c, hrun, hc, _⟩ := hD.lookup_int Tryz.keyed67 Tryz.underlying185 Tryz.underlying3 (Tryz.zeroValue3 _) (key_of h8 q)
 rw [hat q hq hl] at hc
 simp only [DataW.lit.injEq, Lit.int.injEq, true_and] at hc
 rw [hc]
 exact hrun
theorem Mp.put {W : World} {b m : Nat} {bs : List Int} (h : Mp W b bs m) (h8 : Bytes8 bs) (hm : m < 70000) : ∃ W', (Instr.mapUpdate 185 (.map (some b)) (keyV bs m) (.int .i64 (((m + 1 : Nat)) : Int))).run Tryz.prog W = .ok () W' ∧ Mp W' b bs (m + 1) ∧ W.grownBy W' (some b) := by
 obtain ⟨D, hD, hat⟩ := h
 obtain ⟨W', hrun, hown, hg⟩ := hD.update Tryz.keyed67 Tryz.underlying185 (by unfold maxLen; omega) (key_of h8 m) (plainElem_int Tryz.underlying3 (a := ((m + 1 : Nat) : Int)) (wf_mk_i64 (by omega) (by omega)))
 refine ⟨W', hrun, ⟨_, hown, fun q hq hl => ?_⟩, hg⟩
 have hmap : Maps.IsMap D := by
   obtain ⟨_, _, _, _, _, rfl⟩ := hD
   exact ⟨_, rfl⟩
 by_cases hs : same4 bs m q = true
 · rw [← (keyL_same h8 m q).2 hs, Maps.atKey_put_same hmap (keyL_is bs m)]
   unfold nxt
   rw [if_pos hs]
 · rw [Maps.atKey_put_other (fun e => hs ((keyL_same h8 m q).1 e.symm)), hat q (by omega) hl]
   show _ = DataW.lit (.int .i64 (((if same4 bs m q = true then m + 1 else nxt bs q m) : Nat) : Int))
   rw [if_neg hs]
end Go.Proofs.YtibjlbcnapoblaaGreatDoor
/-
 The contracts of lz's key, newPlaces and add.
-/
namespace Go.Proofs.YtibjlbcnapoblaaGreatDoor
open Go.RowKit Go.Shelf Lz Go.WideMaps

theorem four_load {W : World} {B : Nat} {a b c d : Value} (h : W.heap[B]? = some (.cells #[a, b, c, d] 189 (0, 0))) : (loadVar 189 ⟨B, 0, none⟩).run Tryz.prog W = .ok (.agg #[a, b, c, d]) W :=
 run_loadVar_row W B 189 189 #[a, b, c, d] (0, 0) _ h Tryz.underlying189 rfl (by kernel_rfl)

set_option maxHeartbeats 1600000 in
set_option maxRecDepth 100000 in
theorem key_word (bs : List Int) (q g gb off cap : Nat) (x1 x2 : Value) (w : World) (hq : q ≤ bs.length) (hcap : bs.length ≤ cap) (hm : cap ≤ maxLen) (hL : bs.length ≤ 65536) (hgb : gb < w.heap.size)
   (hblk : w.heap[g]? = some (.cells #[.slice (some ⟨gb, off, none⟩) bs.length cap, x1, x2] 187 (0, 0)))
   (hc : ∀ j, j < bs.length → w.cell? ⟨gb, off + j, none⟩ = some (.int .u8 (bs.getD j 0))) :
   Calls Tryz.prog 127 #[.pointer (some ⟨g, 0, none⟩), .int .i64 (q : Int)] w fun e w' => e = .returned (.tuple #[if q + 4 ≤ bs.length then keyV bs q else four 0 0 0 0, .bool (decide (q + 4 ≤ bs.length))]) ∧ Below w.heap.size w w' := by
 have hgw : g < w.heap.size := (Array.getElem?_eq_some_iff.1 hblk).1
 unfold maxLen at hm
 have hbA := bel_allocZ w (.cells #[.int .u8 0, .int .u8 0, .int .u8 0, .int .u8 0] 189)
 have e0 : (w.alloc (.cells #[.int .u8 0, .int .u8 0, .int .u8 0, .int .u8 0] 189)).heap[w.heap.size]? = some (.cells #[.int .u8 0, .int .u8 0, .int .u8 0, .int .u8 0] 189 (0, 0)) := heap_newZ w _
 have c0 := Joins.cell_of_block (heap_old _ (.cells #[.int .u8 0, .int .u8 0, .int .u8 0, .int .u8 0] 189) hblk) 0
 simp only [List.getElem?_toArray, List.getElem?_cons_zero] at c0
 obtain ⟨L, hLe⟩ : ∃ L, L = bs.length := ⟨_, rfl⟩
 have HL := hid hLe
 have HBA := hid hbA
 by_cases h4 : q + 4 ≤ bs.length
 · rw [if_pos h4]
   have b0 := (hbA.cell (p := ⟨gb, off + q, none⟩) hgb).trans (hc q (by omega))
   have b1 := (hbA.cell (p := ⟨gb, off + (q + 1), none⟩) hgb).trans (hc (q + 1) (by omega))
   have b2 := (hbA.cell (p := ⟨gb, off + (q + 2), none⟩) hgb).trans (hc (q + 2) (by omega))
   have b3 := (hbA.cell (p := ⟨gb, off + (q + 3), none⟩) hgb).trans (hc (q + 3) (by omega))
   have hd : decide (q + 4 ≤ bs.length) = true := by simpa using h4
   rw [hd]
   clear hd hc hbA
   unfold keyV
   generalize bs.getD q 0 = y0 at *
   generalize bs.getD (q + 1) 0 = y1 at *
   generalize bs.getD (q + 2) 0 = y2 at *
   generalize bs.getD (q + 3) 0 = y3 at *
   rw [← hLe] at c0 hq hcap hL h4
   have hz : ¬ (L : Int) - (q : Int) < 4 := by omega
   have hq4 : q + 4 ≤ cap := by omega
   have harr := run_arrayAt (P := Tryz.prog) (w.alloc (.cells #[.int .u8 0, .int .u8 0, .int .u8 0, .int .u8 0] 189)) 189 5 4 (some ⟨gb, off + q, none⟩) 4 (cap - q) Tryz.underlying189 (by omega)
   have f0 := Joins.unfrozen_of_block e0 0
   have f1 := Joins.unfrozen_of_block e0 1
   have f2 := Joins.unfrozen_of_block e0 2
   have f3 := Joins.unfrozen_of_block e0 3
   have k0 := Joins.cell_of_block e0 0
   have k1 := Joins.cell_of_block e0 1
   have k2 := Joins.cell_of_block e0 2
   have k3 := Joins.cell_of_block e0 3
   simp only [List.getElem?_toArray, List.getElem?_cons_zero, List.getElem?_cons_succ] at k0 k1 k2 k3
   have HE0 := hid e0
   have l0 := b0
   have l1 : (w.alloc (.cells #[.int .u8 0, .int .u8 0, .int .u8 0, .int .u8 0] 189)).cell? ⟨gb, off + q + 1, none⟩ = some (.int .u8 y1) := b1
   have l2 : (w.alloc (.cells #[.int .u8 0, .int .u8 0, .int .u8 0, .int .u8 0] 189)).cell? ⟨gb, off + q + 2, none⟩ = some (.int .u8 y2) := b2
   have l3 : (w.alloc (.cells #[.int .u8 0, .int .u8 0, .int .u8 0, .int .u8 0] 189)).cell? ⟨gb, off + q + 3, none⟩ = some (.int .u8 y3) := b3
   clear hblk hLe e0 b0 b1 b2 b3
   go_enter Tryz.func127, Tryz.ntmps127
   go_wp2
   refine bodyPost_ret (results_row_tmpZ (ty := 189) rfl _ _ w.heap.size _ rfl (four_load (heap_newZ w _))) rfl ?_
   exact ⟨rfl, bel_allocZ _ _⟩
 · rw [if_neg h4]
   have hd : decide (q + 4 ≤ bs.length) = false := by simpa using h4
   rw [hd]
   rw [← hLe] at c0 hq hcap hL h4
   have hz : (L : Int) - (q : Int) < 4 := by omega
   clear hd hc hbA hblk hLe e0
   go_enter Tryz.func127, Tryz.ntmps127
   go_wp2
   refine bodyPost_ret (results_row_tmpZ (ty := 189) rfl _ _ w.heap.size _ rfl (four_load (heap_newZ w _))) rfl ?_
   exact ⟨rfl, bel_allocZ _ _⟩

structure Pl (W : World) (n₀ g mb pb : Nat) (v : Value) (bs : List Int) (m : Nat) (ps : List Int) : Prop where
 blk : W.heap[g]? = some (.cells #[v, .map (some mb), .slice (some ⟨pb, 0, none⟩) bs.length bs.length] 187 (0, 0))
 map : Mp W mb bs m
 row : W.ownsRow n₀ 3 1 (.slice (some ⟨pb, 0, none⟩) bs.length bs.length) bs.length (ps.map (Value.int .i64))
 len : ps.length = bs.length
 vals : ∀ p, p < m → p + 4 ≤ bs.length → ps.getD p 0 = ((nxt bs p p : Nat) : Int)
 bg : n₀ ≤ g
 bm : n₀ ≤ mb
 bp : n₀ ≤ pb

theorem Pl.below {W W' : World} {n₀ g mb pb : Nat} {v : Value} {bs : List Int} {m : Nat} {ps : List Int} (h : Pl W n₀ g mb pb v bs m ps) (hb : Below W.heap.size W W') : Pl W' n₀ g mb pb v bs m ps := by
 have hg := (Array.getElem?_eq_some_iff.1 h.blk).1
 have hmb : mb < W.heap.size := by obtain ⟨D, hD, _⟩ := h.map; exact hD.lt
 refine ⟨(hb.block g hg).trans h.blk, h.map.below hb hmb, ?_, h.len, h.vals, h.bg, h.bm, h.bp⟩
 refine ⟨h.row.1, ?_⟩
 rcases h.row.2 with hn | ⟨g', cap, cur, hv, hbs, hgg, rest⟩
 · exact .inl hn
 · exact .inr ⟨g', cap, cur, hv, hbs, (hb.block g' (Array.getElem?_eq_some_iff.1 hgg).1).trans hgg, rest⟩

theorem Tryz.info3Z : (Tryz.prog.info? 3).map (fun i => (i.zero, i.size, i.bytes)) = some (some (.int .i64 0), 1, 8) := by kernel_rfl

set_option maxHeartbeats 1600000 in
set_option maxRecDepth 100000 in
theorem new_word (bs : List Int) (v0 : Option Addr) (cap : Nat) (w : World) (hL : bs.length ≤ 65536) :
   Calls Tryz.prog 96 #[.slice v0 bs.length cap] w fun e w' => ∃ g mb pb, e = .returned (.pointer (some ⟨g, 0, none⟩)) ∧ Pl w' w.heap.size g mb pb (.slice v0 bs.length cap) bs 0 (List.replicate bs.length 0) ∧ Below w.heap.size w w' := by
 obtain ⟨L, hLe⟩ : ∃ L, L = bs.length := ⟨_, rfl⟩
 have HL := hid hLe
 rw [← hLe] at hL ⊢
 obtain ⟨i0, hi, hz0, hz1, hz2⟩ := info_parts Tryz.info3Z
 have hmm := @run_makeMap Tryz.prog
 clear hLe
 go_enter Tryz.func96, Tryz.ntmps96
 go_wp2_with (first
   | (at_make; refine wpList_make_full _ rfl _ _ 112 rfl w.heap.size 3 i0 (.int .i64 0) 1 Tryz.underlying112 hi hz0 hz1 .i64 .i64 _ _ L rfl rfl (by first | rfl | omega) (by first | rfl | omega) ?b2 ?b3 ?b4 ?_))
 case b2 => rw [hz2]; omega
 case b3 => unfold maxLen; omega
 case b4 => simp
 intro w5 hown0 hgrow
 have hsz := hgrow.size
 have hB1 : Below w.heap.size w w5 := (bel_allocZ w _).grown hgrow (by simp) (fun k hk => by cases hk)
 have hmap : Mp w5 w.heap.size bs 0 := (Mp.new w bs).kept hgrow (by simp)
 rw [toList_madeCells_one, HL.out] at hown0
 have hrow : w5.ownsRow w.heap.size 3 1 (.slice (some ⟨w.heap.size + 1, 0, none⟩) bs.length bs.length) bs.length ((List.replicate bs.length (0 : Int)).map (Value.int .i64)) := by simpa using hown0
 have HF : Hid (Pl (w5.alloc (.cells #[.slice v0 L cap, .map (some w.heap.size), .slice (some ⟨w.heap.size + 1, 0, none⟩) L L] 187)) w.heap.size w5.heap.size w.heap.size (w.heap.size + 1) (.slice v0 L cap) bs 0 (List.replicate L 0)) := by
   show Pl _ _ _ _ _ _ _ _ _
   rw [HL.out]
   exact ⟨heap_newZ _ _, hmap.kept (World.grownBy_alloc w5 _ none) (by simp), hrow.kept (World.grownBy_alloc w5 _ none) (by simp [Value.ownBlock]), by simp, fun p hp => absurd hp (by omega), by simp at hsz; omega, Nat.le_refl _, by omega⟩
 have HB := hid (Bn hB1 (bel_allocZ w5 (.cells #[.slice v0 L cap, .map (some w.heap.size), .slice (some ⟨w.heap.size + 1, 0, none⟩) L L] 187)))
 clear hown0 hgrow hsz hB1 hmap hrow
 go_wp2
 go_ret
 exact ⟨_, _, _, rfl, HF.out, HB.out⟩

structure But (a b : Nat) (w w' : World) : Prop where
 size : w.heap.size ≤ w'.heap.size
 same : ∀ i, i < w.heap.size → i ≠ a → i ≠ b → w'.heap[i]? = w.heap[i]?

theorem But.refl (a b : Nat) (w : World) : But a b w w := ⟨Nat.le_refl _, fun _ _ _ _ => rfl⟩
theorem But.trans {a b : Nat} {x y z : World} (h : But a b x y) (k : But a b y z) : But a b x z :=
 ⟨Nat.le_trans h.size k.size, fun i hi h1 h2 => (k.same i (Nat.lt_of_lt_of_le hi h.size) h1 h2).trans (h.same i hi h1 h2)⟩
theorem But.of_below {a b : Nat} {w w' : World} (h : Below w.heap.size w w') : But a b w w' := ⟨h.size, fun i hi _ _ => h.block i hi⟩
theorem But.of_grown {a b : Nat} {w w' : World} {row : Option Nat} (h : w.grownBy w' row) (hr : row = some a ∨ row = some b) : But a b w w' :=
 ⟨h.size, fun i hi h1 h2 => h.block i hi (fun e => by rcases hr with r | r <;> rw [r] at e <;> injection e with e <;> omega)⟩
theorem But.row {a b : Nat} {w w' : World} (h : But a b w w') {base : Nat} {e : TypeId} {size : Nat} {v : Value} {n : Nat} {xs : List Value} (ho : w.ownsRow base e size v n xs) (h1 : v.ownBlock ≠ some a) (h2 : v.ownBlock ≠ some b) : w'.ownsRow base e size v n xs := by
 refine ⟨ho.1, ?_⟩
 rcases ho.2 with hn | ⟨g, cap, cur, rfl, hb, hg, rest⟩
 · exact .inl hn
 · refine .inr ⟨g, cap, cur, rfl, hb, (h.same g (Array.getElem?_eq_some_iff.1 hg).1 (fun e => h1 (by rw [e]; rfl)) (fun e => h2 (by rw [e]; rfl))).trans hg, rest⟩

theorem Pl.ne1 {W : World} {n₀ g mb pb : Nat} {v : Value} {bs : List Int} {m : Nat} {ps : List Int} (h : Pl W n₀ g mb pb v bs m ps) : (∃ cur, W.heap[pb]? = some (.cells cur 3 (0, 0))) ∧ g ≠ pb ∧ mb ≠ pb ∧ g ≠ mb := by
 have hp : ∃ cur, W.heap[pb]? = some (.cells cur 3 (0, 0)) := by
   rcases h.row.2 with ⟨hv, _⟩ | ⟨g', cap, cur, hv, _, hg, _⟩
   · cases hv
   · injection hv with hv
     injection hv with hv
     injection hv with hv _
     subst hv
     exact ⟨cur, hg⟩
 obtain ⟨cur, hp⟩ := hp
 obtain ⟨D, ⟨es, clock, hh, _⟩, _⟩ := h.map
 refine ⟨⟨cur, hp⟩, fun e => ?_, fun e => ?_, fun e => ?_⟩
 · have hb := h.blk; rw [e, hp] at hb; cases hb
 · rw [e, hp] at hh; cases hh
 · have hb := h.blk; rw [e, hh] at hb; cases hb
theorem Pl.store {W : World} {n₀ g mb pb : Nat} {v : Value} {bs : List Int} {m : Nat} {ps : List Int} (h : Pl W n₀ g mb pb v bs m ps) (x : Int) : Pl (W.setCell ⟨pb, m, none⟩ (.int .i64 x)) n₀ g mb pb v bs m (ps.set m x) := by
 obtain ⟨⟨cur, hp⟩, n1, n2, n3⟩ := h.ne1
 have hst := h.row.stored m (.int .i64 x)
 refine ⟨by rw [heap_put_otherZ hp n1]; exact h.blk, h.map.kept hst.2 (fun e => n2 (by injection e)), ?_, by rw [List.length_set]; exact h.len, fun p hpm hl => ?_, h.bg, h.bm, h.bp⟩
 · rw [List.map_set]; exact hst.1
 · rw [← h.vals p hpm hl]
   simp [List.getD, List.getElem?_set_ne (show m ≠ p by omega)]
theorem Pl.mapped {W W' : World} {n₀ g mb pb : Nat} {v : Value} {bs : List Int} {m : Nat} {ps : List Int} (h : Pl W n₀ g mb pb v bs m ps) (hv : ps.getD m 0 = ((nxt bs m m : Nat) : Int)) (hm : Mp W' mb bs (m + 1)) (hg : W.grownBy W' (some mb)) : Pl W' n₀ g mb pb v bs (m + 1) ps := by
 obtain ⟨⟨cur, hp⟩, n1, n2, n3⟩ := h.ne1
 have hgl := (Array.getElem?_eq_some_iff.1 h.blk).1
 refine ⟨(hg.block g hgl (fun e => n3 (by injection e))).trans h.blk, hm, h.row.kept hg (.inr (fun e => n2 (by simp [Value.ownBlock] at e; exact e.symm))), h.len, fun p hpm hl => ?_, h.bg, h.bm, h.bp⟩
 by_cases e : p = m
 · subst e; exact hv
 · exact h.vals p (by omega) hl
theorem Pl.skip {W : World} {n₀ g mb pb : Nat} {v : Value} {bs : List Int} {m : Nat} {ps : List Int} (h : Pl W n₀ g mb pb v bs m ps) (hm : bs.length < m + 4) : Pl W n₀ g mb pb v bs (m + 1) ps := by
 refine ⟨h.blk, ?_, h.row, h.len, fun p hp hl => h.vals p (by omega) hl, h.bg, h.bm, h.bp⟩
 obtain ⟨D, hD, _⟩ := h.map
 exact ⟨D, hD.mono (by omega), fun q hq hl => by omega⟩

set_option maxHeartbeats 1600000 in
set_option maxRecDepth 100000 in
theorem add_word (bs : List Int) (m n₀ g mb pb gb off cap : Nat) (ps : List Int) (w : World) (h8 : Bytes8 bs) (hP : Pl w n₀ g mb pb (.slice (some ⟨gb, off, none⟩) bs.length cap) bs m ps) (hm : m < bs.length) (hcap : bs.length ≤ cap) (hmx : cap ≤ maxLen) (hL : bs.length ≤ 65536) (hgb : gb < w.heap.size)
   (hc : ∀ j, j < bs.length → w.cell? ⟨gb, off + j, none⟩ = some (.int .u8 (bs.getD j 0))) :
   Calls Tryz.prog 99 #[.pointer (some ⟨g, 0, none⟩), .int .i64 (m : Int)] w fun e w' => (∃ v, e = .returned v) ∧ (∃ ps', Pl w' n₀ g mb pb (.slice (some ⟨gb, off, none⟩) bs.length cap) bs (m + 1) ps') ∧ Below n₀ w w' ∧ But mb pb w w' := by
 have HK := hid (key_word bs m g gb off cap _ _ w (by omega) hcap hmx hL hgb hP.blk hc)
 have hn0 : n₀ ≤ w.heap.size := by have := (Array.getElem?_eq_some_iff.1 hP.blk).1; have := hP.bg; omega
 have HP := hid hP
 by_cases h4 : m + 4 ≤ bs.length
 · rw [if_pos h4, show decide (m + 4 ≤ bs.length) = true from by simpa using h4] at HK
   obtain ⟨L, hLe⟩ : ∃ L, L = bs.length := ⟨_, rfl⟩
   have HL := hid hLe
   have hKV : keyV bs m = .agg #[.int .u8 (bs.getD m 0), .int .u8 (bs.getD (m + 1) 0), .int .u8 (bs.getD (m + 2) 0), .int .u8 (bs.getD (m + 3) 0)] := rfl
   rw [hKV] at HK
   have HLK : Hid (∀ W, Mp W mb bs m → (Instr.lookup 185 (.map (some mb)) (.agg #[.int .u8 (bs.getD m 0), .int .u8 (bs.getD (m + 1) 0), .int .u8 (bs.getD (m + 2) 0), .int .u8 (bs.getD (m + 3) 0)]) false).run Tryz.prog W = .ok (.int .i64 ((nxt bs m m : Nat) : Int)) W) := fun W hW => hW.look h8 m (Nat.le_refl _) h4
   have HUP : Hid (∀ W, Mp W mb bs m → ∃ W', (Instr.mapUpdate 185 (.map (some mb)) (.agg #[.int .u8 (bs.getD m 0), .int .u8 (bs.getD (m + 1) 0), .int .u8 (bs.getD (m + 2) 0), .int .u8 (bs.getD (m + 3) 0)]) (.int .i64 (((m + 1 : Nat)) : Int))).run Tryz.prog W = .ok () W' ∧ Mp W' mb bs (m + 1) ∧ W.grownBy W' (some mb)) := fun W hW => hW.put h8 (by omega)
   generalize bs.getD m 0 = y0 at *
   generalize bs.getD (m + 1) 0 = y1 at *
   generalize bs.getD (m + 2) 0 = y2 at *
   generalize bs.getD (m + 3) 0 = y3 at *
   clear hP hc hKV
   go_enter Tryz.func99, Tryz.ntmps99
   go_wp2_with fail
   refine HK.out.mono ?_
   rintro _ w1 ⟨rfl, hb1⟩
   have hP1 := HP.out.below hb1
   clear HK
   go_wp2_with fail
   have hbA := bel_allocZ w1 (.cells #[.int .u8 y0, .int .u8 y1, .int .u8 y2, .int .u8 y3] 189)
   have e0 : (w1.alloc (.cells #[.int .u8 y0, .int .u8 y1, .int .u8 y2, .int .u8 y3] 189)).heap[w1.heap.size]? = some (.cells #[.int .u8 y0, .int .u8 y1, .int .u8 y2, .int .u8 y3] 189 (0, 0)) := heap_newZ w1 _
   have hP2 := hP1.below hbA
   have HB2 := hid (Bn hb1 hbA)
   clear hb1 hP1 hbA
   generalize w1.alloc (.cells #[.int .u8 y0, .int .u8 y1, .int .u8 y2, .int .u8 y3] 189) = W at *
   generalize w1.heap.size = kb at *
   have c1 := Joins.cell_of_block hP2.blk 1
   have c2 := Joins.cell_of_block hP2.blk 2
   have k0 := Joins.cell_of_block e0 0
   have k1 := Joins.cell_of_block e0 1
   have k2 := Joins.cell_of_block e0 2
   have k3 := Joins.cell_of_block e0 3
   simp only [List.getElem?_toArray, List.getElem?_cons_zero, List.getElem?_cons_succ] at c1 c2 k0 k1 k2 k3
   rw [← hLe] at c2
   have hlk := HLK.out W.drew hP2.map
   have hcell : ∃ u, W.cell? ⟨pb, m, none⟩ = some u := by
     rw [hP2.row.cellAt _ (by omega)]
     exact ⟨_, List.getElem?_eq_getElem (by rw [List.length_map, hP2.len]; exact hm)⟩
   obtain ⟨u, hu⟩ := hcell
   have fu := hP2.row.frozenAt m
   have hmL : (m : Int) < (L : Int) := by omega
   have HP2 := hid hP2
   have HE0 := hid e0
   clear hP2 e0 hLe
   have hmo : Tryz.prog.follows .mixedOrders = true := by kernel_rfl
   go_still_tail 12, hmo
   go_wp2_with fail
   have hne : kb ≠ pb := by
     obtain ⟨⟨cur, hp⟩, _⟩ := HP2.out.ne1
     intro e
     have := HE0.out
     rw [e, hp] at this
     cases this
   have hP3 : Pl (W.setCell ⟨pb, m, none⟩ (.int .i64 ((nxt bs m m : Nat) : Int))).drew n₀ g mb pb (.slice (some ⟨gb, off, none⟩) bs.length cap) bs m (ps.set m ((nxt bs m m : Nat) : Int)) := by
     have h := HP2.out.store ((nxt bs m m : Nat) : Int)
     exact ⟨h.blk, h.map, h.row, h.len, h.vals, h.bg, h.bm, h.bp⟩
   have e3 : (W.setCell ⟨pb, m, none⟩ (.int .i64 ((nxt bs m m : Nat) : Int))).drew.heap[kb]? = some (.cells #[.int .u8 y0, .int .u8 y1, .int .u8 y2, .int .u8 y3] 189 (0, 0)) := by
     obtain ⟨⟨cur, hp⟩, _⟩ := HP2.out.ne1
     exact (heap_put_otherZ hp hne _).trans HE0.out
   have hbut : But mb pb W (W.setCell ⟨pb, m, none⟩ (.int .i64 ((nxt bs m m : Nat) : Int))).drew := by
     have := But.of_grown (a := mb) (b := pb) (HP2.out.row.stored m (.int .i64 ((nxt bs m m : Nat) : Int))).2 (.inr rfl)
     exact ⟨this.size, this.same⟩
   have hbl : Below n₀ W (W.setCell ⟨pb, m, none⟩ (.int .i64 ((nxt bs m m : Nat) : Int))).drew := ((Below.refl n₀ W).setCell (p := ⟨pb, m, none⟩) HP2.out.bp _).drew
   have hv : (ps.set m ((nxt bs m m : Nat) : Int)).getD m 0 = ((nxt bs m m : Nat) : Int) := by
     have : m < ps.length := by rw [HP2.out.len]; exact hm
     simp [List.getD, List.getElem?_set_self this]
   have HV := hid hv
   have HBUT := hid hbut
   have HBL := hid hbl
   clear hlk hu fu c1 c2 k0 k1 k2 k3 hne hv hbut hbl HE0 HP2
   generalize (W.setCell ⟨pb, m, none⟩ (.int .i64 ((nxt bs m m : Nat) : Int))).drew = W3 at *
   have c1 := Joins.cell_of_block hP3.blk 1
   have k0 := Joins.cell_of_block e3 0
   have k1 := Joins.cell_of_block e3 1
   have k2 := Joins.cell_of_block e3 2
   have k3 := Joins.cell_of_block e3 3
   simp only [List.getElem?_toArray, List.getElem?_cons_zero, List.getElem?_cons_succ] at c1 k0 k1 k2 k3
   obtain ⟨W4, hup, hM4, hg4⟩ := HUP.out W3.drew hP3.map
   rw [show (((m + 1 : Nat)) : Int) = (m : Int) + 1 from by omega] at hup
   have HP4 : Hid (Pl W4 n₀ g mb pb (.slice (some ⟨gb, off, none⟩) bs.length cap) bs (m + 1) (ps.set m ((nxt bs m m : Nat) : Int))) :=
     (show Pl W3.drew n₀ g mb pb (.slice (some ⟨gb, off, none⟩) bs.length cap) bs m (ps.set m ((nxt bs m m : Nat) : Int)) from ⟨hP3.blk, hP3.map, hP3.row, hP3.len, hP3.vals, hP3.bg, hP3.bm, hP3.bp⟩).mapped HV.out hM4 hg4
   have hbm := hP3.bm
   have HB4 : Hid (But mb pb w W4) := ((But.of_below HB2.out).trans HBUT.out).trans ((⟨Nat.le_refl _, fun _ _ _ _ => rfl⟩ : But mb pb W3 W3.drew).trans (But.of_grown hg4 (.inl rfl)))
   have hsz : n₀ ≤ W3.drew.heap.size := by have := (Array.getElem?_eq_some_iff.1 hP3.blk).1; have := hP3.bg; show n₀ ≤ W3.heap.size; omega
   have HL4 : Hid (Below n₀ w W4) := ((HB2.out.mono hn0).trans HBL.out).trans ((Below.refl n₀ W3).drew.grown hg4 hsz (fun k hk => by injection hk with hk; omega))
   clear hP3 e3 hM4 hg4 HV HBUT HBL HB2 hsz hbm
   have hm6 : m ≤ 65536 := by omega
   go_still_tail 7, hmo
   rw [IntWalk.i64_in _ ⟨by omega, by omega⟩]
   change wpList _ _ _ _ _ W3.drew
   go_wp2
   go_end0
   exact ⟨⟨_, rfl⟩, ⟨_, HP4.out⟩, HL4.out, HB4.out⟩
 · rw [if_neg h4, show decide (m + 4 ≤ bs.length) = false from by simpa using h4] at HK
   clear hP hc
   go_enter Tryz.func99, Tryz.ntmps99
   go_wp2_with fail
   refine HK.out.mono ?_
   rintro _ w1 ⟨rfl, hb1⟩
   have HB1 := hid (Bn hb1 (bel_allocZ w1 (.cells #[.int .u8 0, .int .u8 0, .int .u8 0, .int .u8 0] 189)))
   clear hb1 HK
   unfold four
   go_wp2
   go_end0
   exact ⟨⟨_, rfl⟩, ⟨ps, (HP.out.below HB1.out).skip (by omega)⟩, HB1.out.mono hn0, But.of_below HB1.out⟩
end Go.Proofs.YtibjlbcnapoblaaGreatDoor
/-
 The iterator over the places with the same four bytes.
-/
namespace Go.Proofs.YtibjlbcnapoblaaGreatDoor
open Go.RowKit Go.Shelf Lz Go.WideMaps
attribute [local go_sem] Oper.semAt_some

theorem alike_word (g q : Nat) (w : World) : Calls Tryz.prog 98 #[.pointer (some ⟨g, 0, none⟩), .int .i64 (q : Int)] w fun e w' => e = .returned (.func (.func 126) #[] #[.pointer (some ⟨w.heap.size, 0, none⟩), .pointer (some ⟨w.heap.size + 1, 0, none⟩)]) ∧ w' = (w.alloc (.cells #[.pointer (some ⟨g, 0, none⟩)] 144)).alloc (.cells #[.int .i64 (q : Int)] 3) := by
 go_enter Tryz.func98, Tryz.ntmps98
 go_wp2
 go_ret
 exact ⟨rfl, rfl⟩

theorem grown_of_below {w w' : World} (h : Below w.heap.size w w') : w.grownBy w' none := ⟨h.os, h.tape, h.output, h.size, fun k hk _ => h.block k hk⟩
theorem alike_lt {bs : List Int} {q p : Nat} (h : p ∈ alikeL bs q) : p < q := by
 unfold alikeL at h
 split at h
 · exact (mem_aheadL (List.mem_filter.1 h).1).1
 · cases h
theorem alike_len (bs : List Int) (q : Nat) : (alikeL bs q).length ≤ q := by
 unfold alikeL
 split
 · refine Nat.le_trans (List.length_filter_le _ _) ?_
   simp [aheadL]; omega
 · simp

set_option maxHeartbeats 1600000 in
set_option maxRecDepth 100000 in
theorem alike_stops (bs : List Int) (q n₁ g mb pb gb off cap sB aB : Nat) (ps : List Int) (w W0 : World) (h8 : Bytes8 bs) (hP : Pl w n₁ g mb pb (.slice (some ⟨gb, off, none⟩) bs.length cap) bs q ps) (hq : q < bs.length) (hcap : bs.length ≤ cap) (hmx : cap ≤ maxLen) (hL : bs.length ≤ 65536)
   (hgb : gb < w.heap.size) (hc : ∀ j, j < bs.length → w.cell? ⟨gb, off + j, none⟩ = some (.int .u8 (bs.getD j 0)))
   (hsB : w.cell? ⟨sB, 0, none⟩ = some (.pointer (some ⟨g, 0, none⟩))) (haB : w.cell? ⟨aB, 0, none⟩ = some (.int .i64 (q : Int))) (hs : sB < w.heap.size) (ha : aB < w.heap.size) (hW0 : Below w.heap.size w W0) :
   wide9 126 #[.pointer (some ⟨sB, 0, none⟩), .pointer (some ⟨aB, 0, none⟩)] q w.heap.size (fins q (alikeL bs q) (fun _ hp => alike_lt hp)) W0 := fun l J Jx W hW hJ _ hY h0 => by
 have hbW : Below w.heap.size w W := Bn hW0 hW
 obtain ⟨xs, hxs⟩ : ∃ xs, xs = fins q (alikeL bs q) (fun _ hp => alike_lt hp) := ⟨_, rfl⟩
 have hv : xs.map Fin.val = alikeL bs q := by rw [hxs]; exact fins_val _
 have hl : xs.length ≤ q := by rw [hxs, fins_len]; exact alike_len bs q
 rw [← hxs]
 have HV := hid hv
 have HY := hid hY
 have HL := hid hl
 have HJ := hid hJ
 have hs0 : W.cell? ⟨sB, 0, none⟩ = some (.pointer (some ⟨g, 0, none⟩)) := (hbW.cell (p := ⟨sB, 0, none⟩) hs).trans hsB
 have ha0 : W.cell? ⟨aB, 0, none⟩ = some (.int .i64 (q : Int)) := (hbW.cell (p := ⟨aB, 0, none⟩) ha).trans haB
 have HSB := hid hsB
 have HAB := hid haB
 have HBW := hid hbW
 have HP := hid hP
 have hPW := hP.below hbW
 have HK := hid (key_word bs q g gb off cap _ _ W (by omega) hcap hmx hL (Nat.lt_of_lt_of_le hgb hbW.size) hPW.blk (fun j hj => (hbW.cell (p := ⟨gb, off + j, none⟩) hgb).trans (hc j hj)))
 have HPW := hid hPW
 clear hY hxs hv hl hsB haB hW hW0 hJ hc hPW hP
 refine callsIn_of_wp Tryz.func126 rfl trivial ?_ rfl
 simp only [Tryz.ntmps126, List.size_toArray, List.length_cons, List.length_nil, Nat.reduceAdd, Nat.reduceSub, Array.replicate_succ, Array.replicate_zero, List.push_toArray, List.append_toArray, List.nil_append, List.cons_append]
 by_cases h4 : q + 4 ≤ bs.length
 · have HVV : Hid (xs.map Fin.val = chain bs q q) := by show _ = _; rw [chain_alike h4]; exact HV.out
   rw [if_pos h4, show decide (q + 4 ≤ bs.length) = true from by simpa using h4] at HK
   have hKV : keyV bs q = .agg #[.int .u8 (bs.getD q 0), .int .u8 (bs.getD (q + 1) 0), .int .u8 (bs.getD (q + 2) 0), .int .u8 (bs.getD (q + 3) 0)] := rfl
   rw [hKV] at HK
   have HLK : Hid (∀ W, Mp W mb bs q → (Instr.lookup 185 (.map (some mb)) (.agg #[.int .u8 (bs.getD q 0), .int .u8 (bs.getD (q + 1) 0), .int .u8 (bs.getD (q + 2) 0), .int .u8 (bs.getD (q + 3) 0)]) false).run Tryz.prog W = .ok (.int .i64 ((nxt bs q q : Nat) : Int)) W) := fun W hW => hW.look h8 q (Nat.le_refl _) h4
   generalize bs.getD q 0 = y0 at *
   generalize bs.getD (q + 1) 0 = y1 at *
   generalize bs.getD (q + 2) 0 = y2 at *
   generalize bs.getD (q + 3) 0 = y3 at *
   clear hKV
   gi_wp2_with fail
   refine ⟨trivial, ?_⟩
   refine (callsIn_wide.2 HK.out).mono ?_
   rintro _ w1 ⟨rfl, hb1⟩
   clear HK hs0 ha0
   gi_wp2_with fail
   have hbA := bel_allocZ w1 (.cells #[.int .u8 y0, .int .u8 y1, .int .u8 y2, .int .u8 y3] 189)
   have e0 : (w1.alloc (.cells #[.int .u8 y0, .int .u8 y1, .int .u8 y2, .int .u8 y3] 189)).heap[w1.heap.size]? = some (.cells #[.int .u8 y0, .int .u8 y1, .int .u8 y2, .int .u8 y3] 189 (0, 0)) := heap_newZ w1 _
   have hb2 := Bn hb1 hbA
   have hP2 := HPW.out.below hb2
   have HB2 := hid (Bn HBW.out hb2)
   have HJ2 := hid (HJ.out [] W _ none h0 (grown_of_below hb2) (fun r e => by cases e))
   clear hb1 hbA hb2 HPW h0 HBW hbW
   generalize w1.alloc (.cells #[.int .u8 y0, .int .u8 y1, .int .u8 y2, .int .u8 y3] 189) = W2 at *
   generalize w1.heap.size = kb at *
   have hs0 : W2.cell? ⟨sB, 0, none⟩ = some (.pointer (some ⟨g, 0, none⟩)) := (HB2.out.cell (p := ⟨sB, 0, none⟩) hs).trans HSB.out
   have c1 := Joins.cell_of_block hP2.blk 1
   have k0 := Joins.cell_of_block e0 0
   have k1 := Joins.cell_of_block e0 1
   have k2 := Joins.cell_of_block e0 2
   have k3 := Joins.cell_of_block e0 3
   simp only [List.getElem?_toArray, List.getElem?_cons_zero, List.getElem?_cons_succ] at c1 k0 k1 k2 k3
   have hlk : ∀ n, (Instr.lookup 185 (.map (some mb)) (.agg #[.int .u8 y0, .int .u8 y1, .int .u8 y2, .int .u8 y3]) false).run Tryz.prog (W2.drewN n) = .ok (.int .i64 ((nxt bs q q : Nat) : Int)) (W2.drewN n) := fun n => HLK.out _ hP2.map
   clear hP2 e0
   refine wpIn_wide.2 ?_
   refine wp_region_quiet_lit (by kernel_rfl) (by kernel_rfl) ?_
   repeat (go_big_quiet_step (fail))
   refine wpQuiet_nil ?_
   intro _ hw'
   obtain ⟨nq, hw''⟩ := hw'
   subst hw''
   have HB3 := hid (bel_drewN HB2.out nq)
   have HJ3 := hid (HJ.out [] W2 (W2.drewN nq) none HJ2.out (grown_of_below (bel_drewN' W2 nq)) (fun r e => by cases e))
   clear hlk hs0 c1 k0 k1 k2 k3 HB2 HJ2 HLK
   generalize W2.drewN nq = W4 at *
   gi_wp2_with fail
   have HNQ : Hid (nxt bs q q ≤ q) := nxt_le bs q q
   gi_loopw [6] (fun p wr => ∃ (pre rest : List (Fin q)) (m : Nat), m ≤ q ∧ p = .int .i64 ((nxt bs q m : Nat) : Int) ∧ Hid (xs = pre ++ rest) ∧ Hid (rest.map Fin.val = chain bs q m) ∧ J pre wr ∧ Below w.heap.size w wr)
     (fun p _ => (intOf p).toNat)
   case atStart => exact ⟨[], xs, q, Nat.le_refl _, rfl, rfl, HVV.out, HJ3.out, HB3.out⟩
   case round =>
     clear HNQ HB3 HJ3
     obtain ⟨pre, rest, m, hm, rfl, HX, HR, hJs, hb⟩ := hrel
     have hca : wr.cell? ⟨aB, 0, none⟩ = some (.int .i64 (q : Int)) := (hb.cell (p := ⟨aB, 0, none⟩) ha).trans HAB.out
     have HC := HR.out
     rw [chain_nxt] at HC
     have hle := nxt_le bs q m
     have HSM := hid (fun h => nxt_same (bs := bs) (q := q) (m := m) h)
     have HPV := hid HP.out.vals
     generalize nxt bs q m = x at *
     by_cases hlt : 0 < x ∧ q - (x - 1) ≤ 4096
     · obtain ⟨hx1, hx2⟩ := hlt
       rw [if_pos ⟨hx1, hx2⟩] at HC
       obtain ⟨y, r, rfl, hy, hr⟩ := cons_of_map HC
       obtain ⟨fn, tmps, assign, body, hyd, hRd⟩ := HY.out pre y wr hJs (by have := HL.out; rw [HX.out] at this; simp at this; omega)
       rw [hy] at hyd
       obtain ⟨i, hi⟩ : ∃ i, i = x - 1 := ⟨_, rfl⟩
       rw [← hi] at hyd hr
       have hiz : (x : Int) - 1 = (i : Int) := by omega
       have hx0 : (0 : Int) < (x : Int) := by omega
       have hiz2 : (q : Int) - (i : Int) ≤ 4096 := by omega
       have hsm := HSM.out hx1
       rw [← hi] at hsm
       have HNX : Hid ((ps.getD i 0 : Int) = ((nxt bs q i : Nat) : Int)) := by
         show _ = _
         rw [HPV.out i (by omega) (by omega), nxt_eq hsm]
       have hiq : i < q := by omega
       have hxi : x = i + 1 := by omega
       have HXI := hid hxi
       clear hi HC hsm hxi HSM hy
       gi_wp2
       refine hRd.mono ?_
       rintro e W3 (⟨rfl, hJ3, hk3⟩ | ⟨rfl, hJx3⟩)
       · have hb3 := hb.trans hk3
         have hP3 := HP.out.below hb3
         have cs := (hb3.cell (p := ⟨sB, 0, none⟩) hs).trans HSB.out
         have c2 := Joins.cell_of_block hP3.blk 2
         simp only [List.getElem?_toArray, List.getElem?_cons_zero, List.getElem?_cons_succ] at c2
         have cp : W3.cell? ⟨pb, i, none⟩ = some (.int .i64 ((nxt bs q i : Nat) : Int)) := by
           rw [hP3.row.cellAt _ (by omega), List.getElem?_map, List.getElem?_eq_getElem (by rw [hP3.len]; omega)]
           rw [← HNX.out]
           simp [List.getD, List.getElem?_eq_getElem (show i < ps.length by rw [hP3.len]; omega)]
         have hiL : (i : Int) < (bs.length : Int) := by omega
         have HB5 := hid hb3
         clear hP3 hb3 hk3 hb hca hRd hyd
         have hnl := nxt_le bs q i
         gi_wp2
         exact ⟨⟨pre ++ [y], r, i, by omega, rfl, hid (by rw [HX.out]; simp), hid hr, hJ3, HB5.out⟩, by have := HXI.out; simp [intOf]; omega⟩
       · gi_wp2
         refine bodyPost_ret (results_none rfl _ _ _) rfl ?_
         exact ⟨⟨_, rfl⟩, .inr ⟨pre ++ [y], ⟨r, by rw [HX.out]; simp⟩, hJx3⟩⟩
     · rw [if_neg hlt] at HC
       obtain rfl := nil_of_map HC
       by_cases hx1 : 0 < x
       · have hz1 : (0 : Int) < (x : Int) := by omega
         have hz2 : ¬ (q : Int) - ((x : Int) - 1) ≤ 4096 := by omega
         gi_wp2
         go_end0
         exact ⟨⟨_, rfl⟩, .inl (by rw [HX.out, List.append_nil]; exact hJs)⟩
       · have hz1 : ¬ (0 : Int) < (x : Int) := by omega
         gi_wp2
         go_end0
         exact ⟨⟨_, rfl⟩, .inl (by rw [HX.out, List.append_nil]; exact hJs)⟩
 · rw [if_neg h4, show decide (q + 4 ≤ bs.length) = false from by simpa using h4] at HK
   have HVV : Hid (xs = []) := by
     refine nil_of_map ?_
     rw [HV.out]
     unfold alikeL
     rw [if_neg h4]
   gi_wp2_with fail
   refine ⟨trivial, ?_⟩
   refine (callsIn_wide.2 HK.out).mono ?_
   rintro _ w1 ⟨rfl, hb1⟩
   unfold four
   have hbA := bel_allocZ w1 (.cells #[.int .u8 0, .int .u8 0, .int .u8 0, .int .u8 0] 189)
   have HJ2 := hid (HJ.out [] W _ none h0 (grown_of_below (Bn hb1 hbA)) (fun r e => by cases e))
   clear HK hs0 ha0 hb1 hbA
   gi_wp2
   refine bodyPost_ret (results_none rfl _ _ _) rfl ?_
   exact ⟨⟨_, rfl⟩, .inl ⟨[], HVV.out.symm, HJ2.out⟩⟩
end Go.Proofs.YtibjlbcnapoblaaGreatDoor
/-
 The contract of the document's Tokens.
-/
namespace Go.Proofs.YtibjlbcnapoblaaGreatDoor
open Go.RowKit Go.Shelf Lz Go.ChangeShapes Go.WideShapes

def tokC (t : Tok) : List Value := [.int .i64 (t.1 : Int), .int .i64 (t.2.1 : Int), .int .u8 t.2.2]
theorem tokC_one (t : Tok) : ∀ u ∈ tokC t, u.oneCell' = true := by
 intro u hu
 simp [tokC] at hu
 rcases hu with rfl | rfl | rfl <;> rfl
theorem tokC_snoc (l : List Tok) (t : Tok) : (l ++ [t]).flatMap tokC = l.flatMap tokC ++ tokC t := by simp

def tksO (bs : List Int) : List Tok × Int := if 65536 < bs.length then ([], 2) else (toksL bs, 0)
def TksPost (bs : List Int) (w : World) (e : Ending) (w' : World) : Prop :=
 ∃ v, e = .returned (.tuple #[v, .int .i64 (tksO bs).2]) ∧ w'.ownsRow w.heap.size 109 3 v (tksO bs).1.length ((tksO bs).1.flatMap tokC) ∧ Below w.heap.size w w'

theorem Tryz.info109 : (Tryz.prog.info? 109).map (fun i => (i.zero, i.size, i.bytes)) = some (some (.agg #[.int .i64 0, .int .i64 0, .int .u8 0]), 3, 24) := by kernel_rfl
theorem nil_row (w : World) (base : Nat) : w.ownsRow base 109 3 (.slice none 0 0) 0 [] := ⟨rfl, .inl ⟨rfl, rfl⟩⟩
theorem tok_new (w : World) (t : Tok) (j : Nat) (u : Value) (h : (tokC t)[j]? = some u) : (w.alloc (.cells (tokV t) 109)).cell? ((⟨w.heap.size, 0, none⟩ : Addr).add j) = some u := by
 have e := Joins.cell_of_block (heap_newZ w (.cells (tokV t) 109)) j
 rw [add_plain, Nat.zero_add, e]
 unfold tokV tokC at *
 rw [List.getElem?_toArray]
 exact h

theorem own_laterZ {w w' : World} {base : Nat} {e : TypeId} {size : Nat} {v : Value} {n : Nat} {xs : List Value} (h : w.ownsRow base e size v n xs) (hb : Below w.heap.size w w') : w'.ownsRow base e size v n xs :=
 h.kept (grown_of_below hb) (by cases v.ownBlock <;> simp)

theorem own_block {w : World} {base : Nat} {e : TypeId} {size : Nat} {v : Value} {n : Nat} {xs : List Value} (h : w.ownsRow base e size v n xs) : ∀ g, v.ownBlock = some g → base ≤ g ∧ g < w.heap.size := by
 intro g hg
 rcases h.2 with ⟨rfl, _⟩ | ⟨g', cap, cur, rfl, hb, hh, _⟩
 · cases hg
 · simp only [Value.ownBlock, Option.some.injEq] at hg
   subst hg
   exact ⟨hb, (Array.getElem?_eq_some_iff.1 hh).1⟩

end Go.Proofs.YtibjlbcnapoblaaGreatDoor
