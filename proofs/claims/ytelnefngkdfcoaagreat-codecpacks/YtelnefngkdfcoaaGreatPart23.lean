/-
  Bits behind bytes: the contract of the writer's put.
-/
import Derived.Test.YtelnefngkdfcoaaGreatPart22
import Derived.StillTailTactics
namespace Go.Proofs.YtelnefngkdfcoaaGreat
open Go.RowKit

def bitP (L : List Int) (f b : Nat) : List Int × Nat :=
  if f = 0 then (L ++ [((b * 128 : Nat) : Int)], 7) else (L.set (L.length - 1) (((L.getD (L.length - 1) 0).toNat ||| b * 2 ^ (f - 1) : Nat) : Int), f - 1)
def putP (x : Nat) : Nat → List Int × Nat → List Int × Nat
  | 0, s => s
  | n + 1, s => putP x n (bitP s.1 s.2 (x / 2 ^ n % 2))

structure Wt (B g : Nat) (w : World) (L : List Int) (f : Nat) (v : Value) : Prop where
  blk : w.heap[g]? = some (.cells #[v, .int .i64 (f : Int)] 61 (0, 0))
  row : w.ownsRow B 5 1 v L.length (L.map (Value.int .u8))
  u8 : ∀ j, 0 ≤ L.getD j 0 ∧ L.getD j 0 ≤ 255
  fl : f ≤ 8
  any : 0 < f → 0 < L.length
theorem Wt.ne {B g : Nat} {w : World} {L : List Int} {f : Nat} {v : Value} (h : Wt B g w L f v) : v.ownBlock ≠ some g := by
  rcases h.row.2 with ⟨rfl, _⟩ | ⟨k, cap, cur, rfl, _, hh, _⟩
  · simp [Value.ownBlock]
  · intro e
    have e' : k = g := by simpa [Value.ownBlock] using e
    have := h.blk
    rw [← e', hh] at this
    injection this with this
    injection this with _ h2
    cases h2
theorem Wt.free {B g : Nat} {w : World} {L : List Int} {f : Nat} {v : Value} (h : Wt B g w L f v) (f' : Nat) (h1 : f' ≤ 8) (h2 : 0 < f' → 0 < L.length) : Wt B g (w.setCell ⟨g, 1, none⟩ (.int .i64 (f' : Int))) L f' v := by
  refine ⟨?_, ownsRow_setCell_other h.row h.ne _, h.u8, h1, h2⟩
  rw [Joins.block_setCell h.blk]; rfl
theorem Wt.drew {B g : Nat} {w : World} {L : List Int} {f : Nat} {v : Value} (h : Wt B g w L f v) : Wt B g w.drew L f v := ⟨h.blk, h.row.drew, h.u8, h.fl, h.any⟩
theorem Wt.alloc {B g : Nat} {w : World} {L : List Int} {f : Nat} {v : Value} (h : Wt B g w L f v) (o : Obj) : Wt B g (w.alloc o) L f v :=
  ⟨((bel_allocZ w o).block g (Array.getElem?_eq_some_iff.1 h.blk).1).trans h.blk, h.row.alloc o, h.u8, h.fl, h.any⟩
theorem Wt.lt {B g : Nat} {w : World} {L : List Int} {f : Nat} {v : Value} (h : Wt B g w L f v) : g < w.heap.size := (Array.getElem?_eq_some_iff.1 h.blk).1
theorem Wt.more {B g : Nat} {w w' : World} {L : List Int} {f : Nat} {v v' : Value} (h : Wt B g w L f v) (hg : w.grownBy w' v.ownBlock) (ho : w'.ownsRow B 5 1 v' (L ++ [0]).length ((L ++ [0]).map (Value.int .u8))) : Wt B g (w'.setCell ⟨g, 0, none⟩ v') (L ++ [0]) f v' := by
  have hb : w'.heap[g]? = some (.cells #[v, .int .i64 (f : Int)] 61 (0, 0)) := (hg.block g h.lt h.ne.symm).trans h.blk
  have hne : v'.ownBlock ≠ some g := by
    rcases ho.2 with ⟨rfl, _⟩ | ⟨k, cap, cur, rfl, _, hh, _⟩
    · simp [Value.ownBlock]
    · intro e
      have e' : k = g := by simpa [Value.ownBlock] using e
      rw [← e', hh] at hb
      injection hb with hb
      injection hb with _ h2
      cases h2
  refine ⟨?_, ownsRow_setCell_other ho hne _, fun j => ?_, h.fl, fun _ => by simp⟩
  · rw [Joins.block_setCell hb]; rfl
  · by_cases c : j < L.length
    · have := h.u8 j
      simpa [List.getD, List.getElem?_append_left c] using this
    · by_cases c2 : j = L.length
      · subst c2; simp [List.getD]
      · simp [List.getD, List.getElem?_eq_none (show (L ++ [0]).length ≤ j by simp; omega)]
theorem Wt.last {B g : Nat} {w : World} {L : List Int} {f k n cap : Nat} (h : Wt B g w L f (.slice (some ⟨k, 0, none⟩) n cap)) (i : Nat) (x : Int) (hx : 0 ≤ x ∧ x ≤ 255) : Wt B g (w.setCell ⟨k, i, none⟩ (.int .u8 x)) (L.set i x) f (.slice (some ⟨k, 0, none⟩) n cap) := by
  have hn : n = L.length := by
    rcases h.row.2 with ⟨h1, _⟩ | ⟨_, _, _, h1, _⟩
    · cases h1
    · injection h1
  subst hn
  have hs := (h.row.stored i (.int .u8 x))
  have hkg : k ≠ g := fun e => h.ne (by rw [e]; rfl)
  refine ⟨?_, ?_, fun j => ?_, h.fl, fun hf => by rw [List.length_set]; exact h.any hf⟩
  · have := hs.2.block g h.lt (by simp; exact fun e => hkg e.symm)
    rw [this]; exact h.blk
  · rw [List.length_set, List.map_set]; exact hs.1
  · have h1 := h.u8 j
    simp only [List.getD, List.getElem?_set] at h1 ⊢
    split
    · split
      · simpa using hx
      · simp
    · exact h1

structure Fr (g : Nat) (w w' : World) : Prop where
  size : w.heap.size ≤ w'.heap.size
  same : ∀ i, i < w.heap.size → i ≠ g → (∀ cs fr, w.heap[i]? ≠ some (.cells cs 5 fr)) → w'.heap[i]? = w.heap[i]?
theorem Fr.refl (g : Nat) (w : World) : Fr g w w := ⟨Nat.le_refl _, fun _ _ _ _ => rfl⟩
theorem Fr.trans {g : Nat} {a b c : World} (h : Fr g a b) (k : Fr g b c) : Fr g a c :=
  ⟨Nat.le_trans h.size k.size, fun i h1 h2 h3 => by
    have e := h.same i h1 h2 h3
    exact (k.same i (Nat.lt_of_lt_of_le h1 h.size) h2 (by rw [e]; exact h3)).trans e⟩
theorem Fr.of_below {g : Nat} {w w' : World} (h : Below w.heap.size w w') : Fr g w w' := ⟨h.size, fun i hi _ _ => h.block i hi⟩
theorem Fr.drew {g : Nat} {w w' : World} (h : Fr g w w') : Fr g w w'.drew := ⟨h.size, h.same⟩
theorem Fr.atG {g i : Nat} {w wr : World} (h : Fr g w wr) (x : Value) : Fr g w (wr.setCell ⟨g, i, none⟩ x) :=
  ⟨by have := h.size; simpa using this, fun j h1 h2 h3 => (Below.heap_setCell wr ⟨g, i, none⟩ x j h2).trans (h.same j h1 h2 h3)⟩
theorem Fr.atB {g k i : Nat} {w wr : World} {cs : Array Value} {fr : Nat × Nat} (h : Fr g w wr) (hk : wr.heap[k]? = some (.cells cs 5 fr)) (x : Value) : Fr g w (wr.setCell ⟨k, i, none⟩ x) :=
  ⟨by have := h.size; simpa using this, fun j h1 h2 h3 => by
    have e := h.same j h1 h2 h3
    have hne : j ≠ k := fun q => h3 cs fr (by rw [← e, q]; exact hk)
    exact (Below.heap_setCell wr ⟨k, i, none⟩ x j hne).trans e⟩
theorem Fr.grown {g B n : Nat} {w wr w' : World} {v : Value} {xs : List Value} (h : Fr g w wr) (ho : wr.ownsRow B 5 1 v n xs) (hg : wr.grownBy w' v.ownBlock) : Fr g w w' :=
  ⟨Nat.le_trans h.size hg.size, fun j h1 h2 h3 => by
    have e := h.same j h1 h2 h3
    refine (hg.block j (Nat.lt_of_lt_of_le h1 h.size) (fun q => ?_)).trans e
    rcases ho.2 with ⟨rfl, _⟩ | ⟨k, cap, cur, rfl, _, hh, _⟩
    · simp [Value.ownBlock] at q
    · have e' : j = k := by simpa [Value.ownBlock] using q
      exact h3 cur (0, 0) (by rw [← e, e']; exact hh)⟩
theorem Wt.blkB {B g : Nat} {w : World} {L : List Int} {f k n cap : Nat} (h : Wt B g w L f (.slice (some ⟨k, 0, none⟩) n cap)) : ∃ cur, w.heap[k]? = some (.cells cur 5 (0, 0)) := by
  rcases h.row.2 with ⟨e, _⟩ | ⟨k', cap', cur, e, _, hh, _⟩
  · cases e
  · injection e with e1 _ _
    injection e1 with e1
    injection e1 with e1
    subst e1
    exact ⟨cur, hh⟩
theorem Wt.cells {B g : Nat} {w : World} {L : List Int} {f : Nat} {v : Value} (h : Wt B g w L f v) (h0 : 0 < L.length) : ∃ k cap, v = .slice (some ⟨k, 0, none⟩) L.length cap ∧ B ≤ k ∧ L.length ≤ cap ∧ cap ≤ maxLen ∧ (∀ i, i < L.length → w.cell? ⟨k, i, none⟩ = some (.int .u8 (L.getD i 0))) ∧ ∀ i, w.frozen? ⟨k, i, none⟩ = false := by
  have hr := h.row
  rcases hr.2 with ⟨_, h2⟩ | ⟨k, cap, cur, rfl, hB, hh, hn, hm, _⟩
  · omega
  · refine ⟨k, cap, rfl, hB, hn, hm, fun i hi => ?_, fun i => hr.frozenAt i⟩
    rw [hr.cellAt i (by simpa using hi)]
    simp [List.getD, List.getElem?_eq_getElem hi]
theorem i64_and_nat (a b : Nat) (ha : a < 2 ^ 62) (hb : b < 2 ^ 62) : bits .and .i64 (a : Int) (b : Int) = ((a &&& b : Nat) : Int) := by
  have hx : a &&& b < 2 ^ 62 := Nat.and_lt_two_pow _ hb
  show IntKind.i64.wrap ((BitVec.ofInt 64 (a : Int) &&& BitVec.ofInt 64 (b : Int)).toNat : Int) = _
  rw [BitVec.toNat_and, ofInt_u64 a (by omega), ofInt_u64 b (by omega), IntKind.wrap_i64]
  omega
theorem i64_or_nat (a b : Nat) (ha : a < 2 ^ 62) (hb : b < 2 ^ 62) : bits .or .i64 (a : Int) (b : Int) = ((a ||| b : Nat) : Int) := by
  have hx : a ||| b < 2 ^ 62 := Nat.or_lt_two_pow ha hb
  show IntKind.i64.wrap ((BitVec.ofInt 64 (a : Int) ||| BitVec.ofInt 64 (b : Int)).toNat : Int) = _
  rw [BitVec.toNat_or, ofInt_u64 a (by omega), ofInt_u64 b (by omega), IntKind.wrap_i64]
  omega
theorem and_bit (y : Nat) (h : y < 65536) : bits .and .i64 (y : Int) 1 = ((y % 2 : Nat) : Int) := by
  rw [show (1 : Int) = ((1 : Nat) : Int) from rfl, i64_and_nat y 1 (by omega) (by omega), Nat.and_one_is_mod]
theorem or_u8 (a c : Nat) (h1 : a < 256) (h2 : c < 256) : bits .or .u8 (a : Int) (c : Int) = ((a ||| c : Nat) : Int) := u8_or_nat a c h1 h2

set_option maxHeartbeats 3200000 in
set_option maxRecDepth 100000 in
theorem put_word (B g x n : Nat) (L : List Int) (f : Nat) (w0 w : World) (v : Value) (hW : Wt B g w L f v) (hb : Below B w0 w) (hB : B ≤ g) (hx : x < 65536) (hn : n ≤ 15) (hL : L.length ≤ 4000000) :
    Calls Tryz.prog 62 #[.pointer (some ⟨g, 0, none⟩), .int .i64 (x : Int), .int .i64 (n : Int)] w fun e w' => e = .returned (.tuple #[]) ∧ (∃ v', Wt B g w' (putP x n (L, f)).1 (putP x n (L, f)).2 v') ∧ Below B w0 w' ∧ Fr g w w' := by
  obtain ⟨i0, hi, hz0, hz1, hz2⟩ := info_parts Tryz.info5Z
  have HW0 := hid hW
  have HB0 := hid hb
  have HBG := hid hB
  have HLL := hid hL
  clear hW hb hB hL
  obtain ⟨N, hN⟩ : ∃ k, k = n := ⟨_, rfl⟩
  have HN := hid hN
  rw [← hN] at hn ⊢
  clear hN
  go_enter Tryz.func62, Tryz.ntmps62
  go_wp2_with fail
  go_loopw [2] (fun y wr => ∃ (k f' : Nat) (L' : List Int) (v' : Value), y = .int .i64 (k : Int) ∧ k ≤ N ∧ Hid (putP x k (L', f') = putP x n (L, f)) ∧ Hid (Wt B g wr L' f' v') ∧ Hid (Below B w0 wr) ∧ Hid (L'.length + k ≤ 4000000 + N) ∧ Hid (Fr g w wr)) (fun y _ => (intOf y).toNat)
  case atStart => exact ⟨N, f, L, v, rfl, by omega, by rw [HN.out]; rfl, HW0.out, HB0.out, by have := HLL.out; show L.length + N ≤ 4000000 + N; omega, Fr.refl _ _⟩
  case round =>
    obtain ⟨k, f', L', v', rfl, hk, HP, HW, HB, HLN, HFR⟩ := hrel
    clear HW0 HB0 HLL
    rcases Nat.eq_zero_or_pos k with h0 | h0
    · subst h0
      go_wp2
      go_end0
      exact ⟨rfl, ⟨v', by rw [HN.out, ← HP.out]; exact HW.out⟩, HB.out, HFR.out⟩
    · have hk0 : (0 : Int) < (k : Int) := by omega
      have c0 := Joins.cell_of_block HW.out.blk 0
      have c1 := Joins.cell_of_block HW.out.blk 1
      have u0 := Joins.unfrozen_of_block HW.out.blk 0
      have u1 := Joins.unfrozen_of_block HW.out.blk 1
      simp only [List.getElem?_toArray, List.getElem?_cons_zero, List.getElem?_cons_succ] at c0 c1
      by_cases hf : f' = 0
      · subst hf
        have HF0 := hid HW.out.row
        have hz := HB.out.size
        have hLn := HLN.out
        have HZERO : Hid (((0 : Nat) : Int) = 0) := rfl
        simp only [Int.natCast_zero] at c1
        go_wp2_with (at_builtin; refine wpList_append_own _ rfl _ _ 24 rfl B 5 i0 (.int .u8 0) 1 1 Tryz.underlying24 hi hz0 hz1 hz2 rfl (by decide) _ _ _ rfl (HF0.out.alloc _) ⟨wr.heap.size, 0, none⟩ 1 1 [.int .u8 0] rfl rfl ?c1 ?c2 ?c3 ?c4 ?c5 ?_)
        case c1 =>
          intro j u hj
          match j, hj with
          | 0, hj => simp at hj; subst hj; simp [Addr.add]
        case c2 => intro u hu; simp at hu; subst hu; rfl
        case c3 => unfold maxLen; omega
        case c4 => omega
        case c5 => have h1 := HBG.out; have h2 := HW.out.lt; simp; omega
        intro v1 w1 hown' hgrow hnn
        obtain ⟨kb1, cp1, hvs⟩ : ∃ kb1 cp1, v1 = .slice (some ⟨kb1, 0, none⟩) (L'.length + 1) cp1 := by
          rcases hown'.2 with ⟨h, _⟩ | ⟨k1, c1, _, h, _⟩
          · exact absurd h hnn
          · exact ⟨k1, c1, h⟩
        subst hvs
        clear hnn
        obtain ⟨L1, hL1⟩ : ∃ l, l = L' ++ [0] := ⟨_, rfl⟩
        have HL1 := hid hL1
        have HM0 : Hid (Wt B g (w1.setCell ⟨g, 0, none⟩ (.slice (some ⟨kb1, 0, none⟩) (L'.length + 1) cp1)) L1 0 (.slice (some ⟨kb1, 0, none⟩) (L'.length + 1) cp1)) := by
          rw [hL1]
          exact (HW.out.alloc _).more hgrow (by rw [List.length_append, List.map_append]; exact hown')
        have hbk : w1.heap[g]? = some (.cells #[v', .int .i64 ((0 : Nat) : Int)] 61 (0, 0)) := (hgrow.block g (by have := HW.out.lt; simp; omega) HW.out.ne.symm).trans (HW.out.alloc _).blk
        have HAN : Hid (0 < L1.length) := by show 0 < L1.length; rw [hL1]; simp
        have HG2 : Hid (Wt B g (((w1.setCell ⟨g, 0, none⟩ (.slice (some ⟨kb1, 0, none⟩) (L'.length + 1) cp1)).setCell ⟨g, 1, none⟩ (.int .i64 8)).setCell ⟨g, 1, none⟩ (.int .i64 7)) L1 7 (.slice (some ⟨kb1, 0, none⟩) (L'.length + 1) cp1)) := (HM0.out.free 8 (by omega) (fun _ => HAN.out)).free 7 (by omega) (fun _ => HAN.out)
        have HBL0 := hid ((HB.out.alloc (show B ≤ wr.heap.size by have h1 := HBG.out; have h2 := HW.out.lt; omega) (.cells #[.int .u8 0] 5)).grown hgrow (by have h1 := HBG.out; have h2 := HW.out.lt; simp; omega) (fun j hj => (HF0.out.lt j hj).1))
        have HB2 := hid (((HBL0.out.setCell (show B ≤ (Addr.mk g 0 none).block from HBG.out) (.slice (some ⟨kb1, 0, none⟩) (L'.length + 1) cp1)).setCell (show B ≤ (Addr.mk g 1 none).block from HBG.out) (.int .i64 8)).setCell (show B ≤ (Addr.mk g 1 none).block from HBG.out) (.int .i64 7))
        have HFR2 := hid ((((((HFR.out.trans (Fr.of_below (bel_allocZ wr (.cells #[.int .u8 0] 5)))).grown (HW.out.alloc _).row hgrow).atG (i := 0) (.slice (some ⟨kb1, 0, none⟩) (L'.length + 1) cp1)).atG (i := 1) (.int .i64 8)).atG (i := 1) (.int .i64 7)))
        have HLN1 : Hid (L1.length + (k - 1) ≤ 4000000 + N) := by show _ ≤ _; rw [hL1]; have := HLN.out; simp; omega
        clear hL1 hown' hgrow c0 c1 u0 u1 hz hLn HZERO HF0 HBL0
        have c0 := Joins.cell_of_block hbk 0
        have c1 := Joins.cell_of_block hbk 1
        have u0 := Joins.unfrozen_of_block hbk 0
        have u1 := Joins.unfrozen_of_block hbk 1
        simp only [List.getElem?_toArray, List.getElem?_cons_zero, List.getElem?_cons_succ] at c0 c1
        have hmo : Tryz.prog.follows .mixedOrders = true := by kernel_rfl
        clear hbk
        go_wp2_with fail
        generalize ((w1.setCell ⟨g, 0, none⟩ (.slice (some ⟨kb1, 0, none⟩) (L'.length + 1) cp1)).setCell ⟨g, 1, none⟩ (.int .i64 8)).setCell ⟨g, 1, none⟩ (.int .i64 7) = W2 at *
        obtain ⟨q, hq⟩ : ∃ q : Nat, q = 7 := ⟨_, rfl⟩
        obtain ⟨kk, hkk⟩ : ∃ q : Nat, q = k - 1 := ⟨_, rfl⟩
        have hki : (k : Int) - 1 = (kk : Int) := by omega
        rw [hki]
        rw [← hq] at HG2
        have HQ := hid hq
        have HKK := hid hkk
        clear hq hkk hki c0 c1 u0 u1
        have h0L : 0 < L1.length := HAN.out
        obtain ⟨kb, cp, hv1, hkb, hcp, hcm, hcl, hfz⟩ := HG2.out.cells h0L
        injection hv1 with e1 e2 e3
        injection e1 with e1
        injection e1 with e1
        subst e1 e3
        rw [e2] at HG2
        clear e2
        have HKB := hid hkb
        clear hkb
        have c0 := Joins.cell_of_block HG2.out.blk 0
        have c1 := Joins.cell_of_block HG2.out.blk 1
        simp only [List.getElem?_toArray, List.getElem?_cons_zero, List.getElem?_cons_succ] at c0 c1
        obtain ⟨m, hm⟩ : ∃ m, m = L1.length - 1 := ⟨_, rfl⟩
        have cl := hcl m (by omega)
        have fz := hfz m
        obtain ⟨ln, hln⟩ : ∃ m, m = L1.length := ⟨_, rfl⟩
        have HLN2 := hid hln
        have HMM : Hid (m = L1.length - 1) := hm
        have hmi : (ln : Int) - 1 = (m : Int) := by omega
        have hml : m < ln := by omega
        have hmb : (ln : Int) ≤ 5000000 := by have := HLN1.out; omega
        rw [← hln] at c0 hcp
        have hu8 := HG2.out.u8 m
        obtain ⟨la, hla⟩ := Int.eq_ofNat_of_zero_le hu8.1
        have hla2 : la < 256 := by omega
        have HLA : Hid (L1.getD m 0 = (la : Int)) := hla
        rw [hla] at cl
        obtain ⟨y, hy⟩ : ∃ y, y = x / 2 ^ kk := ⟨_, rfl⟩
        have HY : Hid (y = x / 2 ^ kk) := hy
        have hyx : y < 65536 := by rw [hy]; exact Nat.lt_of_le_of_lt (Nat.div_le_self _ _) hx
        have hsh : (x : Int) / 2 ^ kk = (y : Int) := by rw [hy]; simp
        have hand := and_bit y hyx
        obtain ⟨b, hb⟩ : ∃ b, b = y % 2 := ⟨_, rfl⟩
        have HBB : Hid (b = y % 2) := hb
        rw [← hb] at hand
        have hb2 : b < 2 := by omega
        have hkb : (kk : Int) < 64 := by have := HKK.out; omega
        have hwm : IntKind.i64.wrap (m : Int) = (m : Int) := by rw [IntKind.wrap_i64]; omega
        have hwy : IntKind.i64.wrap (y : Int) = (y : Int) := by rw [IntKind.wrap_i64]; omega
        have hwb : IntKind.u8.wrap (b : Int) = (b : Int) := by rw [IntKind.wrap_u8]; omega
        have hq7 : q ≤ 7 := by have := HQ.out; omega
        obtain ⟨c, hc⟩ : ∃ c, c = b * 2 ^ q := ⟨_, rfl⟩
        have hc256 : c < 256 := by
          have h1 : 2 ^ q ≤ 2 ^ 7 := Nat.pow_le_pow_right (by decide) hq7
          have h2 : b * 2 ^ q ≤ 1 * 2 ^ 7 := Nat.mul_le_mul (by omega) h1
          omega
        have hci : (b : Int) * 2 ^ q = (c : Int) := by rw [hc]; simp
        have hwc : IntKind.u8.wrap (c : Int) = (c : Int) := by rw [IntKind.wrap_u8]; omega
        have hor := or_u8 la c hla2 hc256
        obtain ⟨r, hr⟩ : ∃ r, r = la ||| c := ⟨_, rfl⟩
        rw [← hr] at hor
        have HRR : Hid (r = la ||| b * 2 ^ q) := by show _ = _; rw [hr, hc]
        have hr256 : r < 256 := by rw [hr]; exact Nat.or_lt_two_pow (n := 8) hla2 hc256
        clear hcl hfz hm hln hu8 hla hy hb h0L hc hr
        go_still_tail 24, hmo
        change wpList _ _ _ _ _ W2.drew
        have HWL := hid ((HG2.out.last m (r : Int) (by omega)))
        obtain ⟨cur, hcur⟩ := HG2.out.blkB
        have HFR3 := hid (HFR2.out.atB (i := m) hcur (.int .u8 (r : Int))).drew
        clear hcur
        have HBL := hid ((HB2.out.setCell (show B ≤ (Addr.mk kb1 m none).block from HKB.out) (.int .u8 (r : Int))).drew)
        have HPP : Hid (putP x kk (L1.set m (r : Int), q) = putP x n (L, f)) := by
          show _ = _
          rw [← HP.out, show k = kk + 1 from by have := HKK.out; omega, putP]
          unfold bitP
          rw [if_pos rfl, ← HY.out, ← HBB.out]
          have e1 : L1.set m (r : Int) = L' ++ [((b * 128 : Nat) : Int)] := by
            have hla0 : la = 0 := by
              have h := HLA.out
              rw [HMM.out, HL1.out] at h
              simp [List.getD] at h
              omega
            rw [HRR.out, hla0, HQ.out, HMM.out, HL1.out]
            simp
          rw [e1, HQ.out]
        have HLL : Hid ((L1.set m (r : Int)).length + kk ≤ 4000000 + N) := by show _ ≤ _; rw [List.length_set]; have := HLN1.out; have := HKK.out; omega
        have hkk2 : kk < k := by have := HKK.out; omega
        go_wp2
        exact ⟨⟨kk, q, L1.set m (r : Int), _, rfl, by omega, HPP.out, HWL.out.drew, HBL.out, HLL.out, HFR3.out⟩, by simp [intOf]; omega⟩
      · have hfb : ((f' : Int) == 0) = false := by rw [beq_eq_false_iff_ne]; omega
        have hfl := HW.out.fl
        have HF2 := hid (HW.out.free (f' - 1) (by omega) (fun _ => HW.out.any (by omega)))
        have hfe : ((f' - 1 : Nat) : Int) = (f' : Int) - 1 := by omega
        rw [hfe] at HF2
        have hmo : Tryz.prog.follows .mixedOrders = true := by kernel_rfl
        have HAN : Hid (0 < L'.length) := HW.out.any (by omega)
        go_wp2_with fail
        obtain ⟨q, hq⟩ : ∃ q : Nat, q = f' - 1 := ⟨_, rfl⟩
        obtain ⟨kk, hkk⟩ : ∃ q : Nat, q = k - 1 := ⟨_, rfl⟩
        have hqi : (f' : Int) - 1 = (q : Int) := by omega
        have hki : (k : Int) - 1 = (kk : Int) := by omega
        rw [hqi, hki]
        rw [hqi, ← hq] at HF2
        have HQ := hid hq
        have HKK := hid hkk
        clear c0 c1 u0 u1 HW hq hkk hqi hki
        have HFR2 := hid (HFR.out.atG (i := 1) (.int .i64 (q : Int)))
        have hb2 := HB.out.setCell (show B ≤ (Addr.mk g 1 none).block from HBG.out) (.int .i64 (q : Int))
        have HB2 := hid hb2
        clear hb2
        generalize wr.setCell ⟨g, 1, none⟩ (.int .i64 (q : Int)) = W2 at *
        have h0L : 0 < L'.length := HAN.out
        obtain ⟨kb, cp, hv', hkb, hcp, hcm, hcl, hfz⟩ := HF2.out.cells h0L
        subst hv'
        have HKB := hid hkb
        clear hkb
        have c0 := Joins.cell_of_block HF2.out.blk 0
        have c1 := Joins.cell_of_block HF2.out.blk 1
        simp only [List.getElem?_toArray, List.getElem?_cons_zero, List.getElem?_cons_succ] at c0 c1
        obtain ⟨m, hm⟩ : ∃ m, m = L'.length - 1 := ⟨_, rfl⟩
        have cl := hcl m (by omega)
        have fz := hfz m
        obtain ⟨ln, hln⟩ : ∃ m, m = L'.length := ⟨_, rfl⟩
        have HLN2 := hid hln
        have HMM : Hid (m = L'.length - 1) := hm
        have hmi : (ln : Int) - 1 = (m : Int) := by omega
        have hml : m < ln := by omega
        have hmb : (ln : Int) ≤ 5000000 := by have := HLN.out; omega
        rw [← hln] at c0 hcp
        have hu8 := HF2.out.u8 m
        obtain ⟨la, hla⟩ := Int.eq_ofNat_of_zero_le hu8.1
        have hla2 : la < 256 := by omega
        have HLA : Hid (L'.getD m 0 = (la : Int)) := hla
        rw [hla] at cl
        obtain ⟨y, hy⟩ : ∃ y, y = x / 2 ^ kk := ⟨_, rfl⟩
        have HY : Hid (y = x / 2 ^ kk) := hy
        have hyx : y < 65536 := by rw [hy]; exact Nat.lt_of_le_of_lt (Nat.div_le_self _ _) hx
        have hsh : (x : Int) / 2 ^ kk = (y : Int) := by rw [hy]; simp
        have hand := and_bit y hyx
        obtain ⟨b, hb⟩ : ∃ b, b = y % 2 := ⟨_, rfl⟩
        have HBB : Hid (b = y % 2) := hb
        rw [← hb] at hand
        have hb2 : b < 2 := by omega
        have hkb : (kk : Int) < 64 := by have := HKK.out; omega
        have hwm : IntKind.i64.wrap (m : Int) = (m : Int) := by rw [IntKind.wrap_i64]; omega
        have hwy : IntKind.i64.wrap (y : Int) = (y : Int) := by rw [IntKind.wrap_i64]; omega
        have hwb : IntKind.u8.wrap (b : Int) = (b : Int) := by rw [IntKind.wrap_u8]; omega
        have hq7 : q ≤ 7 := by have := HQ.out; omega
        obtain ⟨c, hc⟩ : ∃ c, c = b * 2 ^ q := ⟨_, rfl⟩
        have hc256 : c < 256 := by
          have h1 : 2 ^ q ≤ 2 ^ 7 := Nat.pow_le_pow_right (by decide) hq7
          have h2 : b * 2 ^ q ≤ 1 * 2 ^ 7 := Nat.mul_le_mul (by omega) h1
          omega
        have hci : (b : Int) * 2 ^ q = (c : Int) := by rw [hc]; simp
        have hwc : IntKind.u8.wrap (c : Int) = (c : Int) := by rw [IntKind.wrap_u8]; omega
        have hor := or_u8 la c hla2 hc256
        obtain ⟨r, hr⟩ : ∃ r, r = la ||| c := ⟨_, rfl⟩
        rw [← hr] at hor
        have HRR : Hid (r = la ||| b * 2 ^ q) := by show _ = _; rw [hr, hc]
        have hr256 : r < 256 := by rw [hr]; exact Nat.or_lt_two_pow (n := 8) hla2 hc256
        clear hcl hfz hm hln hu8 hla hy hb h0L hc hr
        go_still_tail 24, hmo
        change wpList _ _ _ _ _ W2.drew
        have HWL := hid ((HF2.out.last m (r : Int) (by omega)))
        obtain ⟨cur, hcur⟩ := HF2.out.blkB
        have HFR3 := hid (HFR2.out.atB (i := m) hcur (.int .u8 (r : Int))).drew
        clear hcur
        have HBL := hid ((HB2.out.setCell (show B ≤ (Addr.mk kb m none).block from HKB.out) (.int .u8 (r : Int))).drew)
        have HPP : Hid (putP x kk (L'.set m (r : Int), q) = putP x n (L, f)) := by
          show _ = _
          rw [← HP.out, show k = kk + 1 from by have := HKK.out; omega, putP]
          unfold bitP
          rw [if_neg hf, ← HMM.out, HLA.out, Int.toNat_natCast, ← HY.out, ← HBB.out, ← HQ.out, ← HRR.out]
        have HLL : Hid ((L'.set m (r : Int)).length + kk ≤ 4000000 + N) := by show _ ≤ _; rw [List.length_set]; have := HLN.out; have := HKK.out; omega
        have hkk2 : kk < k := by have := HKK.out; omega
        go_wp2
        exact ⟨⟨kk, q, L'.set m (r : Int), _, rfl, by omega, HPP.out, HWL.out.drew, HBL.out, HLL.out, HFR3.out⟩, by simp [intOf]; omega⟩
end Go.Proofs.YtelnefngkdfcoaaGreat
