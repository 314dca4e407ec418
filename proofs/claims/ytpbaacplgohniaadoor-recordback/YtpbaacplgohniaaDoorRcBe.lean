/-
  A record that is read: record's reader.record.
-/
import Derived.Test.YtpbaacplgohniaaDoorRcBd
import Derived.Test.YtpbaacplgohniaaDoorRcM
namespace Go.Proofs.YtpbaacplgohniaaDoor
open Go.ChangeShapes Go.WideShapes Go.ChangeAt Go.RowKit Go.Deep

/-- The record behind its kind, numbers and digest, and what is left. -/
def redL (k s e : Int) (d : List Int) : List Int → Option (Rec × List Int)
  | [] => none
  | x :: z => some (⟨s, e, d, k, x, ByteArray.empty, none, 0, []⟩, z)
def redP (k s e : Int) (d : List Int) (z : List Int) : Option (Rec × List Int) := match pthO z with
  | none => none
  | some (p, z1) => match pcsR z1 with
    | none => none
    | some (l, z2) => some (⟨s, e, d, k, 0, strOfNums p, none, 0, l⟩, z2)
def redX (k s e : Int) (d : List Int) (z : List Int) : Option (Rec × List Int) := match pthO z with
  | none => none
  | some (p, z1) => some (⟨s, e, d, k, 0, strOfNums p, none, 0, []⟩, z1)
def red5 (k s e : Int) (d : List Int) (z : List Int) : Option (Rec × List Int) :=
  if k = 1 then redL k s e d z else if k = 2 then redP k s e d z else if k = 3 then redX k s e d z else some (⟨s, e, d, k, 0, ByteArray.empty, none, 0, []⟩, z)
def red4 (k s e : Int) (z : List Int) : Option (Rec × List Int) := if 32 ≤ z.length then red5 k s e (z.take 32) (z.drop 32) else none
def red3 (k s : Int) (z : List Int) : Option (Rec × List Int) := match numO 1073741824 z with
  | none => none
  | some (e, z1) => red4 k s (e : Int) z1
def red2 (k : Int) (z : List Int) : Option (Rec × List Int) := match numO 1073741824 z with
  | none => none
  | some (s, z1) => red3 k (s : Int) z1
def red1 : List Int → Option (Rec × List Int)
  | [] => none
  | k :: z => red2 k z
/-- The record that bytes begin with, and what is left. -/
def redR : List Int → Option (Rec × List Int)
  | [] => none
  | m :: z => if m = 82 then red1 z else none
def RecPost (w0 w : World) (g : Nat) (o : Option (Rec × List Int)) (e : Ending) (w' : World) : Prop := match o with
  | none => e = .panicked faultC ∧ But1 g w w'
  | some (r, rs) => ∃ a c, e = .returned (.agg { r with a := a, cap := c }.cs.toArray) ∧ Rp w' a c r.ps ∧ ∃ a' c', Rd w0 w' g a' c' rs ∧ But1 g w w' ∧ ∀ b off, a = some ⟨b, off, none⟩ → w.heap.size ≤ b
theorem Bx.setKind {w : World} {g : Nat} {r : Rec} (h : Bx w g r) (x : Int) : Bx (w.setCell ⟨g, 34, none⟩ (.int .i64 x)) g { r with kind := x } := by
  refine ⟨?_, h.len⟩
  rw [Joins.block_setCell h.blk, show r.cs = ([Value.int .i64 r.seq, .int .i64 r.epoch] ++ r.prev.map (Value.int .u8)) ++ [.int .i64 r.kind, .int .i64 r.site, .string r.path, .slice r.a r.ps.length r.cap] from by simp [Rec.cs]]
  have e : ([Value.int .i64 r.seq, .int .i64 r.epoch] ++ r.prev.map (Value.int .u8)).length = 34 := by simp [h.len]
  rw [List.setIfInBounds_toArray, List.set_append_right _ _ (by omega), e]
  simp [Rec.cs]
theorem Bx.setSite {w : World} {g : Nat} {r : Rec} (h : Bx w g r) (x : Int) : Bx (w.setCell ⟨g, 35, none⟩ (.int .i64 x)) g { r with site := x } := by
  refine ⟨?_, h.len⟩
  rw [Joins.block_setCell h.blk, show r.cs = ([Value.int .i64 r.seq, .int .i64 r.epoch] ++ r.prev.map (Value.int .u8) ++ [.int .i64 r.kind]) ++ [.int .i64 r.site, .string r.path, .slice r.a r.ps.length r.cap] from by simp [Rec.cs]]
  have e : ([Value.int .i64 r.seq, .int .i64 r.epoch] ++ r.prev.map (Value.int .u8) ++ [Value.int .i64 r.kind]).length = 35 := by simp [h.len]
  rw [List.setIfInBounds_toArray, List.set_append_right _ _ (by omega), e]
  simp [Rec.cs]
theorem Bx.setPcs {w : World} {g : Nat} {r : Rec} (h : Bx w g r) (a : Option Addr) (c : Nat) (l : List Pc) : Bx (w.setCell ⟨g, 37, none⟩ (.slice a l.length c)) g { r with ps := l, a := a, cap := c } := by
  refine ⟨?_, h.len⟩
  rw [Joins.block_setCell h.blk, show r.cs = ([Value.int .i64 r.seq, .int .i64 r.epoch] ++ r.prev.map (Value.int .u8) ++ [.int .i64 r.kind, .int .i64 r.site, .string r.path]) ++ [.slice r.a r.ps.length r.cap] from by simp [Rec.cs]]
  have e : ([Value.int .i64 r.seq, .int .i64 r.epoch] ++ r.prev.map (Value.int .u8) ++ [Value.int .i64 r.kind, Value.int .i64 r.site, Value.string r.path]).length = 37 := by simp [h.len]
  rw [List.setIfInBounds_toArray, List.set_append_right _ _ (by omega), e]
  simp [Rec.cs]
theorem wpList_store_midTo {P : Program} {ops : Array Oper} {rest : List Oper} {op : Oper} {a : Act} {w : World} {Q : Exit → Act → World → Prop} (hgd : op.guard = none) (ty : TypeId) (x y : Operand) (ho : op.op = .store ty x y) (hd : op.dst = none)
    (b o : Nat) (cells : Array Value) (hx : a.eval x = .pointer (some ⟨b, o, none⟩)) (hy : a.eval y = .agg cells) (ht : w.there b o cells.size) (hi : (P.info? ty).map (·.size) = some cells.size) (h1 : cells.all (·.oneCell') = true)
    (V : World) (hV : V = w.setCells b o cells.toList) (h : wpList P ops Q rest a V) : wpList P ops Q (op :: rest) a w := by
  subst hV
  refine wpList_store_mid hgd ty x y ho b o cells hx hy ht hi h1 ?_
  rw [hd]
  exact h
/-- Where a read record stands: its box, the answer's, what is left. -/
structure Rk (w0 w X : World) (g : Nat) (r : Rec) (zs : List Int) : Prop where
  box : Bx X (w.heap.size + 1) r
  out : X.heap[w.heap.size]? = some (.cells recZ.cs.toArray 27)
  rd : ∃ a c, Rd w0 X g a c zs
  but : But1 g w X
  glt : g < w.heap.size
theorem Rk.ge {w0 w X : World} {g : Nat} {r : Rec} {zs : List Int} (h : Rk w0 w X g r zs) : w.heap.size + 1 < X.heap.size := h.box.lt
theorem Rk.call {w0 w X V : World} {g : Nat} {r : Rec} {zs rs : List Int} {a : Option Addr} {c : Nat} (h : Rk w0 w X g r zs) (hb : But1 g X V) (hd : Rd w0 V g a c rs) : Rk w0 w V g r rs := by
  have h1 := h.glt
  have h2 := h.ge
  exact ⟨⟨(hb.same _ h2 (by omega)).trans h.box.blk, h.box.len⟩, (hb.same _ (by omega) (by omega)).trans h.out, ⟨_, _, hd⟩, h.but.trans hb, h1⟩
theorem Rk.set {w0 w X : World} {g i : Nat} {v : Value} {r r' : Rec} {zs : List Int} (h : Rk w0 w X g r zs) (hx : Bx (X.setCell ⟨w.heap.size + 1, i, none⟩ v) (w.heap.size + 1) r') : Rk w0 w (X.setCell ⟨w.heap.size + 1, i, none⟩ v) g r' zs := by
  have h1 := h.glt
  obtain ⟨a, c, hd⟩ := h.rd
  have h3 := hd.bel.size
  have h4 := hd.ge
  refine ⟨hx, (Deep.blk_setCell_other _ _ _ _ (by show w.heap.size ≠ w.heap.size + 1; omega)).trans h.out, ⟨a, c, ⟨(Deep.blk_setCell_other _ _ _ _ (by show g ≠ w.heap.size + 1; omega)).trans hd.blk, hd.row, hd.bel.setCell (show w0.heap.size ≤ w.heap.size + 1 by omega) _, hd.ge⟩⟩, ⟨h.but.bel.setCell (Nat.zero_le _) _, fun j hj hn => (Deep.blk_setCell_other _ _ _ _ (by show j ≠ w.heap.size + 1; omega)).trans (h.but.same j hj hn)⟩, h1⟩
theorem Rk.setPrev {w0 w X : World} {g : Nat} {r : Rec} {zs : List Int} (h : Rk w0 w X g r zs) (d : List Int) (hd : d.length = 32) : Rk w0 w (X.setCells (w.heap.size + 1) 2 (d.map (Value.int .u8))) g { r with prev := d } zs := by
  have h1 := h.glt
  obtain ⟨a, c, hr⟩ := h.rd
  have h4 := hr.ge
  exact ⟨h.box.setPrev d hd, (other_setCells _ _ (by omega) _ _ _).trans h.out, ⟨a, c, ⟨(other_setCells _ _ (by omega) _ _ _).trans hr.blk, hr.row, below_setCells (by omega) _ _ _ hr.bel, hr.ge⟩⟩, ⟨below_setCells (Nat.zero_le _) _ _ _ h.but.bel, fun j hj hn => (other_setCells _ _ (by omega) _ _ _).trans (h.but.same j hj hn)⟩, h1⟩
theorem Rk.start {w0 w : World} {g : Nat} {a : Option Addr} {c : Nat} {zs : List Int} (h : Rd w0 w g a c zs) : Rk w0 w ((w.alloc (.cells recZ.cs.toArray 27)).alloc (.cells recZ.cs.toArray 27)) g recZ zs := by
  have s1 : (w.alloc (.cells recZ.cs.toArray 27)).heap.size = w.heap.size + 1 := by simp
  have hx := Bx.mk' (w.alloc (.cells recZ.cs.toArray 27)) recZ rfl
  rw [s1] at hx
  have hb := Bn (bel_alc w (.cells recZ.cs.toArray 27)) (bel_alc (w.alloc (.cells recZ.cs.toArray 27)) (.cells recZ.cs.toArray 27))
  exact ⟨hx, heap_old _ _ (heap_alc w _), ⟨a, c, h.later hb⟩, .of_below hb, h.lt⟩
theorem Rk.unf {w0 w X : World} {g : Nat} {r : Rec} {zs : List Int} (h : Rk w0 w X g r zs) (i : Nat) : X.frozen? ⟨w.heap.size + 1, i, none⟩ = false := Joins.unfrozen_of_block h.box.blk i
theorem Rk.byte {w0 w X : World} {g : Nat} {r : Rec} {zs : List Int} (h : Rk w0 w X g r zs) : ∀ z ∈ zs, 0 ≤ z ∧ z ≤ 255 := by
  obtain ⟨a, c, hd⟩ := h.rd
  exact hd.byte
theorem Rk.byteS {w0 w X : World} {g : Nat} {r : Rec} {z : Int} {zs : List Int} (h : Rk w0 w X g r (z :: zs)) : Calls Tryd.prog 61 #[.pointer (some ⟨g, 0, none⟩)] X fun e V => e = .returned (.int .u8 z) ∧ Rk w0 w V g r zs := by
  obtain ⟨a, c, hd⟩ := h.rd
  refine (byte_some w0 X g a c z zs hd).mono ?_
  rintro _ V ⟨rfl, a', c', hd', hb⟩
  exact ⟨rfl, h.call hb hd'⟩
theorem Rk.byteN {w0 w X : World} {g : Nat} {r : Rec} (h : Rk w0 w X g r []) : Calls Tryd.prog 61 #[.pointer (some ⟨g, 0, none⟩)] X fun e V => e = .panicked faultC ∧ But1 g w V := by
  obtain ⟨a, c, hd⟩ := h.rd
  refine (byte_none w0 X g a c hd).mono ?_
  rintro _ V ⟨rfl, rfl⟩
  exact ⟨rfl, h.but⟩
theorem Rk.numS {w0 w X : World} {g : Nat} {r : Rec} {zs rs : List Int} {x : Nat} (h : Rk w0 w X g r zs) (hn : numO 1073741824 zs = some (x, rs)) : Calls Tryd.prog 62 #[.pointer (some ⟨g, 0, none⟩), .int .i64 1073741824] X fun e V => e = .returned (.int .i64 (x : Int)) ∧ Rk w0 w V g r rs := by
  obtain ⟨a, c, hd⟩ := h.rd
  refine (number_some w0 X g a c 1073741824 zs hd (by omega) x rs hn).mono ?_
  rintro _ V ⟨rfl, a', c', hd', hb⟩
  exact ⟨rfl, h.call hb hd'⟩
theorem Rk.numN {w0 w X : World} {g : Nat} {r : Rec} {zs : List Int} (h : Rk w0 w X g r zs) (hn : numO 1073741824 zs = none) : Calls Tryd.prog 62 #[.pointer (some ⟨g, 0, none⟩), .int .i64 1073741824] X fun e V => e = .panicked faultC ∧ But1 g w V := by
  obtain ⟨a, c, hd⟩ := h.rd
  refine (number_none w0 X g a c 1073741824 zs hd (by omega) hn).mono ?_
  rintro _ V ⟨rfl, rfl⟩
  exact ⟨rfl, h.but⟩
theorem Rk.digS {w0 w X : World} {g : Nat} {r : Rec} {zs : List Int} (h : Rk w0 w X g r zs) (hn : 32 ≤ zs.length) : Calls Tryd.prog 63 #[.pointer (some ⟨g, 0, none⟩)] X fun e V => e = .returned (.agg (u8A (zs.take 32))) ∧ Rk w0 w V g r (zs.drop 32) := by
  obtain ⟨a, c, hd⟩ := h.rd
  refine (digest_some w0 X g a c zs hd hn).mono ?_
  rintro _ V ⟨rfl, a', c', hd', hb⟩
  exact ⟨rfl, h.call hb hd'⟩
theorem Rk.digN {w0 w X : World} {g : Nat} {r : Rec} {zs : List Int} (h : Rk w0 w X g r zs) (hn : ¬ 32 ≤ zs.length) : Calls Tryd.prog 63 #[.pointer (some ⟨g, 0, none⟩)] X fun e V => e = .panicked faultC ∧ But1 g w V := by
  obtain ⟨a, c, hd⟩ := h.rd
  refine (digest_none w0 X g a c zs hd hn).mono ?_
  rintro _ V ⟨rfl, hb⟩
  exact ⟨rfl, h.but.trans hb⟩
theorem Rk.pthS {w0 w X : World} {g : Nat} {r : Rec} {zs p rs : List Int} (h : Rk w0 w X g r zs) (hn : pthO zs = some (p, rs)) : Calls Tryd.prog 64 #[.pointer (some ⟨g, 0, none⟩)] X fun e V => e = .returned (.string (strOfNums p)) ∧ Rk w0 w V g r rs := by
  obtain ⟨a, c, hd⟩ := h.rd
  refine (rpath_word w0 X g a c zs hd).mono ?_
  intro e V q
  rw [hn] at q
  obtain ⟨rfl, a', c', hd', hb⟩ := q
  exact ⟨rfl, h.call hb hd'⟩
theorem Rk.pthN {w0 w X : World} {g : Nat} {r : Rec} {zs : List Int} (h : Rk w0 w X g r zs) (hn : pthO zs = none) : Calls Tryd.prog 64 #[.pointer (some ⟨g, 0, none⟩)] X fun e V => e = .panicked faultC ∧ But1 g w V := by
  obtain ⟨a, c, hd⟩ := h.rd
  refine (rpath_word w0 X g a c zs hd).mono ?_
  intro e V q
  rw [hn] at q
  exact ⟨q.1, h.but.trans q.2⟩
theorem Rk.pcsS {w0 w X : World} {g : Nat} {r : Rec} {zs rs : List Int} {l : List Pc} (h : Rk w0 w X g r zs) (hn : pcsR zs = some (l, rs)) : Calls Tryd.prog 65 #[.pointer (some ⟨g, 0, none⟩)] X fun e V => ∃ a c, e = .returned (.slice a l.length c) ∧ Rp V a c l ∧ Rk w0 w V g r rs ∧ (∀ b off, a = some ⟨b, off, none⟩ → X.heap.size ≤ b) := by
  obtain ⟨a, c, hd⟩ := h.rd
  refine (rpieces_word w0 X g a c zs hd).mono ?_
  intro e V q
  rw [hn] at q
  obtain ⟨a1, c1, rfl, hp, a', c', hd', hb, hf⟩ := q
  exact ⟨a1, c1, rfl, hp, h.call hb hd', hf⟩
theorem Rk.pcsN {w0 w X : World} {g : Nat} {r : Rec} {zs : List Int} (h : Rk w0 w X g r zs) (hn : pcsR zs = none) : Calls Tryd.prog 65 #[.pointer (some ⟨g, 0, none⟩)] X fun e V => e = .panicked faultC ∧ But1 g w V := by
  obtain ⟨a, c, hd⟩ := h.rd
  refine (rpieces_word w0 X g a c zs hd).mono ?_
  intro e V q
  rw [hn] at q
  exact ⟨q.1, h.but.trans q.2⟩
set_option maxHeartbeats 16000000 in
set_option maxRecDepth 100000 in
theorem record_word (w0 w : World) (g : Nat) (a : Option Addr) (cap : Nat) (zs : List Int) (h : Rd w0 w g a cap zs) :
    Calls Tryd.prog 43 #[.pointer (some ⟨g, 0, none⟩)] w (RecPost w0 w g (redR zs)) := by
  have K0 := hid (Rk.start h)
  have HWL := hid h.bel.size
  have HNP : Hid (∀ V : World, Rp V none 0 []) := fun V => ⟨Nat.le_refl _, Nat.zero_le _, fun _ => rfl, fun h => absurd h (by simp), fun x hx => by cases hx⟩
  obtain ⟨PP, hPP⟩ : ∃ P, P = redR zs := ⟨_, rfl⟩
  have HPP := hid hPP
  rw [← hPP]
  have HS1 : Hid (w.heap.size + 1 = (w.alloc (.cells recZ.cs.toArray 27)).heap.size) := by show _ = _; simp
  obtain ⟨W0, hW0⟩ : ∃ W0, W0 = (w.alloc (.cells recZ.cs.toArray 27)).alloc (.cells recZ.cs.toArray 27) := ⟨_, rfl⟩
  have HW0 := hid hW0
  rw [← hW0] at K0
  clear h hPP hW0
  go_enter Tryd.func43, Tryd.ntmps43
  go_wp2_with (first | refine wpList_alloc_at rfl 27 rfl (some 2) rfl _ Tryd.zero27 w.heap.size rfl ?_ | refine wpList_alloc_to rfl 27 rfl (some 3) rfl _ Tryd.zero27 (w.heap.size + 1) HS1.out W0 HW0.out ?_ | fail)
  clear HW0 HS1
  cases zs with
  | nil =>
    refine (K0.out.byteN).mono ?_
    rintro _ V ⟨rfl, hb⟩
    refine ⟨rfl, ?_⟩
    rw [show PP = none from HPP.out.trans rfl]
    exact ⟨rfl, hb⟩
  | cons m z0 =>
    refine (K0.out.byteS).mono ?_
    rintro _ V1 ⟨rfl, hk⟩
    have K1 := hid hk
    clear hk
    by_cases hm : m = 82
    · subst hm
      have HEQ : Hid (redR (82 :: z0) = red1 z0) := by show _ = _; rw [redR, if_pos rfl]
      rw [HEQ.out] at HPP
      clear HEQ
      go_wp2_with fail
      refine (need_yes _).mono ?_
      rintro _ w1 ⟨rfl, hw⟩
      obtain rfl := hw.symm
      clear hw
      go_wp2_with fail
      cases z0 with
      | nil =>
        refine (K1.out.byteN).mono ?_
        rintro _ V ⟨rfl, hb⟩
        refine ⟨rfl, ?_⟩
        rw [show PP = none from HPP.out.trans rfl]
        exact ⟨rfl, hb⟩
      | cons k z0 =>
        have HKB := hid (K1.out.byte k (by simp))
        have hkb := HKB.out
        have hk0 := hkb.1
        have hk1 := hkb.2
        clear hkb
        refine (K1.out.byteS).mono ?_
        rintro _ V2 ⟨rfl, hk⟩
        have K2 := hid hk
        clear hk
        have c34 := K2.out.box.c34
        have u34 := K2.out.unf 34
        go_wp2_with fail
        have K3 := hid (K2.out.set (K2.out.box.setKind k))
        generalize V2.setCell ⟨w.heap.size + 1, 34, none⟩ (.int .i64 k) = X3 at *
        clear c34 u34 hk0 hk1
        cases hn1 : numO 1073741824 z0 with
        | none =>
          have HN1 := hid hn1
          clear hn1
          refine (K3.out.numN HN1.out).mono ?_
          rintro _ V ⟨rfl, hb⟩
          refine ⟨rfl, ?_⟩
          rw [show PP = none from HPP.out.trans (by show red2 k z0 = none; unfold red2; rw [HN1.out])]
          exact ⟨rfl, hb⟩
        | some q =>
          obtain ⟨sn, z1⟩ := q
          have HN1 := hid hn1
          have HEQ : Hid (red1 (k :: z0) = red3 k (sn : Int) z1) := by show red2 k z0 = _; unfold red2; rw [HN1.out]
          rw [HEQ.out] at HPP
          clear hn1 HEQ
          refine (K3.out.numS HN1.out).mono ?_
          rintro _ V4 ⟨rfl, hk⟩
          have K4 := hid hk
          clear hk
          have c0 := K4.out.box.c0
          have u0 := K4.out.unf 0
          go_wp2_with fail
          have K5 := hid (K4.out.set (K4.out.box.setSeq (sn : Int)))
          generalize V4.setCell ⟨w.heap.size + 1, 0, none⟩ (.int .i64 (sn : Int)) = X5 at *
          clear c0 u0
          cases hn2 : numO 1073741824 z1 with
          | none =>
            have HN2 := hid hn2
            clear hn2
            refine (K5.out.numN HN2.out).mono ?_
            rintro _ V ⟨rfl, hb⟩
            refine ⟨rfl, ?_⟩
            rw [show PP = none from HPP.out.trans (by unfold red3; rw [HN2.out])]
            exact ⟨rfl, hb⟩
          | some q =>
            obtain ⟨en, z2⟩ := q
            have HN2 := hid hn2
            have HEQ : Hid (red3 k (sn : Int) z1 = red4 k (sn : Int) (en : Int) z2) := by show _ = _; unfold red3; rw [HN2.out]
            rw [HEQ.out] at HPP
            clear hn2 HEQ
            refine (K5.out.numS HN2.out).mono ?_
            rintro _ V5 ⟨rfl, hk⟩
            have K51 := hid hk
            clear hk
            have c1 := K51.out.box.c1
            have u1 := K51.out.unf 1
            go_wp2_with fail
            have K6 := hid (K51.out.set (K51.out.box.setEpoch (en : Int)))
            generalize V5.setCell ⟨w.heap.size + 1, 1, none⟩ (.int .i64 (en : Int)) = X6 at *
            clear c1 u1
            by_cases h32 : 32 ≤ z2.length
            · have H32 := hid h32
              have HDL : Hid ((z2.take 32).length = 32) := by show _ = _; simp; omega
              have HEQ : Hid (red4 k (sn : Int) (en : Int) z2 = red5 k (sn : Int) (en : Int) (z2.take 32) (z2.drop 32)) := by show _ = _; unfold red4; exact if_pos h32
              rw [HEQ.out] at HPP
              clear h32 HEQ
              refine (K6.out.digS H32.out).mono ?_
              rintro _ V7 ⟨rfl, hk⟩
              have K7 := hid hk
              clear hk
              generalize z2.take 32 = D at *
              generalize z2.drop 32 = z3 at *
              have HTH : Hid (V7.there (w.heap.size + 1) 2 (u8A D).size) := by show World.there _ _ _ _; rw [u8A_size, HDL.out]; exact K7.out.box.there
              have HDM : Hid ((D.map (Value.int .u8)).length = 32) := by show _ = _; rw [List.length_map, HDL.out]
              have K8 := hid (K7.out.setPrev D HDL.out)
              have c34 : (V7.setCells (w.heap.size + 1) 2 (D.map (Value.int .u8))).cell? ⟨w.heap.size + 1, 34, none⟩ = some (.int .i64 k) := K8.out.box.c34
              obtain ⟨X8, hX8⟩ : ∃ X, X = V7.setCells (w.heap.size + 1) 2 (D.map (Value.int .u8)) := ⟨_, rfl⟩
              have HX8 := hid hX8
              rw [← hX8] at K8 c34
              clear hX8
              have hkz : 0 ≤ k ∧ k ≤ 255 := HKB.out
              have hkz1 := hkz.1
              have hkz2 := hkz.2
              clear hkz
              by_cases hk1 : k = 1
              · subst hk1
                have HEQ : Hid (red5 1 (sn : Int) (en : Int) D z3 = redL 1 (sn : Int) (en : Int) D z3) := by show _ = _; unfold red5; exact if_pos rfl
                rw [HEQ.out] at HPP
                clear HEQ
                go_wp2_with (first | refine wpList_store_midTo rfl 23 _ _ rfl rfl (w.heap.size + 1) 2 (u8A D) rfl rfl HTH.out (size_digB HDL.out) (u8A_one _) X8 HX8.out ?_ | fail)
                cases z3 with
                | nil =>
                  refine (K8.out.byteN).mono ?_
                  rintro _ V ⟨rfl, hb⟩
                  refine ⟨rfl, ?_⟩
                  rw [show PP = none from HPP.out.trans rfl]
                  exact ⟨rfl, hb⟩
                | cons x z4 =>
                  have hx := K8.out.byte x (by simp)
                  have hx0 := hx.1
                  have hx1 := hx.2
                  clear hx
                  refine (K8.out.byteS).mono ?_
                  rintro _ V9 ⟨rfl, hk⟩
                  have K9 := hid hk
                  clear hk
                  have c35 := K9.out.box.c35
                  have u35 := K9.out.unf 35
                  have K10 := hid (K9.out.set (K9.out.box.setSite x))
                  obtain ⟨RR, hRR⟩ : ∃ RR : Rec, RR = { recZ with kind := 1, seq := (sn : Int), epoch := (en : Int), prev := D, site := x } := ⟨_, rfl⟩
                  have HRR := hid hRR
                  have HX9 : Hid ((V9.setCell ⟨w.heap.size + 1, 35, none⟩ (.int .i64 x)).rangeAt (w.heap.size + 1) 0 RR.cs) := by rw [hRR]; exact K10.out.box.range
                  have HO9 := hid K10.out.out
                  have HL9 : Hid (RR.prev.length = 32) := by rw [hRR]; exact K10.out.box.len
                  clear hRR
                  go_wp2_with (first | refine wpList_load_g rfl 27 _ rfl (w.heap.size + 1) 0 rfl RR.cs _ HX9.out Tryd.underlying27 rfl (by rw [Rec.cs_len HL9.out]; exact Tryd.size27) ?_ | refine wpList_store_rowTo rfl 27 _ _ rfl rfl w.heap.size RR.cs.toArray rfl rfl 27 _ HO9.out (size_recs HL9.out) (by rw [Rec.cs_size HL9.out]; rfl) (all_oneCell_toArray (Rec.cs_one _)) ?_ | fail)
                  refine bodyPost_ret (results_cell_row (ty := 27) rfl _ _ _ _ _ _ _ rfl (setRow_heap _ _ _ _ _ _ HO9.out) Tryd.underlying27 rfl (size_recs HL9.out)) rfl ?_
                  obtain ⟨a9, c9, hd9⟩ := K10.out.rd
                  rw [show PP = _ from HPP.out.trans rfl]
                  exact ⟨none, 0, by rw [HRR.out]; rfl, HNP.out _, _, _, hd9.rowset HWL.out (by have := K10.out.glt; omega) _, K10.out.but.row (Nat.le_refl _) _, fun _ _ h => by cases h⟩
              · by_cases hk2 : k = 2
                · subst hk2
                  have HEQ : Hid (red5 2 (sn : Int) (en : Int) D z3 = redP 2 (sn : Int) (en : Int) D z3) := by show _ = _; unfold red5; exact (if_neg (by decide)).trans (if_pos rfl)
                  rw [HEQ.out] at HPP
                  clear HEQ
                  go_wp2_with (first | refine wpList_store_midTo rfl 23 _ _ rfl rfl (w.heap.size + 1) 2 (u8A D) rfl rfl HTH.out (size_digB HDL.out) (u8A_one _) X8 HX8.out ?_ | fail)
                  cases hp : pthO z3 with
                  | none =>
                    have HP := hid hp
                    clear hp
                    refine (K8.out.pthN HP.out).mono ?_
                    rintro _ V ⟨rfl, hb⟩
                    refine ⟨rfl, ?_⟩
                    rw [show PP = none from HPP.out.trans (by unfold redP; rw [HP.out])]
                    exact ⟨rfl, hb⟩
                  | some q =>
                    obtain ⟨p, z4⟩ := q
                    have HP := hid hp
                    clear hp
                    refine (K8.out.pthS HP.out).mono ?_
                    rintro _ V9 ⟨rfl, hk⟩
                    have K9 := hid hk
                    clear hk
                    generalize hPS : strOfNums p = PS at *
                    have HPS := hid hPS
                    clear hPS
                    have c36 := K9.out.box.c36
                    have u36 := K9.out.unf 36
                    go_wp2_with fail
                    have K10 := hid (K9.out.set (K9.out.box.setPath PS))
                    generalize V9.setCell ⟨w.heap.size + 1, 36, none⟩ (.string PS) = X10 at *
                    clear c36 u36
                    cases hl : pcsR z4 with
                    | none =>
                      have HC := hid hl
                      clear hl
                      refine (K10.out.pcsN HC.out).mono ?_
                      rintro _ V ⟨rfl, hb⟩
                      refine ⟨rfl, ?_⟩
                      rw [show PP = none from HPP.out.trans (by unfold redP; rw [HP.out]; dsimp only; rw [HC.out])]
                      exact ⟨rfl, hb⟩
                    | some q =>
                      obtain ⟨l, z5⟩ := q
                      have HC := hid hl
                      clear hl
                      refine (K10.out.pcsS HC.out).mono ?_
                      rintro _ V11 ⟨pa, pc, rfl, hrp, hk, hpf⟩
                      have K11 := hid hk
                      have HRP := hid hrp
                      have HPF := hid hpf
                      have HXG := hid K10.out.ge
                      clear hk hrp hpf
                      generalize hLN : l.length = LN at *
                      have HLN := hid hLN
                      clear hLN
                      have c37 := K11.out.box.c37
                      have u37 := K11.out.unf 37
                      have K12 : Hid (Rk w0 w (V11.setCell ⟨w.heap.size + 1, 37, none⟩ (.slice pa LN pc)) g { recZ with kind := 2, seq := (sn : Int), epoch := (en : Int), prev := D, path := PS, ps := l, a := pa, cap := pc } z5) := K11.out.set (by rw [← HLN.out]; exact K11.out.box.setPcs pa pc l)
                      have HR2 : Hid (Rp (V11.setCell ⟨w.heap.size + 1, 37, none⟩ (.slice pa LN pc)) pa pc l) := HRP.out.kept (fun b off q => Deep.blk_setCell_other _ _ _ _ (by show b ≠ w.heap.size + 1; have := HPF.out b off q; have := HXG.out; omega))
                      obtain ⟨RR, hRR⟩ : ∃ RR : Rec, RR = { recZ with kind := 2, seq := (sn : Int), epoch := (en : Int), prev := D, path := PS, ps := l, a := pa, cap := pc } := ⟨_, rfl⟩
                      have HRR := hid hRR
                      have HX9 : Hid ((V11.setCell ⟨w.heap.size + 1, 37, none⟩ (.slice pa LN pc)).rangeAt (w.heap.size + 1) 0 RR.cs) := by rw [hRR]; exact K12.out.box.range
                      have HO9 := hid K12.out.out
                      have HL9 : Hid (RR.prev.length = 32) := by rw [hRR]; exact K12.out.box.len
                      clear hRR
                      go_wp2_with (first | refine wpList_load_g rfl 27 _ rfl (w.heap.size + 1) 0 rfl RR.cs _ HX9.out Tryd.underlying27 rfl (by rw [Rec.cs_len HL9.out]; exact Tryd.size27) ?_ | refine wpList_store_rowTo rfl 27 _ _ rfl rfl w.heap.size RR.cs.toArray rfl rfl 27 _ HO9.out (size_recs HL9.out) (by rw [Rec.cs_size HL9.out]; rfl) (all_oneCell_toArray (Rec.cs_one _)) ?_ | fail)
                      refine bodyPost_ret (results_cell_row (ty := 27) rfl _ _ _ _ _ _ _ rfl (setRow_heap _ _ _ _ _ _ HO9.out) Tryd.underlying27 rfl (size_recs HL9.out)) rfl ?_
                      obtain ⟨a9, c9, hd9⟩ := K12.out.rd
                      have HQE : PP = some (⟨(sn : Int), (en : Int), D, 2, 0, PS, none, 0, l⟩, z5) := by rw [HPP.out, ← HPS.out]; unfold redP; rw [HP.out]; dsimp only; rw [HC.out]
                      rw [HQE]
                      exact ⟨pa, pc, by rw [HRR.out]; rfl, HR2.out.kept (fun b off q => other_setRow _ _ _ _ (by have := HPF.out b off q; have := HXG.out; omega)), _, _, hd9.rowset HWL.out (by have := K12.out.glt; omega) _, K12.out.but.row (Nat.le_refl _) _, fun b off q => by have := HPF.out b off q; have := HXG.out; omega⟩
                · by_cases hk3 : k = 3
                  · subst hk3
                    have HEQ : Hid (red5 3 (sn : Int) (en : Int) D z3 = redX 3 (sn : Int) (en : Int) D z3) := by show _ = _; unfold red5; exact (if_neg (by decide)).trans ((if_neg (by decide)).trans (if_pos rfl))
                    rw [HEQ.out] at HPP
                    clear HEQ
                    go_wp2_with (first | refine wpList_store_midTo rfl 23 _ _ rfl rfl (w.heap.size + 1) 2 (u8A D) rfl rfl HTH.out (size_digB HDL.out) (u8A_one _) X8 HX8.out ?_ | fail)
                    cases hp : pthO z3 with
                    | none =>
                      have HP := hid hp
                      clear hp
                      refine (K8.out.pthN HP.out).mono ?_
                      rintro _ V ⟨rfl, hb⟩
                      refine ⟨rfl, ?_⟩
                      rw [show PP = none from HPP.out.trans (by unfold redX; rw [HP.out])]
                      exact ⟨rfl, hb⟩
                    | some q =>
                      obtain ⟨p, z4⟩ := q
                      have HP := hid hp
                      clear hp
                      refine (K8.out.pthS HP.out).mono ?_
                      rintro _ V9 ⟨rfl, hk⟩
                      have K9 := hid hk
                      clear hk
                      generalize hPS : strOfNums p = PS at *
                      have HPS := hid hPS
                      clear hPS
                      have c36 := K9.out.box.c36
                      have u36 := K9.out.unf 36
                      have K10 := hid (K9.out.set (K9.out.box.setPath PS))
                      obtain ⟨RR, hRR⟩ : ∃ RR : Rec, RR = { recZ with kind := 3, seq := (sn : Int), epoch := (en : Int), prev := D, path := PS } := ⟨_, rfl⟩
                      have HRR := hid hRR
                      have HX9 : Hid ((V9.setCell ⟨w.heap.size + 1, 36, none⟩ (.string PS)).rangeAt (w.heap.size + 1) 0 RR.cs) := by rw [hRR]; exact K10.out.box.range
                      have HO9 := hid K10.out.out
                      have HL9 : Hid (RR.prev.length = 32) := by rw [hRR]; exact K10.out.box.len
                      clear hRR
                      go_wp2_with (first | refine wpList_load_g rfl 27 _ rfl (w.heap.size + 1) 0 rfl RR.cs _ HX9.out Tryd.underlying27 rfl (by rw [Rec.cs_len HL9.out]; exact Tryd.size27) ?_ | refine wpList_store_rowTo rfl 27 _ _ rfl rfl w.heap.size RR.cs.toArray rfl rfl 27 _ HO9.out (size_recs HL9.out) (by rw [Rec.cs_size HL9.out]; rfl) (all_oneCell_toArray (Rec.cs_one _)) ?_ | fail)
                      refine bodyPost_ret (results_cell_row (ty := 27) rfl _ _ _ _ _ _ _ rfl (setRow_heap _ _ _ _ _ _ HO9.out) Tryd.underlying27 rfl (size_recs HL9.out)) rfl ?_
                      obtain ⟨a9, c9, hd9⟩ := K10.out.rd
                      have HQE : PP = some (⟨(sn : Int), (en : Int), D, 3, 0, PS, none, 0, []⟩, z4) := by rw [HPP.out, ← HPS.out]; unfold redX; rw [HP.out]
                      rw [HQE]
                      exact ⟨none, 0, by rw [HRR.out]; rfl, HNP.out _, _, _, hd9.rowset HWL.out (by have := K10.out.glt; omega) _, K10.out.but.row (Nat.le_refl _) _, fun _ _ h => by cases h⟩
                  · have HEQ : Hid (red5 k (sn : Int) (en : Int) D z3 = some (⟨(sn : Int), (en : Int), D, k, 0, ByteArray.empty, none, 0, []⟩, z3)) := by show _ = _; unfold red5; exact (if_neg hk1).trans ((if_neg hk2).trans (if_neg hk3))
                    have e1 : (k == 1) = false := by rw [beq_eq_false_iff_ne]; exact hk1
                    have e2 : (k == 2) = false := by rw [beq_eq_false_iff_ne]; exact hk2
                    have e3 : (k == 3) = false := by rw [beq_eq_false_iff_ne]; exact hk3
                    obtain ⟨RR, hRR⟩ : ∃ RR : Rec, RR = { recZ with kind := k, seq := (sn : Int), epoch := (en : Int), prev := D } := ⟨_, rfl⟩
                    have HRR := hid hRR
                    have HX9 : Hid (X8.rangeAt (w.heap.size + 1) 0 RR.cs) := by rw [hRR]; exact K8.out.box.range
                    have HO9 := hid K8.out.out
                    have HL9 : Hid (RR.prev.length = 32) := by rw [hRR]; exact K8.out.box.len
                    clear hRR
                    go_wp2_with (first | refine wpList_store_midTo rfl 23 _ _ rfl rfl (w.heap.size + 1) 2 (u8A D) rfl rfl HTH.out (size_digB HDL.out) (u8A_one _) X8 HX8.out ?_ | refine wpList_load_g rfl 27 _ rfl (w.heap.size + 1) 0 rfl RR.cs _ HX9.out Tryd.underlying27 rfl (by rw [Rec.cs_len HL9.out]; exact Tryd.size27) ?_ | refine wpList_store_rowTo rfl 27 _ _ rfl rfl w.heap.size RR.cs.toArray rfl rfl 27 _ HO9.out (size_recs HL9.out) (by rw [Rec.cs_size HL9.out]; rfl) (all_oneCell_toArray (Rec.cs_one _)) ?_ | fail)
                    refine bodyPost_ret (results_cell_row (ty := 27) rfl _ _ _ _ _ _ _ rfl (setRow_heap _ _ _ _ _ _ HO9.out) Tryd.underlying27 rfl (size_recs HL9.out)) rfl ?_
                    obtain ⟨a9, c9, hd9⟩ := K8.out.rd
                    rw [show PP = _ from HPP.out.trans HEQ.out]
                    exact ⟨none, 0, by rw [HRR.out]; rfl, HNP.out _, _, _, hd9.rowset HWL.out (by have := K8.out.glt; omega) _, K8.out.but.row (Nat.le_refl _) _, fun _ _ h => by cases h⟩
            · have H32 := hid h32
              clear h32
              refine (K6.out.digN H32.out).mono ?_
              rintro _ V ⟨rfl, hb⟩
              refine ⟨rfl, ?_⟩
              rw [show PP = none from HPP.out.trans (by unfold red4; rw [if_neg H32.out])]
              exact ⟨rfl, hb⟩
    · have hme : (m == 82) = false := by rw [beq_eq_false_iff_ne]; exact hm
      have HM := hid hm
      clear hm
      go_wp2_with fail
      refine (need_no _).mono ?_
      rintro _ w1 ⟨rfl, hw⟩
      obtain rfl := hw.symm
      clear hw
      refine ⟨rfl, ?_⟩
      rw [show PP = none from HPP.out.trans (by rw [redR, if_neg HM.out])]
      exact ⟨rfl, K1.out.but⟩
end Go.Proofs.YtpbaacplgohniaaDoor
