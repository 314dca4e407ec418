/-
  Frames as arguments; what the tables of package sha hold at the start. The law's own frame, sealed and opened: awake. Reading undoes writing; a sealed frame is opened: the mathematics. A frame that is opened: frame's Open. A frame that is read: parse's Caught, read. A frame that is read: halt's and parse's Caught, read. A frame that is read: the closure of read, parse.Of. A frame that is read: the reader's frame.
-/
import Derived.Test.YtgnjicpmfpgdeaaDoorFrJc
import Derived.Test.YtgnjicpmfpgdeaaDoorFrJb
import Derived.Test.YtgnjicpmfpgdeaaDoorFrE
import Derived.Test.YtgnjicpmfpgdeaaDoorOrdE
import Derived.Defers
import Derived.Recover
import Derived.Laws.Pointers
import Derived.Test.YtgnjicpmfpgdeaaDoorFrD
import Derived.Test.YtgnjicpmfpgdeaaDoorFrM
import Derived.Lib.SlBytesConst
import Derived.Test.YtgnjicpmfpgdeaaDoorFrI
import Derived.Test.YtgnjicpmfpgdeaaDoorTie
import Derived.Test.YtgnjicpmfpgdeaaDoorCards
import Derived.LaidMore
import Derived.Lib.LaidTab
import Derived.Stop.Joined
namespace Go.Proofs.YtgnjicpmfpgdeaaDoor
open Go.ChangeShapes Go.WideShapes Go.ChangeAt Go.RowKit Go.Deep Go.Lib

theorem own_but {w w' : World} {B e size n g : Nat} {v : Value} {xs : List Value} (h : w.ownsRow B e size v n xs) (hb : But1 g w w') (hg : g < B) : w'.ownsRow B e size v n xs := by
  refine ⟨h.1, ?_⟩
  rcases h.2 with h1 | ⟨g', cap, cur, hv, hg', hh, hr⟩
  · exact Or.inl h1
  · exact Or.inr ⟨g', cap, cur, hv, hg', (hb.same _ (Array.getElem?_eq_some_iff.1 hh).1 (by omega)).trans hh, hr⟩
theorem own_ge {w : World} {B e size n m c : Nat} {a : Option Addr} {xs : List Value} (h : w.ownsRow B e size (.slice a m c) n xs) : ∀ b off, a = some ⟨b, off, none⟩ → B ≤ b := by
  intro b off hab
  rcases h.2 with ⟨hv, _⟩ | ⟨g', cap, cur, hv, hg', _⟩
  · injection hv with h1
    rw [h1] at hab
    cases hab
  · injection hv with h1
    rw [h1] at hab
    injection hab with h2
    injection h2 with h3
    omega
theorem grown_but {w w' : World} {g : Nat} (h : w.grownBy w' (some g)) : But1 g w w' := by
  obtain ⟨h1, h2, h3, h4, h5⟩ := h
  exact ⟨⟨h1, h2, h3, h4, fun k hk => absurd hk (Nat.not_lt_zero _)⟩, fun i hi hn => h5 i hi (fun e => hn (by cases e; rfl))⟩
theorem V_nats {zs : List Int} (h : ∀ j, (Lit.int .u8 (zs.getD j 0)).wf = true) : Sh.V (nats zs) = zs.map (Value.int .u8) := by
  unfold nats Sh.V
  rw [List.map_map]
  refine List.map_congr_left fun z hz => ?_
  obtain ⟨j, hj, rfl⟩ := List.getElem_of_mem hz
  have := (wf_u8 (h j)).1
  rw [show zs.getD j 0 = zs[j] from by simp [List.getD, List.getElem?_eq_getElem hj]] at this
  show Value.int .u8 ((zs[j].toNat : Nat) : Int) = _
  rw [Int.toNat_of_nonneg this]
/-- A row appended to nothing. -/
theorem app_first (w : World) {o : Oper} {ac : Act} {K : Act → World → Prop} {Q : Exit → Act → World → Prop} (s x : Operand)
    (ho : o.op = .call { callee := .builtin .append, args := #[s, x], argTypes := #[22, 22] }) (hs : ac.eval s = .slice none 0 0) (a : Option Addr) (cap : Nat) (zs : List Int) (hx : ac.eval x = .slice a zs.length cap) (hr : Ri w .u8 a cap zs) (hl : zs.length ≤ 1000000) (hn : a = none → cap = 0)
    (h : ∀ a' c' w', w'.ownsRow w.heap.size 5 1 (.slice a' zs.length c') zs.length (zs.map (Value.int .u8)) → Below w.heap.size w w' → K (ac.put o.dst (.slice a' zs.length c')) w') : o.wp Tryd.prog ac w K Q := by
  refine Sh.wp_app_any w s x ho w.heap.size (.slice none 0 0) [] hs (World.ownsRow_nil _ _ _ _) a cap (nats zs) (by rw [nats_len]; exact hx) (by rw [nats_len]; exact hr.rdN hn) (by rw [nats_len]; simpa using hl) (Nat.le_refl _) ?_
  intro v' w' ho' hg
  rw [List.nil_append, nats_len, V_nats hr.fits] at ho'
  obtain ⟨a', c', rfl, _⟩ := Ri.own ho' hr.fits
  exact h a' c' w' ho' ((Below.refl _ _).grown hg (Nat.le_refl _) (fun j hj => by cases hj))

def red9 (fr ep me yo n all more : Int) (z : List Int) : Option (Fr × List Int) := match numO 524288 z with
  | none => none
  | some (k, z1) => if k ≤ z1.length then some (⟨fr, ep, me, yo, n, none, 0, z1.take k, all, more⟩, z1.drop k) else none
def red8 (fr ep me yo n all : Int) (z : List Int) : Option (Fr × List Int) := match longO z with
  | none => none
  | some (x, z1) => red9 fr ep me yo n all x z1
def red7 (fr ep me yo n : Int) (z : List Int) : Option (Fr × List Int) := match numO 1073741824 z with
  | none => none
  | some (x, z1) => red8 fr ep me yo n (x : Int) z1
def red6 (fr ep me yo : Int) (z : List Int) : Option (Fr × List Int) := match numO 1073741824 z with
  | none => none
  | some (x, z1) => red7 fr ep me yo (x : Int) z1
def red5 (fr ep me : Int) (z : List Int) : Option (Fr × List Int) := match longO z with
  | none => none
  | some (x, z1) => red6 fr ep me x z1
def red4 (fr ep : Int) (z : List Int) : Option (Fr × List Int) := match longO z with
  | none => none
  | some (x, z1) => red5 fr ep x z1
def red3 (fr : Int) (z : List Int) : Option (Fr × List Int) := match numO 1073741824 z with
  | none => none
  | some (x, z1) => red4 fr (x : Int) z1
def red2 : List Int → Option (Fr × List Int)
  | [] => none
  | k :: z => red3 k z
/-- The frame that bytes begin with, and what is left. -/
def redF : List Int → Option (Fr × List Int)
  | [] => none
  | m :: z => if m = 70 then red2 z else none
theorem redF_yes (z : List Int) : redF (70 :: z) = red2 z := by simp [redF]
theorem redF_no (m : Int) (z : List Int) (h : m ≠ 70) : redF (m :: z) = none := if_neg h
def FrPost (w0 w : World) (g : Nat) (o : Option (Fr × List Int)) (e : Ending) (w' : World) : Prop := match o with
  | none => e = .panicked faultC ∧ But1 g w w'
  | some (f, rs) => ∃ a c, e = .returned (.agg ({ f with a := a, cap := c } : Fr).cs.toArray) ∧ Ri w' .u8 a c f.body ∧ ∃ a' c', Rd w0 w' g a' c' rs ∧ But1 g w w' ∧ ∀ b off, a = some ⟨b, off, none⟩ → w.heap.size ≤ b
/-- Half read: the reader at g, the frame at fb, its answer at rb. -/
structure Rf (w0 w W : World) (g rb fb : Nat) (F : Fr) (zs : List Int) : Prop where
  rd : ∃ a cap, Rd w0 W g a cap zs
  blk : W.heap[fb]? = some (.cells F.cs.toArray 25)
  res : W.heap[rb]? = some (.cells frZ.cs.toArray 25)
  but : But1 g w W
  g1 : g < rb
  rf : rb < fb
  hb : w.heap.size ≤ rb
section
variable {w0 w W V : World} {g rb fb : Nat} {F F' : Fr} {zs rs : List Int}
theorem Rf.call (h : Rf w0 w W g rb fb F zs) (hv : ∃ a' c', Rd w0 V g a' c' rs ∧ But1 g W V) : Rf w0 w V g rb fb F rs := by
  obtain ⟨a', c', hr, hb⟩ := hv
  exact ⟨⟨a', c', hr⟩, (hb.same _ (blk_lt h.blk) (by have := h.g1; have := h.rf; omega)).trans h.blk, (hb.same _ (blk_lt h.res) (by have := h.g1; omega)).trans h.res, h.but.trans hb, h.g1, h.rf, h.hb⟩
theorem Rf.later (h : Rf w0 w W g rb fb F zs) (hb : Below W.heap.size W V) : Rf w0 w V g rb fb F zs := by
  obtain ⟨a, c, hr⟩ := h.rd
  exact h.call ⟨a, c, hr.later hb, .of_below hb⟩
theorem Rf.put (h : Rf w0 w W g rb fb F zs) (i : Nat) (v : Value) (hF : F.cs.toArray.setIfInBounds i v = F'.cs.toArray) : Rf w0 w (W.setCell ⟨fb, i, none⟩ v) g rb fb F' zs := by
  have h1 := h.g1
  have h2 := h.rf
  have h3 := h.hb
  obtain ⟨a, c, hr⟩ := h.rd
  have hge := hr.ge
  refine ⟨⟨a, c, ?_, hr.row, hr.bel.setCell (show w0.heap.size ≤ fb by omega) v, hr.ge⟩, ?_, ?_, ⟨h.but.bel.setCell (Nat.zero_le _) v, fun j hj hn => (Below.heap_setCell W ⟨fb, i, none⟩ v j (show j ≠ fb by omega)).trans (h.but.same j hj hn)⟩, h1, h2, h3⟩
  · exact (Below.heap_setCell W ⟨fb, i, none⟩ v g (show g ≠ fb by omega)).trans hr.blk
  · rw [Joins.block_setCell h.blk, hF]
  · exact (Below.heap_setCell W ⟨fb, i, none⟩ v rb (show rb ≠ fb by omega)).trans h.res
theorem Rf.c0 (h : Rf w0 w W g rb fb F zs) : W.cell? ⟨fb, 0, none⟩ = some (.int .i64 F.fr) := (Joins.cell_of_block h.blk 0).trans rfl
theorem Rf.c1 (h : Rf w0 w W g rb fb F zs) : W.cell? ⟨fb, 1, none⟩ = some (.int .i64 F.ep) := (Joins.cell_of_block h.blk 1).trans rfl
theorem Rf.c2 (h : Rf w0 w W g rb fb F zs) : W.cell? ⟨fb, 2, none⟩ = some (.int .u64 F.me) := (Joins.cell_of_block h.blk 2).trans rfl
theorem Rf.c3 (h : Rf w0 w W g rb fb F zs) : W.cell? ⟨fb, 3, none⟩ = some (.int .u64 F.yo) := (Joins.cell_of_block h.blk 3).trans rfl
theorem Rf.c4 (h : Rf w0 w W g rb fb F zs) : W.cell? ⟨fb, 4, none⟩ = some (.int .i64 F.n) := (Joins.cell_of_block h.blk 4).trans rfl
theorem Rf.c5 (h : Rf w0 w W g rb fb F zs) : W.cell? ⟨fb, 5, none⟩ = some (.slice F.a F.body.length F.cap) := (Joins.cell_of_block h.blk 5).trans rfl
theorem Rf.c6 (h : Rf w0 w W g rb fb F zs) : W.cell? ⟨fb, 6, none⟩ = some (.int .i64 F.all) := (Joins.cell_of_block h.blk 6).trans rfl
theorem Rf.c7 (h : Rf w0 w W g rb fb F zs) : W.cell? ⟨fb, 7, none⟩ = some (.int .u64 F.more) := (Joins.cell_of_block h.blk 7).trans rfl
theorem Rf.unf (h : Rf w0 w W g rb fb F zs) (i : Nat) : W.frozen? ⟨fb, i, none⟩ = false := Joins.unfrozen_of_block h.blk i
theorem Rf.num (h : Rf w0 w W g rb fb F zs) (most : Nat) (hm : most ≤ 1073741824) : Calls Tryd.prog 64 #[.pointer (some ⟨g, 0, none⟩), .int .i64 (most : Int)] W fun e V => match numO most zs with
    | none => e = .panicked faultC ∧ V = W
    | some (x, rs) => e = .returned (.int .i64 (x : Int)) ∧ Rf w0 w V g rb fb F rs := by
  obtain ⟨a, c, hr⟩ := h.rd
  cases hx : numO most zs with
  | none => exact number_none w0 W g a c most zs hr hm hx
  | some p =>
    obtain ⟨x, rs⟩ := p
    exact (number_some w0 W g a c most zs hr hm x rs hx).mono fun _ _ ⟨h1, h2⟩ => ⟨h1, h.call h2⟩
theorem Rf.long (h : Rf w0 w W g rb fb F zs) : Calls Tryd.prog 65 #[.pointer (some ⟨g, 0, none⟩)] W fun e V => match longO zs with
    | none => e = .panicked faultC ∧ V = W
    | some (x, rs) => e = .returned (.int .u64 x) ∧ Rf w0 w V g rb fb F rs := by
  obtain ⟨a, c, hr⟩ := h.rd
  cases hx : longO zs with
  | none => exact rlong_none w0 W g a c zs hr hx
  | some p =>
    obtain ⟨x, rs⟩ := p
    exact (rlong_some w0 W g a c zs hr x rs hx).mono fun _ _ ⟨h1, h2⟩ => ⟨h1, h.call h2⟩
theorem Rf.byte (h : Rf w0 w W g rb fb F zs) : Calls Tryd.prog 63 #[.pointer (some ⟨g, 0, none⟩)] W fun e V => match zs with
    | [] => e = .panicked faultC ∧ V = W
    | x :: rs => e = .returned (.int .u8 x) ∧ Rf w0 w V g rb fb F rs := by
  obtain ⟨a, c, hr⟩ := h.rd
  cases zs with
  | nil => exact byte_none w0 W g a c hr
  | cons x rs => exact (byte_some w0 W g a c x rs hr).mono fun _ _ ⟨h1, h2⟩ => ⟨h1, h.call h2⟩
theorem Rf.u8 {z : Int} (h : Rf w0 w W g rb fb F (z :: zs)) : 0 ≤ z ∧ z ≤ 255 := by
  obtain ⟨a, c, hr⟩ := h.rd
  exact wf_u8 (hr.row.fits 0)
end

set_option maxHeartbeats 16000000 in
set_option maxRecDepth 100000 in
theorem rframe_word (w0 w : World) (g : Nat) (a : Option Addr) (cap : Nat) (zs : List Int) (h : Rd w0 w g a cap zs) :
    Calls Tryd.prog 46 #[.pointer (some ⟨g, 0, none⟩)] w (FrPost w0 w g (redF zs)) := by
  have HR0 := hid h
  have HGL := hid h.lt
  obtain ⟨PP, hPP⟩ : ∃ P : Ending → World → Prop, P = FrPost w0 w g (redF zs) := ⟨_, rfl⟩
  have HPP := hid hPP
  rw [← hPP]
  clear h hPP
  go_enter Tryd.func46, Tryd.ntmps46
  go_wp2_with (first | refine wpList_alloc_W rfl 25 rfl (some 2) rfl _ Tryd.zero25 w.heap.size rfl ?_ | fail)
  intro W1 HG1 HB1 HS1
  go_wp2_with (first | refine wpList_alloc_W rfl 25 rfl (some 3) rfl _ Tryd.zero25 (w.heap.size + 1) HS1.out.symm ?_ | fail)
  intro W2 HG2 HB2 HS2
  have HBx : Hid (Below W1.heap.size W1 W2) := by show Below _ _ _; rw [HS1.out]; exact HB2.out
  have K2 : Hid (Rf w0 w W2 g w.heap.size (w.heap.size + 1) frZ zs) := ⟨⟨a, cap, HR0.out.later (Bn HB1.out HBx.out)⟩, HG2.out, blk_later HG1.out HBx.out, .of_below (Bn HB1.out HBx.out), HGL.out, Nat.lt_succ_self _, Nat.le_refl _⟩
  clear HG1 HB1 HS1 HG2 HB2 HS2 HBx HR0 HGL
  go_wp2_with fail
  refine K2.out.byte.mono ?_
  cases zs with
  | nil =>
    rintro _ V3 ⟨rfl, hw⟩
    obtain rfl := hw.symm
    refine ⟨rfl, ?_⟩
    rw [HPP.out]
    exact ⟨rfl, K2.out.but⟩
  | cons m z1 =>
    rintro _ V3 ⟨rfl, hk⟩
    have K3 := hid hk
    clear hk K2
    by_cases hm : m = 70
    · subst hm
      have HD0 : Hid (PP = FrPost w0 w g (red2 z1)) := HPP.out.trans (by rw [redF_yes])
      clear HPP
      go_wp2_with fail
      refine (need_yes V3).mono ?_
      rintro _ Vx ⟨rfl, hw⟩
      obtain rfl := hw.symm
      clear hw
    
      go_wp2_with fail
      refine K3.out.byte.mono ?_
      cases z1 with
      | nil =>
        rintro _ V4 ⟨rfl, hw⟩
        obtain rfl := hw.symm
        refine ⟨rfl, ?_⟩
        rw [HD0.out]
        exact ⟨rfl, K3.out.but⟩
      | cons fr z2 =>
        have HU := hid K3.out.u8
        rintro _ V4 ⟨rfl, hk⟩
        have K4 := hid hk
        have c0 := K4.out.c0
        have u0 := K4.out.unf 0
        have hu0 := HU.out.1
        have hu1 := HU.out.2
        have HD1 : Hid (PP = FrPost w0 w g (red3 fr z2)) := HD0.out
        have K4b : Hid (Rf w0 w (V4.setCell ⟨w.heap.size + 1, 0, none⟩ (.int .i64 fr)) g w.heap.size (w.heap.size + 1) ⟨fr, 0, 0, 0, 0, none, 0, [], 0, 0⟩ z2) := K4.out.put 0 _ (by simp [Fr.cs, frZ])
        clear hk K3 HD0
        go_wp2_with fail
        generalize V4.setCell ⟨w.heap.size + 1, 0, none⟩ (.int .i64 fr) = X1_ at *
        clear c0 u0 K4
        have HC := hid (K4b.out.num 1073741824 (by omega))
        go_wp2_with fail
        refine HC.out.mono ?_
        clear HC
        cases hx : (numO 1073741824 z2) with
        | none =>
          rintro _ V1_ ⟨rfl, hw⟩
          obtain rfl := hw.symm
          refine ⟨rfl, ?_⟩
          rw [HD1.out]
          unfold red3
          rw [hx]
          exact ⟨rfl, K4b.out.but⟩
        | some p =>
          obtain ⟨ep, z2n⟩ := p
          rintro _ V1_ ⟨rfl, hk⟩
          have K1a := hid hk
          have HDx : Hid (PP = FrPost w0 w g (red4 fr (ep : Int) z2n)) := HD1.out.trans (by unfold red3; rw [hx])
          have cc := K1a.out.c1
          have uu := K1a.out.unf 1
          have K1b : Hid (Rf w0 w (V1_.setCell ⟨w.heap.size + 1, 1, none⟩ (.int .i64 (ep : Int))) g w.heap.size (w.heap.size + 1) ⟨fr, (ep : Int), 0, 0, 0, none, 0, [], 0, 0⟩ z2n) := K1a.out.put 1 _ (by simp [Fr.cs])
          clear hk hx HD1 K4b
          go_wp2_with fail
          have H1D := HDx
          clear HDx
          generalize V1_.setCell ⟨w.heap.size + 1, 1, none⟩ (.int .i64 (ep : Int)) = X2_ at *
          clear cc uu K1a
          have HC := hid (K1b.out.long)
          go_wp2_with fail
          refine HC.out.mono ?_
          clear HC
          cases hx : (longO z2n) with
          | none =>
            rintro _ V2_ ⟨rfl, hw⟩
            obtain rfl := hw.symm
            refine ⟨rfl, ?_⟩
            rw [H1D.out]
            unfold red4
            rw [hx]
            exact ⟨rfl, K1b.out.but⟩
          | some p =>
            obtain ⟨me, z2nn⟩ := p
            rintro _ V2_ ⟨rfl, hk⟩
            have K2a := hid hk
            have HDx : Hid (PP = FrPost w0 w g (red5 fr (ep : Int) me z2nn)) := H1D.out.trans (by unfold red4; rw [hx])
            have cc := K2a.out.c2
            have uu := K2a.out.unf 2
            have K2b : Hid (Rf w0 w (V2_.setCell ⟨w.heap.size + 1, 2, none⟩ (.int .u64 me)) g w.heap.size (w.heap.size + 1) ⟨fr, (ep : Int), me, 0, 0, none, 0, [], 0, 0⟩ z2nn) := K2a.out.put 2 _ (by simp [Fr.cs])
            clear hk hx H1D K1b
            go_wp2_with fail
            have H2D := HDx
            clear HDx
            generalize V2_.setCell ⟨w.heap.size + 1, 2, none⟩ (.int .u64 me) = X3_ at *
            clear cc uu K2a
            have HC := hid (K2b.out.long)
            go_wp2_with fail
            refine HC.out.mono ?_
            clear HC
            cases hx : (longO z2nn) with
            | none =>
              rintro _ V3_ ⟨rfl, hw⟩
              obtain rfl := hw.symm
              refine ⟨rfl, ?_⟩
              rw [H2D.out]
              unfold red5
              rw [hx]
              exact ⟨rfl, K2b.out.but⟩
            | some p =>
              obtain ⟨yo, z2nnn⟩ := p
              rintro _ V3_ ⟨rfl, hk⟩
              have K3a := hid hk
              have HDx : Hid (PP = FrPost w0 w g (red6 fr (ep : Int) me yo z2nnn)) := H2D.out.trans (by unfold red5; rw [hx])
              have cc := K3a.out.c3
              have uu := K3a.out.unf 3
              have K3b : Hid (Rf w0 w (V3_.setCell ⟨w.heap.size + 1, 3, none⟩ (.int .u64 yo)) g w.heap.size (w.heap.size + 1) ⟨fr, (ep : Int), me, yo, 0, none, 0, [], 0, 0⟩ z2nnn) := K3a.out.put 3 _ (by simp [Fr.cs])
              clear hk hx H2D K2b
              go_wp2_with fail
              have H3D := HDx
              clear HDx
              generalize V3_.setCell ⟨w.heap.size + 1, 3, none⟩ (.int .u64 yo) = X4_ at *
              clear cc uu K3a
              have HC := hid (K3b.out.num 1073741824 (by omega))
              go_wp2_with fail
              refine HC.out.mono ?_
              clear HC
              cases hx : (numO 1073741824 z2nnn) with
              | none =>
                rintro _ V4_ ⟨rfl, hw⟩
                obtain rfl := hw.symm
                refine ⟨rfl, ?_⟩
                rw [H3D.out]
                unfold red6
                rw [hx]
                exact ⟨rfl, K3b.out.but⟩
              | some p =>
                obtain ⟨n, z2nnnn⟩ := p
                rintro _ V4_ ⟨rfl, hk⟩
                have K4a := hid hk
                have HDx : Hid (PP = FrPost w0 w g (red7 fr (ep : Int) me yo (n : Int) z2nnnn)) := H3D.out.trans (by unfold red6; rw [hx])
                have cc := K4a.out.c4
                have uu := K4a.out.unf 4
                have K4b : Hid (Rf w0 w (V4_.setCell ⟨w.heap.size + 1, 4, none⟩ (.int .i64 (n : Int))) g w.heap.size (w.heap.size + 1) ⟨fr, (ep : Int), me, yo, (n : Int), none, 0, [], 0, 0⟩ z2nnnn) := K4a.out.put 4 _ (by simp [Fr.cs])
                clear hk hx H3D K3b
                go_wp2_with fail
                have H4D := HDx
                clear HDx
                generalize V4_.setCell ⟨w.heap.size + 1, 4, none⟩ (.int .i64 (n : Int)) = X6_ at *
                clear cc uu K4a
                have HC := hid (K4b.out.num 1073741824 (by omega))
                go_wp2_with fail
                refine HC.out.mono ?_
                clear HC
                cases hx : (numO 1073741824 z2nnnn) with
                | none =>
                  rintro _ V6_ ⟨rfl, hw⟩
                  obtain rfl := hw.symm
                  refine ⟨rfl, ?_⟩
                  rw [H4D.out]
                  unfold red7
                  rw [hx]
                  exact ⟨rfl, K4b.out.but⟩
                | some p =>
                  obtain ⟨all, z2nnnnn⟩ := p
                  rintro _ V6_ ⟨rfl, hk⟩
                  have K6a := hid hk
                  have HDx : Hid (PP = FrPost w0 w g (red8 fr (ep : Int) me yo (n : Int) (all : Int) z2nnnnn)) := H4D.out.trans (by unfold red7; rw [hx])
                  have cc := K6a.out.c6
                  have uu := K6a.out.unf 6
                  have K6b : Hid (Rf w0 w (V6_.setCell ⟨w.heap.size + 1, 6, none⟩ (.int .i64 (all : Int))) g w.heap.size (w.heap.size + 1) ⟨fr, (ep : Int), me, yo, (n : Int), none, 0, [], (all : Int), 0⟩ z2nnnnn) := K6a.out.put 6 _ (by simp [Fr.cs])
                  clear hk hx H4D K4b
                  go_wp2_with fail
                  have H6D := HDx
                  clear HDx
                  generalize V6_.setCell ⟨w.heap.size + 1, 6, none⟩ (.int .i64 (all : Int)) = X7_ at *
                  clear cc uu K6a
                  have HC := hid (K6b.out.long)
                  go_wp2_with fail
                  refine HC.out.mono ?_
                  clear HC
                  cases hx : (longO z2nnnnn) with
                  | none =>
                    rintro _ V7_ ⟨rfl, hw⟩
                    obtain rfl := hw.symm
                    refine ⟨rfl, ?_⟩
                    rw [H6D.out]
                    unfold red8
                    rw [hx]
                    exact ⟨rfl, K6b.out.but⟩
                  | some p =>
                    obtain ⟨more, z2nnnnnn⟩ := p
                    rintro _ V7_ ⟨rfl, hk⟩
                    have K7a := hid hk
                    have HDx : Hid (PP = FrPost w0 w g (red9 fr (ep : Int) me yo (n : Int) (all : Int) more z2nnnnnn)) := H6D.out.trans (by unfold red8; rw [hx])
                    have cc := K7a.out.c7
                    have uu := K7a.out.unf 7
                    have K7b : Hid (Rf w0 w (V7_.setCell ⟨w.heap.size + 1, 7, none⟩ (.int .u64 more)) g w.heap.size (w.heap.size + 1) ⟨fr, (ep : Int), me, yo, (n : Int), none, 0, [], (all : Int), more⟩ z2nnnnnn) := K7a.out.put 7 _ (by simp [Fr.cs])
                    clear hk hx H6D K6b
                    go_wp2_with fail
                    have H7D := HDx
                    clear HDx
                    generalize V7_.setCell ⟨w.heap.size + 1, 7, none⟩ (.int .u64 more) = X8 at *
                    clear cc uu K7a
                    have HC := hid (K7b.out.num 524288 (by omega))
                    go_wp2_with fail
                    refine HC.out.mono ?_
                    clear HC
                    cases hx : numO 524288 z2nnnnnn with
                    | none =>
                      rintro _ V9 ⟨rfl, hw⟩
                      obtain rfl := hw.symm
                      refine ⟨rfl, ?_⟩
                      rw [H7D.out]
                      unfold red9
                      rw [hx]
                      exact ⟨rfl, K7b.out.but⟩
                    | some p =>
                      obtain ⟨k, zz⟩ := p
                      rintro _ V9 ⟨rfl, hk⟩
                      have K9 := hid hk
                      have HKM := hid (numO_len hx).1
                      have HDx : Hid (PP = FrPost w0 w g (if k ≤ zz.length then some (⟨fr, (ep : Int), me, yo, (n : Int), none, 0, zz.take k, (all : Int), more⟩, zz.drop k) else none)) := H7D.out.trans (by unfold red9; rw [hx])
                      clear hk hx H7D K7b
                      go_wp2_with fail
                      have K9d : Hid (Rf w0 w V9.drew g w.heap.size (w.heap.size + 1) ⟨fr, (ep : Int), me, yo, (n : Int), none, 0, [], (all : Int), more⟩ zz) := K9.out.later (bel_drewS (Below.refl _ _))
                      have hc5 : V9.drew.cell? ⟨w.heap.size + 1, 5, none⟩ = some (.slice none 0 0) := K9d.out.c5
                      refine OrdE.region (fun V => V.cell? ⟨w.heap.size + 1, 5, none⟩ = some (.slice none 0 0)) 9 (by kernel_rfl) hc5 (fun hS0 => ?_)
                      clear hc5 K9
                      generalize V9.drew = v0 at *
                      simp only [List.size_toArray, List.length_cons, List.length_nil, Nat.reduceAdd]
                      refine OrdE.take (i := 0) (d := 45) (v := .pointer (some ⟨w.heap.size + 1, 5, none⟩)) rfl rfl rfl (by as_aux_lemma => kernel_rfl) (by as_aux_lemma => kernel_rfl) (by as_aux_lemma => kernel_rfl) (by as_aux_lemma => kernel_rfl) (fun _ _ _ h => h) (by rfl) ?hL0 (by assumption) ?_
                      case hL0 => intro V hSw; go_simp; try with_reducible rfl
                      try simp only [List.setIfInBounds_toArray, List.set_cons_zero, List.set_cons_succ]
                      refine OrdE.take (i := 1) (d := 46) (v := .slice none 0 0) rfl rfl rfl (by as_aux_lemma => kernel_rfl) (by as_aux_lemma => kernel_rfl) (by as_aux_lemma => kernel_rfl) (by as_aux_lemma => kernel_rfl) (fun _ _ _ h => h) (by rfl) ?hL1 (by assumption) ?_
                      case hL1 => intro V hSw; go_simp; try with_reducible rfl
                      try simp only [List.setIfInBounds_toArray, List.set_cons_zero, List.set_cons_succ]
                      refine OrdE.take (i := 2) (d := 47) (v := .pointer (some ⟨g, 0, none⟩)) rfl rfl rfl (by as_aux_lemma => kernel_rfl) (by as_aux_lemma => kernel_rfl) (by as_aux_lemma => kernel_rfl) (by as_aux_lemma => kernel_rfl) (fun _ _ _ h => h) (by rfl) ?hL2 (by assumption) ?_
                      case hL2 => intro V hSw; go_simp; try with_reducible rfl
                      try simp only [List.setIfInBounds_toArray, List.set_cons_zero, List.set_cons_succ]
                      refine OrdE.take (i := 3) (d := 48) (v := .pointer (some ⟨g, 0, none⟩)) rfl rfl rfl (by as_aux_lemma => kernel_rfl) (by as_aux_lemma => kernel_rfl) (by as_aux_lemma => kernel_rfl) (by as_aux_lemma => kernel_rfl) (fun _ _ _ h => h) (by rfl) ?hL3 (by assumption) ?_
                      case hL3 => intro V hSw; go_simp; try with_reducible rfl
                      try simp only [List.setIfInBounds_toArray, List.set_cons_zero, List.set_cons_succ]
                      refine OrdE.take (i := 4) (d := 49) (v := .pointer (some ⟨g, 0, none⟩)) rfl rfl rfl (by as_aux_lemma => kernel_rfl) (by as_aux_lemma => kernel_rfl) (by as_aux_lemma => kernel_rfl) (by as_aux_lemma => kernel_rfl) (fun _ _ _ h => h) (by rfl) ?hL4 (by assumption) ?_
                      case hL4 => intro V hSw; go_simp; try with_reducible rfl
                      try simp only [List.setIfInBounds_toArray, List.set_cons_zero, List.set_cons_succ]
                      refine OrdE.take (i := 5) (d := 50) (v := .int .i64 (k : Int)) rfl rfl rfl (by as_aux_lemma => kernel_rfl) (by as_aux_lemma => kernel_rfl) (by as_aux_lemma => kernel_rfl) (by as_aux_lemma => kernel_rfl) (fun _ _ _ h => h) (by rfl) ?hL5 (by assumption) ?_
                      case hL5 => intro V hSw; go_simp; try with_reducible rfl
                      try simp only [List.setIfInBounds_toArray, List.set_cons_zero, List.set_cons_succ]
                      have HRD := hid K9d.out.rd
                      obtain ⟨ra, rc, hrd⟩ := HRD.out
                      have HRR := hid hrd
                      clear hrd HRD
                      refine OrdE.one (i := 6) (by as_aux_lemma => kernel_rfl) rfl (fun K hK => ?_)
                      go_simp
                      by_cases hkl : k ≤ zz.length
                      · refine (take_some w0 v0 g ra rc zz k HRR.out hkl).mono ?_
                        rintro _ V10 ⟨a1, rfl, hr1, hcall⟩
                        have hbl : Below w0.heap.size w0 V10 := by obtain ⟨_, _, hrx, _⟩ := hcall; exact hrx.bel
                        have HR1 := hid (hr1.later hbl)
                        have K10 := hid (K9d.out.call hcall)
                        have HTL : Hid ((zz.take k).length = k) := by show _ = _; rw [List.length_take]; omega
                        have HNN : Hid (a1 = none → k = 0) := fun e => by
                          rcases Nat.eq_zero_or_pos k with h | h
                          · exact h
                          · obtain ⟨b, off, ha, _⟩ := hr1.cells (by rw [HTL.out]; exact h)
                            rw [e] at ha; cases ha
                        have HDy := hid (HDx.out.trans (by rw [if_pos hkl]))
                        have HS10 : Hid (V10.cell? ⟨w.heap.size + 1, 5, none⟩ = some (.slice none 0 0)) := K10.out.c5
                        clear hr1 hcall hbl HDx K9d HRR hS0
                        generalize hT : zz.take k = T at *
                        refine hK.out _ _ (fun _ => HS10.out) ?_
                        clear hK K hkl hT
                        try refine OrdE.put (d := 51) rfl ?_
                        try simp only [List.setIfInBounds_toArray, List.set_cons_zero, List.set_cons_succ]
                        refine OrdE.one (i := 7) (by as_aux_lemma => kernel_rfl) rfl (fun K hK => ?_)
                        rw [if_pos (by rfl)]
                        refine app_first V10 (.tmp 46) (.tmp 51) rfl rfl a1 k T rfl HR1.out (by have h1 := HTL.out; have h2 := HKM.out; omega) HNN.out ?_
                        intro a' c' V11 ho hb
                        have HO := hid ho
                        have HLT : Hid (w.heap.size + 1 < V10.heap.size) := blk_lt K10.out.blk
                        have HGE : Hid (w.heap.size ≤ V10.heap.size) := K10.out.but.bel.size
                        have K11 := hid (K10.out.later hb)
                        have HS11 : Hid (V11.cell? ⟨w.heap.size + 1, 5, none⟩ = some (.slice none 0 0)) := K11.out.c5
                        clear ho hb
                        refine hK.out _ _ (fun _ => HS11.out) ?_
                        clear hK K
                        try refine OrdE.put (d := 52) rfl ?_
                        try simp only [List.setIfInBounds_toArray, List.set_cons_zero, List.set_cons_succ]
                        refine OrdE.one (i := 8) (by as_aux_lemma => kernel_rfl) rfl (fun K hK => ?_)
                        go_simp
                        refine hK.out _ _ (fun _ => HS11.out) ?_
                        clear hK K
                        try refine OrdE.put (d := 53) rfl ?_
                        try simp only [List.setIfInBounds_toArray, List.set_cons_zero, List.set_cons_succ]
                        have c5 := HS11.out
                        have u5 := K11.out.unf 5
                        refine OrdE.one (i := 9) (by as_aux_lemma => kernel_rfl) rfl (fun K hK => ?_)
                        go_simp
                        refine hK.out _ _ (fun h => absurd rfl h) ?_
                        clear hK K
                        try simp only [List.setIfInBounds_toArray, List.set_cons_zero, List.set_cons_succ]
                        refine OrdE.done (by as_aux_lemma => kernel_rfl) ?_ _
                        have K12 : Hid (Rf w0 w (V11.setCell ⟨w.heap.size + 1, 5, none⟩ (.slice a' T.length c')) g w.heap.size (w.heap.size + 1) ⟨fr, (ep : Int), me, yo, (n : Int), a', c', T, (all : Int), more⟩ (zz.drop k)) := K11.out.put 5 _ (by simp [Fr.cs])
                        have HO12 := hid (own_but HO.out ((But1.refl (w.heap.size + 1) V11).set (i := 5) (.slice a' T.length c')) HLT.out)
                        generalize V11.setCell ⟨w.heap.size + 1, 5, none⟩ (.slice a' T.length c') = X12 at *
                        clear c5 u5 K11 HS11 HO K10 HS10
                        have HBR := hid (blk_range K12.out.blk)
                        have HRS := hid K12.out.res
                        go_wp2_with (first | refine wpList_load_g rfl 25 _ rfl (w.heap.size + 1) 0 rfl _ _ HBR.out Tryd.underlying25 rfl Tryd.size25 ?_ | refine wpList_store_W rfl 25 _ _ rfl rfl w.heap.size (⟨fr, (ep : Int), me, yo, (n : Int), a', c', T, (all : Int), more⟩ : Fr).cs.toArray rfl rfl 25 _ HRS.out Tryd.size25 rfl (all_oneCell_toArray (Fr.one _)) ?_ | fail)
                        intro X13 HG13 HGR HSZ
                        go_wp2
                        refine bodyPost_ret (results_cell_row (ty := 25) rfl _ _ _ _ _ _ _ rfl HG13.out Tryd.underlying25 rfl Tryd.size25) rfl ?_
                        rw [HDy.out]
                        have hgl := K12.out.g1
                        have hlt := HLT.out
                        have hgb := grown_but HGR.out
                        obtain ⟨a8, c8, h8⟩ := K12.out.rd
                        have hg2 := h8.ge
                        obtain ⟨_, _, hv, hri⟩ := Ri.own (own_but HO12.out hgb (by omega)) HR1.out.fits
                        injection hv with e1 e2 e3
                        subst e1 e3
                        have hs2 := h8.bel.size
                        have hge := own_ge HO12.out
                        have hwv := HGE.out
                        exact ⟨_, _, rfl, hri, a8, c8, ⟨(hgb.same g h8.lt (by omega)).trans h8.blk, h8.row, h8.bel.trans (bel_grown HGR.out (by omega) hs2), hg2⟩, ⟨K12.out.but.bel.trans hgb.bel, fun j hj hn => (hgb.same j (Nat.lt_of_lt_of_le hj K12.out.but.bel.size) (by omega)).trans (K12.out.but.same j hj hn)⟩, fun b off q => Nat.le_trans hwv (hge b off q)⟩
                      · have HDy := hid (HDx.out.trans (by rw [if_neg hkl]))
                        refine (take_none w0 v0 g ra rc zz k HRR.out hkl).mono ?_
                        rintro _ V10 ⟨rfl, hw⟩
                        obtain rfl := hw.symm
                        rw [HDy.out]
                        exact ⟨rfl, rfl, K9d.out.but⟩
    · have HD0 : Hid (PP = FrPost w0 w g none) := HPP.out.trans (by rw [redF_no m z1 hm])
      have hm2 : (m == 70) = false := by simpa using hm
      go_wp2_with fail
      refine (need_no V3).mono ?_
      rintro _ Vx ⟨rfl, hw⟩
      obtain rfl := hw.symm
      refine ⟨rfl, ?_⟩
      rw [HD0.out]
      exact ⟨rfl, K3.out.but⟩
end Go.Proofs.YtgnjicpmfpgdeaaDoor
namespace Go.Proofs.YtgnjicpmfpgdeaaDoor
open Go.ChangeShapes Go.WideShapes Go.ChangeAt Go.RowKit Go.Deep Go.Lib

theorem Ri.kept {w w' : World} {k : IntKind} {a : Option Addr} {cap : Nat} {l : List Int} (h : Ri w k a cap l) (hk : ∀ b off, a = some ⟨b, off, none⟩ → w'.heap[b]? = w.heap[b]?) : Ri w' k a cap l := by
  refine ⟨h.room, h.most, fun h0 => ?_, h.fits⟩
  obtain ⟨b, off, ha, hb, hc⟩ := h.cells h0
  have e := hk b off ha
  refine ⟨b, off, ha, ?_, fun j hj => (World.cell?_of_block (w := w) (a := ⟨b, off + j, none⟩) e).trans (hc j hj)⟩
  have : w.heap[b]? ≠ none := by simp; omega
  rw [← e] at this
  simpa using this
theorem wf_mk_u64 {x : Int} (h1 : 0 ≤ x) (h2 : x ≤ 18446744073709551615) : (Lit.int .u64 x).wf = true := by
  have e1 : IntKind.u64.min = 0 := rfl
  have e2 : IntKind.u64.max = 18446744073709551615 := rfl
  simp only [Lit.wf, Bool.and_eq_true, decide_eq_true_eq]
  omega
theorem Fv.kept {w w' : World} {f : Fr} (h : Fv w f) (hk : ∀ b off, f.a = some ⟨b, off, none⟩ → w'.heap[b]? = w.heap[b]?) : Fv w' f := ⟨h.fr, h.ep, h.me, h.yo, h.n, h.row.kept hk, h.all, h.more⟩
def By (zs : List Int) : Prop := ∀ z ∈ zs, 0 ≤ z ∧ z ≤ 255
theorem By.drop {zs : List Int} (h : By zs) (n : Nat) : By (zs.drop n) := fun z hz => h z (List.drop_subset n zs hz)
theorem By.take {zs : List Int} (h : By zs) (n : Nat) : By (zs.take n) := fun z hz => h z (List.take_subset n zs hz)
theorem longO_rng {zs rs : List Int} {x : Int} (h : longO zs = some (x, rs)) (hb : By zs) : (0 ≤ x ∧ x < 18446744073709551616) ∧ By rs := by
  unfold longO at h
  split at h
  · rename_i h8
    injection h with h
    injection h with h1 h2
    subst h1 h2
    refine ⟨?_, hb.drop 8⟩
    have r := Sh.Wd.numBE_range (zs.take 8) (hb.take 8)
    rw [List.length_take, Nat.min_eq_left h8] at r
    unfold N8 Sh.Wd.numF
    rw [if_pos rfl]
    exact ⟨r.1, by simpa using r.2⟩
  · cases h
theorem numO_rng {most x : Nat} {zs rs : List Int} (h : numO most zs = some (x, rs)) (hb : By zs) : x ≤ most ∧ By rs := by
  obtain ⟨h1, k, h2, _⟩ := numO_len h
  subst h2
  exact ⟨h1, hb.drop k⟩
/-- What a read frame's numbers may be. -/
structure FrR (f : Fr) : Prop where
  fr : 0 ≤ f.fr ∧ f.fr ≤ 255
  ep : 0 ≤ f.ep ∧ f.ep ≤ 1073741824
  me : 0 ≤ f.me ∧ f.me < 18446744073709551616
  yo : 0 ≤ f.yo ∧ f.yo < 18446744073709551616
  n : 0 ≤ f.n ∧ f.n ≤ 1073741824
  all : 0 ≤ f.all ∧ f.all ≤ 1073741824
  more : 0 ≤ f.more ∧ f.more < 18446744073709551616
  body : By f.body
  len : f.body.length ≤ 524288
  a : f.a = none
  cap : f.cap = 0
theorem red_rng {zs rs : List Int} {f : Fr} (hb : By zs) (h : redF zs = some (f, rs)) : FrR f ∧ By rs := by
  cases zs with
  | nil => cases h
  | cons m z0 =>
    by_cases hm : m = 70
    case neg => rw [redF_no m z0 hm] at h; cases h
    subst hm
    rw [redF_yes] at h
    cases z0 with
    | nil => cases h
    | cons fr z =>
      have hfr := hb fr (by simp)
      have b0 : By z := fun y hy => hb y (by simp [hy])
      change red3 fr z = _ at h
      unfold red3 at h
      split at h
      · cases h
      rename_i ep z1 h1
      obtain ⟨r1, b1⟩ := numO_rng h1 b0
      unfold red4 at h
      split at h
      · cases h
      rename_i me z2 h2
      obtain ⟨r2, b2⟩ := longO_rng h2 b1
      unfold red5 at h
      split at h
      · cases h
      rename_i yo z3 h3
      obtain ⟨r3, b3⟩ := longO_rng h3 b2
      unfold red6 at h
      split at h
      · cases h
      rename_i n z4 h4
      obtain ⟨r4, b4⟩ := numO_rng h4 b3
      unfold red7 at h
      split at h
      · cases h
      rename_i all z5 h5
      obtain ⟨r5, b5⟩ := numO_rng h5 b4
      unfold red8 at h
      split at h
      · cases h
      rename_i more z6 h6
      obtain ⟨r6, b6⟩ := longO_rng h6 b5
      unfold red9 at h
      split at h
      · cases h
      rename_i k z7 h7
      obtain ⟨r7, b7⟩ := numO_rng h7 b6
      split at h
      · injection h with h
        injection h with e1 e2
        subst e1 e2
        exact ⟨⟨hfr, ⟨by show 0 ≤ ((_ : Nat) : Int); omega, by show ((_ : Nat) : Int) ≤ _; omega⟩, r2, r3, ⟨by show 0 ≤ ((_ : Nat) : Int); omega, by show ((_ : Nat) : Int) ≤ _; omega⟩, ⟨by show 0 ≤ ((_ : Nat) : Int); omega, by show ((_ : Nat) : Int) ≤ _; omega⟩, r6, b7.take k, by show (List.take k z7).length ≤ _; rw [List.length_take]; omega, rfl, rfl⟩, b7.drop k⟩
      · cases h
theorem FrR.fv {w : World} {f : Fr} (h : FrR f) {a : Option Addr} {c : Nat} (hr : Ri w .u8 a c f.body) : Fv w { f with a := a, cap := c } :=
  ⟨wf_mk_i64 (by have := h.fr; show (_ : Int) ≤ f.fr; omega) (by have := h.fr; show f.fr ≤ _; omega), wf_mk_i64 (by have := h.ep; show (_ : Int) ≤ f.ep; omega) (by have := h.ep; show f.ep ≤ _; omega), wf_mk_u64 h.me.1 (by have := h.me.2; show f.me ≤ _; omega), wf_mk_u64 h.yo.1 (by have := h.yo.2; show f.yo ≤ _; omega), wf_mk_i64 (by have := h.n; show (_ : Int) ≤ f.n; omega) (by have := h.n; show f.n ≤ _; omega), hr, wf_mk_i64 (by have := h.all; show (_ : Int) ≤ f.all; omega) (by have := h.all; show f.all ≤ _; omega), wf_mk_u64 h.more.1 (by have := h.more.2; show f.more ≤ _; omega)⟩
/-- The frame that bytes hold, 32 more behind it. -/
def parO (zs : List Int) : Option Fr := match redF zs with
  | none => none
  | some (f, rs) => if rs.length = 32 ∧ mayF f = true then some f else none
theorem par_none {zs : List Int} (h : redF zs = none) : parO zs = none := by unfold parO; rw [h]
theorem par_more {zs rs : List Int} {f : Fr} (h : redF zs = some (f, rs)) (hl : rs.length ≠ 32) : parO zs = none := by unfold parO; rw [h]; simp [hl]
theorem par_no {zs rs : List Int} {f : Fr} (h : redF zs = some (f, rs)) (hm : mayF f = false) : parO zs = none := by unfold parO; rw [h]; simp [hm]
theorem par_yes {zs rs : List Int} {f : Fr} (h : redF zs = some (f, rs)) (hl : rs.length = 32) (hm : mayF f = true) : parO zs = some f := by unfold parO; rw [h]; simp [hl, hm]
theorem size64 : (Tryd.prog.info? 64).map (·.size) = some 1 := by kernel_rfl
set_option maxRecDepth 100000 in
theorem of_word (a : Option Addr) (n cap : Nat) (w : World) : Calls Tryd.prog 45 #[.slice a n cap] w fun e w' => e = .returned (.agg #[.slice a n cap]) ∧ Below w.heap.size w w' := by
  go_enter Tryd.func45, Tryd.ntmps45
  go_wp2
  refine bodyPost_ret (results_cell_row (ty := 64) rfl _ _ _ _ _ _ _ rfl (heap_alc w _) Tryd.underlying64 rfl size64) rfl ?_
  exact ⟨rfl, bel_alc _ _⟩
/-- What the closure answers, or where it panics. -/
def ParP (w : World) (zs : List Int) (e : Ending) (w' : World) : Prop :=
  Below w.heap.size w w' ∧ ((e = .panicked faultC ∧ parO zs = none) ∨ ∃ f a c, parO zs = some f ∧ e = .returned (.agg ({ f with a := a, cap := c } : Fr).cs.toArray) ∧ Fv w' { f with a := a, cap := c } ∧ ∀ b off, a = some ⟨b, off, none⟩ → w.heap.size ≤ b)
set_option maxHeartbeats 16000000 in
set_option maxRecDepth 100000 in
theorem pcl_word (pb : Nat) (a : Option Addr) (cap : Nat) (zs : List Int) (w : World) (hc : w.cell? ⟨pb, 0, none⟩ = some (.slice a zs.length cap)) (hr : Ri w .u8 a cap zs) :
    Calls Tryd.prog 44 #[.pointer (some ⟨pb, 0, none⟩)] w (ParP w zs) := by
  have HLT := hid (cell_lt hc)
  have HOF := hid (fun V => of_word a zs.length cap V)
  have HR := hid hr
  have HC := hid hc
  have HBY : Hid (By zs) := all_u8 hr.fits
  obtain ⟨PP, hPP⟩ : ∃ P : Ending → World → Prop, P = ParP w zs := ⟨_, rfl⟩
  have HPP := hid hPP
  rw [← hPP]
  clear hc hr hPP
  obtain ⟨LZ, hLZ⟩ : ∃ n, n = zs.length := ⟨_, rfl⟩
  have HLZ := hid hLZ
  rw [← hLZ] at HC HOF
  clear hLZ
  go_enter Tryd.func44, Tryd.ntmps44
  go_wp2_with (first | refine wpList_alloc_W rfl 25 rfl (some 1) rfl _ Tryd.zero25 w.heap.size rfl ?_ | fail)
  intro W1 HO1 HB1 HS1
  have c1 := (HB1.out.cell HLT.out).trans HC.out
  clear HC HLT HS1
  go_wp2_with fail
  refine (HOF.out _).mono ?_
  rintro _ W2 ⟨rfl, hb2⟩
  have HB2 := hid (Bn HB1.out hb2)
  have HO2 := hid (blk_later HO1.out hb2)
  clear hb2 c1 HB1 HO1 HOF
  go_wp2_with fail
  have hb3 := bel_alc W2 (.cells #[.slice a LZ cap] 67)
  have HB3 := hid (Bn HB2.out hb3)
  have HO3 := hid (blk_later HO2.out hb3)
  have HD3 : Hid (Rd w (W2.alloc (.cells #[.slice a LZ cap] 67)) W2.heap.size a cap zs) := ⟨by rw [← HLZ.out]; exact heap_alc W2 _, HR.out, HB3.out, HB2.out.size⟩
  have HGN : Hid (w.heap.size < W2.heap.size) := blk_lt HO2.out
  have HGS : Hid (w.heap.size ≤ W2.heap.size) := HB2.out.size
  clear hb3 HB2 HO2
  generalize W2.heap.size = g at *
  generalize W2.alloc (.cells #[.slice a LZ cap] 67) = X3 at *
  refine (rframe_word w X3 g a cap zs HD3.out).mono ?_
  intro e4 V4 q4
  cases hrr : redF zs with
  | none =>
    rw [hrr] at q4
    obtain ⟨rfl, hb4⟩ := q4
    refine ⟨rfl, ?_⟩
    rw [HPP.out]
    exact ⟨HB3.out.trans (hb4.below HGS.out HB3.out.size), .inl ⟨rfl, par_none hrr⟩⟩
  | some q =>
    obtain ⟨r, rs⟩ := q
    rw [hrr] at q4
    obtain ⟨pa, pc, rfl, hri, a4, c4, hd4, hb4, hpf⟩ := q4
    have HPF : Hid (∀ b off, pa = some ⟨b, off, none⟩ → w.heap.size < b) := fun b off q => by
      have h1 := hpf b off q
      have h2 := HD3.out.lt
      have h3 := HGN.out
      omega
    have HRR := hid hrr
    have HB4 : Hid (Below w.heap.size w V4) := HB3.out.trans (hb4.below HGS.out HB3.out.size)
    have HO4 : Hid (V4.heap[w.heap.size]? = some (.cells frZ.cs.toArray 25)) := (hb4.same _ (blk_lt HO3.out) (by have := HGN.out; omega)).trans HO3.out
    obtain ⟨R, hR⟩ : ∃ R : Fr, R = { r with a := pa, cap := pc } := ⟨_, rfl⟩
    have HRQ := hid hR
    rw [← hR]
    have HRV4 : Hid (Fv V4 R) := by rw [hR]; exact (red_rng HBY.out hrr).1.fv hri
    have HML : Hid (mayF R = mayF r) := by rw [hR]; rfl
    have HD4 := hid hd4
    clear hrr hb4 hri hd4 hR HB3 HO3 HD3 hpf
    go_wp2_with (first | refine wpList_alloc_W rfl 25 rfl (some 3) rfl _ Tryd.zero25 V4.heap.size rfl ?_ | fail)
    intro Y5 HG5 HBa HSa
    go_wp2_with (first | refine wpList_store_W rfl 25 _ _ rfl rfl V4.heap.size R.cs.toArray rfl rfl 25 _ HG5.out Tryd.size25 rfl (all_oneCell_toArray (Fr.one _)) ?_ | fail)
    intro X5 HX5 HGR5 HS5
    have hb5 : Below V4.heap.size V4 X5 := HBa.out.trans (bel_grown HGR5.out (Nat.le_refl _) HBa.out.size)
    have HB5 := hid (Bn HB4.out hb5)
    have HO5 := hid (blk_later HO4.out hb5)
    have HD5 := hid (HD4.out.later hb5)
    have HRV5 := hid (HRV4.out.later hb5)
    have HN5 : Hid (w.heap.size < V4.heap.size) := blk_lt HO4.out
    have HLW := hid (len_word w X5 g a4 c4 rs HD5.out)
    have HMW := hid (may_word R X5)
    have HXR := hid (blk_range HX5.out)
    obtain ⟨LR, hLR⟩ : ∃ n, n = rs.length := ⟨_, rfl⟩
    have HLR := hid hLR
    rw [← hLR] at HLW
    clear hLR hb5 HG5 HBa HSa HGR5 HS5 HB4 HO4 HD4 HRV4
    go_wp2_with fail
    refine HLW.out.mono ?_
    rintro _ w1 ⟨rfl, hw⟩
    obtain rfl := hw.symm
    clear hw HLW
    by_cases hl : LR = 32
    · subst hl
      go_wp2_with (first | refine wpList_load_g rfl 25 _ rfl V4.heap.size 0 rfl R.cs _ HXR.out Tryd.underlying25 rfl Tryd.size25 ?_ | fail)
      refine HMW.out.mono ?_
      rintro _ W6 ⟨rfl, hb6⟩
      have HB6 := hid (Bn HB5.out hb6)
      have HO6 := hid (blk_later HO5.out hb6)
      have HX6 := hid (blk_range (blk_later HX5.out hb6))
      have HRV6 := hid (HRV5.out.later hb6)
      clear hb6 HMW HXR HX5
      cases hm : mayF R with
      | false =>
        have HM : Hid (mayF r = false) := HML.out.symm.trans hm
        clear hm
        go_wp2_with fail
        refine (need_no _).mono ?_
        rintro _ w1 ⟨rfl, hw⟩
        obtain rfl := hw.symm
        refine ⟨rfl, ?_⟩
        rw [HPP.out]
        exact ⟨HB6.out, .inl ⟨rfl, par_no HRR.out HM.out⟩⟩
      | true =>
        have HM : Hid (mayF r = true) := HML.out.symm.trans hm
        clear hm
        go_wp2_with fail
        refine (need_yes _).mono ?_
        rintro _ w1 ⟨rfl, hw⟩
        obtain rfl := hw.symm
        clear hw
        go_wp2_with (first | refine wpList_load_g rfl 25 _ rfl V4.heap.size 0 rfl R.cs _ HX6.out Tryd.underlying25 rfl Tryd.size25 ?_ | refine wpList_store_W rfl 25 _ _ rfl rfl w.heap.size R.cs.toArray rfl rfl 25 _ HO6.out Tryd.size25 rfl (all_oneCell_toArray (Fr.one _)) ?_ | fail)
        intro X7 HG7 HGR7 HS7
        go_wp2
        refine bodyPost_ret (results_cell_row (ty := 25) rfl _ _ _ _ _ _ _ rfl HG7.out Tryd.underlying25 rfl Tryd.size25) rfl ?_
        rw [HPP.out]
        have hgb := grown_but HGR7.out
        have hv := HRV6.out
        have hbs := HB6.out.size
        refine ⟨HB6.out.trans (bel_grown HGR7.out (Nat.le_refl _) hbs), .inr ⟨r, pa, pc, par_yes HRR.out HLR.out.symm HM.out, by rw [HRQ.out], ?_, fun b off q => Nat.le_of_lt (HPF.out b off q)⟩⟩
        rw [HRQ.out] at hv
        rcases Nat.eq_zero_or_pos r.body.length with h0 | h0
        · exact ⟨hv.fr, hv.ep, hv.me, hv.yo, hv.n, ⟨hv.row.room, hv.row.most, fun h => absurd h (by show ¬ 0 < r.body.length; omega), hv.row.fits⟩, hv.all, hv.more⟩
        · obtain ⟨b', off', hb', hlt', _⟩ := hv.row.cells h0
          refine hv.kept fun b off q => hgb.same b ?_ (by have := HPF.out b off q; omega)
          rw [show (({ r with a := pa, cap := pc } : Fr).a) = pa from rfl] at hb' q
          rw [hb'] at q
          injection q with q
          injection q with q
          omega
    · have hz : ((LR : Int) == 32) = false := by rw [beq_eq_false_iff_ne]; omega
      have hz2 : (LR == 32) = false := by rw [beq_eq_false_iff_ne]; exact hl
      have HNL : Hid (rs.length ≠ 32) := fun q => hl (HLR.out.trans q)
      go_wp2_with fail
      refine (need_no _).mono ?_
      rintro _ w1 ⟨rfl, hw⟩
      obtain rfl := hw.symm
      refine ⟨rfl, ?_⟩
      rw [HPP.out]
      exact ⟨HB5.out, .inl ⟨rfl, par_more HRR.out HNL.out⟩⟩
end Go.Proofs.YtgnjicpmfpgdeaaDoor
namespace Go.Proofs.YtgnjicpmfpgdeaaDoor
open Go.ChangeShapes Go.WideShapes Go.ChangeAt Go.RowKit Go.Deep Go.Lib

theorem results79 : Tryd.f79.results = #[] := rfl
set_option maxRecDepth 100000 in
theorem catch_idle (q : Addr) (w : World) :
    CallsD Tryd.prog 79 #[.pointer (some q)] .returning w fun e u' w' => e = .returned (.tuple #[]) ∧ u' = .returning ∧ w' = w := by
  refine callsD_of_wpS Tryd.func79 rfl fun c₀ cs hu => ?_
  apply wpS_seq
  apply wpS_region
  simp [wpOpsS, go_sem, recoverD, hu, Tryd.ntmps79, Exit.thenS]
  refine wpS_of_wp ?_
  change Code.wp _ _ _ ⟨#[.pointer (some q), .nilIface, undef, undef, .nilIface, undef, undef, undef, undef, undef, undef, undef, undef, undef, undef, undef, undef], []⟩ w
  generalize hQ : (fun (x : Exit) (a : Act) (w' : World) => bodyPostS Tryd.prog Tryd.f79 c₀ cs (fun e u' w' => e = Ending.returned (Value.tuple #[]) ∧ u' = FrameMode.returning ∧ w' = w) x a (c₀ :: cs) w') = Q
  go_wp2
  subst hQ
  refine ⟨rfl, .returning, ?_, .tuple #[], results_none rfl _ _ _, rfl, rfl, rfl⟩
  cases c₀
  simp_all
theorem assert109 (w : World) : (Instr.typeAssert (.iface 109 (.agg #[.int .i64 1])) 20 109 true).run Tryd.prog w = .ok (.tuple #[.agg #[.int .i64 1], .bool true]) w := by kernel_rfl
set_option maxRecDepth 100000 in
theorem catch_fault (q : Addr) (x : Int) (w : World) (hc : w.cell? q = some (.int .i64 x)) (hz : w.frozen? q = false) :
    CallsD Tryd.prog 79 #[.pointer (some q)] (.panicking faultC) w fun e' u' w' => e' = .returned (.tuple #[]) ∧ u' = .panicking [{ v := .iface 109 (.agg #[.int .i64 1]), recovered := true }] ∧ w' = (w.alloc (.cells #[.int .i64 1] 109)).setCell q (.int .i64 1) := by
  refine callsD_of_wpS Tryd.func79 rfl fun c₀ cs hu => ?_
  apply wpS_seq
  apply wpS_region
  simp [wpOpsS, go_sem, recoverD, hu, Tryd.ntmps79, Exit.thenS]
  refine wpS_of_wp ?_
  have hb := bel_alc w (.cells #[.int .i64 1] 109)
  have hc2 : (w.alloc (.cells #[.int .i64 1] 109)).cell? q = some (.int .i64 x) := (hb.cell (cell_lt hc)).trans hc
  have hz2 : (w.alloc (.cells #[.int .i64 1] 109)).frozen? q = false := (hb.frozen (cell_lt hc)).trans hz
  have A := assert109
  clear hc hz hb
  change Code.wp _ _ _ ⟨#[.pointer (some q), .iface 109 (.agg #[.int .i64 1]), undef, undef, .iface 109 (.agg #[.int .i64 1]), undef, undef, undef, undef, undef, undef, undef, undef, undef, undef, undef, undef], []⟩ w
  go_wp2
  exact ⟨rfl, _, rfl, .tuple #[], results_none rfl _ _ _, rfl, rfl, rfl⟩
/-- What read answers; x is the error. -/
def CauP (x : Int) (B : Nat) (zs : List Int) (w' : World) (R : Fr) (e : Int) : Prop := (parO zs = none ∧ R = frZ ∧ e = x) ∨ ∃ f a c, parO zs = some f ∧ R = { f with a := a, cap := c } ∧ e = 0 ∧ Fv w' R ∧ ∀ b off, a = some ⟨b, off, none⟩ → B ≤ b
theorem CauP.kept {x : Int} {B : Nat} {zs : List Int} {W W' : World} {R : Fr} {e : Int} (h : CauP x B zs W R e) (hk : ∀ b, B ≤ b → b < W.heap.size → W'.heap[b]? = W.heap[b]?) : CauP x B zs W' R e := by
  rcases h with h | ⟨f, a, c, h1, h2, h3, hv, hf⟩
  · exact .inl h
  · refine .inr ⟨f, a, c, h1, h2, h3, ?_, hf⟩
    subst h2
    rcases Nat.eq_zero_or_pos f.body.length with h0 | h0
    · exact ⟨hv.fr, hv.ep, hv.me, hv.yo, hv.n, ⟨hv.row.room, hv.row.most, fun h => absurd h (by show ¬ 0 < f.body.length; omega), hv.row.fits⟩, hv.all, hv.more⟩
    · obtain ⟨b', off', hb', hlt', _⟩ := hv.row.cells h0
      refine hv.kept fun b off q => hk b (hf b off q) ?_
      rw [show (({ f with a := a, cap := c } : Fr).a) = a from rfl] at hb' q
      rw [hb'] at q
      injection q with q
      injection q with q
      omega
theorem CauP.low {x : Int} {B B' : Nat} {zs : List Int} {W : World} {R : Fr} {e : Int} (h : CauP x B zs W R e) (hB : B' ≤ B) : CauP x B' zs W R e := by
  rcases h with h | ⟨f, a, c, h1, h2, h3, hv, hf⟩
  · exact .inl h
  · exact .inr ⟨f, a, c, h1, h2, h3, hv, fun b off q => Nat.le_trans hB (hf b off q)⟩
theorem results_two {P : Program} {fn : Func} {p u : Tmp} {ty tu : TypeId} (h : fn.results = #[.cell p ty, .cell u tu]) (tmps : Array Value) (w : World) (g g2 : Nat) (v v2 : Value) (hp : tmps.getD p undef = .pointer (some ⟨g, 0, none⟩)) (hu : tmps.getD u undef = .pointer (some ⟨g2, 0, none⟩)) (hl : (loadVar ty ⟨g, 0, none⟩).run P w = .ok v w) (hl2 : (loadVar tu ⟨g2, 0, none⟩).run P w = .ok v2 w) :
    (results fn tmps).run P w = .ok (.tuple #[v, v2]) w := by
  rw [Array.getD_eq_getD_getElem?] at hp hu
  simp [results, h, hp, hu, asAddr, hl, hl2]
theorem load28 {w : World} {g : Nat} {x : Int} (h : w.cell? ⟨g, 0, none⟩ = some (.int .i64 x)) : (loadVar 28 ⟨g, 0, none⟩).run Tryd.prog w = .ok (.int .i64 x) w := by
  simp [go_sem, h]
theorem load25 {w : World} {g : Nat} {f : Fr} (h : w.heap[g]? = some (.cells f.cs.toArray 25)) : (loadVar 25 ⟨g, 0, none⟩).run Tryd.prog w = .ok (.agg f.cs.toArray) w := run_loadVar_mid w g 0 25 f.cs _ (blk_range h) Tryd.underlying25 rfl Tryd.size25
theorem results62 : Tryd.f62.results = #[.cell 2 25, .cell 3 28] := rfl
set_option maxHeartbeats 16000000 in
set_option maxRecDepth 100000 in
theorem hcaught_word (pb : Nat) (a : Option Addr) (cap : Nat) (zs : List Int) (w : World) (hc : w.cell? ⟨pb, 0, none⟩ = some (.slice a zs.length cap)) (hr : Ri w .u8 a cap zs) :
    Calls Tryd.prog 62 #[.func (.func 44) #[] #[.pointer (some ⟨pb, 0, none⟩)]] w fun e w' => ∃ R e', e = .returned (.tuple #[.agg R.cs.toArray, .int .i64 e']) ∧ Below w.heap.size w w' ∧ CauP 1 w.heap.size zs w' R e' := by
  have hmf : ∀ (fn : Fn) (first cap : Array Value) (w : World), (Instr.makeFunc fn first cap).run Tryd.prog w = .ok (.func fn first cap) w := fun _ _ _ _ => rfl
  have s1 : (w.alloc (.cells frZ.cs.toArray 25)).heap.size = w.heap.size + 1 := by simp
  have b1 := bel_alc w (.cells frZ.cs.toArray 25)
  have b2 := bel_alc (w.alloc (.cells frZ.cs.toArray 25)) (.cells #[.int .i64 0] 28)
  have e1 := heap_old _ (.cells #[.int .i64 0] 28) (heap_alc w (.cells frZ.cs.toArray 25))
  have e2 := heap_alc (w.alloc (.cells frZ.cs.toArray 25)) (.cells #[.int .i64 0] 28)
  rw [s1] at e2
  have bb := Bn b1 b2
  obtain ⟨W0, hW0⟩ : ∃ W, W = (w.alloc (.cells frZ.cs.toArray 25)).alloc (.cells #[.int .i64 0] 28) := ⟨_, rfl⟩
  rw [← hW0] at e1 e2 bb
  have HC := hid (pcl_word pb a cap zs W0 ((bb.cell (cell_lt hc)).trans hc) (hr.later bb))
  have HE1 := hid e1
  have HE2 := hid e2
  have HBB := hid bb
  have HW0 := hid hW0
  clear hc hr b1 b2 e1 e2 bb s1 hW0
  go_enter_defers Tryd.func62, Tryd.ntmps62
  go_wp2_with (first | refine wpList_alloc_at rfl 25 rfl (some 2) rfl _ Tryd.zero25 w.heap.size rfl ?_ | fail)
  rw [← HW0.out]
  refine HC.out.mono ?_
  rintro e w1 ⟨hb, ⟨rfl, hpn⟩ | ⟨r, ra, rc, hpo, rfl, hrv, hpf⟩⟩
  · have f1 := blk_later HE1.out hb
    have f2 := blk_later HE2.out hb
    have c2 : w1.cell? ⟨w.heap.size + 1, 0, none⟩ = some (.int .i64 0) := (Joins.cell_of_block f2 0).trans rfl
    have u2 : w1.frozen? ⟨w.heap.size + 1, 0, none⟩ = false := Joins.unfrozen_of_block f2 0
    have hb1 := bel_alc w1 (.cells #[.int .i64 1] 109)
    have HBE : Hid (Below w.heap.size w ((w1.alloc (.cells #[.int .i64 1] 109)).setCell ⟨w.heap.size + 1, 0, none⟩ (.int .i64 1))) := (Bn (Bn HBB.out hb) hb1).setCell (p := ⟨w.heap.size + 1, 0, none⟩) (show w.heap.size ≤ w.heap.size + 1 by omega) _
    have g1 : ((w1.alloc (.cells #[.int .i64 1] 109)).setCell ⟨w.heap.size + 1, 0, none⟩ (.int .i64 1)).heap[w.heap.size]? = some (.cells frZ.cs.toArray 25) := (Below.heap_setCell _ ⟨w.heap.size + 1, 0, none⟩ _ w.heap.size (by show w.heap.size ≠ w.heap.size + 1; omega)).trans (heap_old _ _ f1)
    have g2 : ((w1.alloc (.cells #[.int .i64 1] 109)).setCell ⟨w.heap.size + 1, 0, none⟩ (.int .i64 1)).cell? ⟨w.heap.size + 1, 0, none⟩ = some (.int .i64 1) := by
      have e3 := Joins.block_setCell (v := .int .i64 1) (i := 0) (heap_old w1 (.cells #[.int .i64 1] 109) f2)
      simpa using Joins.cell_of_block e3 0
    have hld := load25 g1
    clear hb f1 f2 hb1 g1 HC
    refine leaves_cons (f := 79) (args := #[.pointer (some ⟨w.heap.size + 1, 0, none⟩)]) (by simp) (by simp [go_sem]) ?_
    refine (catch_fault ⟨w.heap.size + 1, 0, none⟩ 0 w1 c2 u2).mono ?_
    rintro e u' w'' ⟨rfl, rfl, rfl⟩
    generalize (w1.alloc (.cells #[.int .i64 1] 109)).setCell ⟨w.heap.size + 1, 0, none⟩ (.int .i64 1) = W at *
    refine ⟨_, results_two results62 _ W w.heap.size (w.heap.size + 1) _ _ rfl rfl hld (load28 g2), frZ, 1, rfl, HBE.out, .inl ⟨hpn, rfl, rfl⟩⟩
  · have HF1 := hid (blk_later HE1.out hb)
    have HF2 := hid (blk_later HE2.out hb)
    obtain ⟨R, hR⟩ : ∃ R : Fr, R = { r with a := ra, cap := rc } := ⟨_, rfl⟩
    rw [← hR] at hrv ⊢
    have HCP : Hid (CauP 1 W0.heap.size zs w1 R 0) := .inr ⟨r, ra, rc, hpo, hR, rfl, hrv, hpf⟩
    have HB1 := hid (Bn HBB.out hb)
    have HWS : Hid (w.heap.size + 1 < W0.heap.size) := blk_lt HE2.out
    clear hb hrv hpo hR HC hpf
    go_wp2_with (first | refine wpList_store_W rfl 25 _ _ rfl rfl w.heap.size R.cs.toArray rfl rfl 25 _ HF1.out Tryd.size25 rfl (all_oneCell_toArray (Fr.one _)) ?_ | fail)
    intro V HG HGR HSV
    have hgb := grown_but HGR.out
    have f3 : V.heap[w.heap.size + 1]? = some (.cells #[.int .i64 0] 28) := (hgb.same _ (blk_lt HF2.out) (by omega)).trans HF2.out
    have c2 : V.cell? ⟨w.heap.size + 1, 0, none⟩ = some (.int .i64 0) := (Joins.cell_of_block f3 0).trans rfl
    have u2 : V.frozen? ⟨w.heap.size + 1, 0, none⟩ = false := Joins.unfrozen_of_block f3 0
    have HST := hid (setCell_same (v := .int .i64 0) (i := 0) f3 rfl)
    have HC2 := hid c2
    have HBE : Hid (Below w.heap.size w V) := HB1.out.trans (bel_grown HGR.out (Nat.le_refl _) HB1.out.size)
    have HCQ : Hid (CauP 1 w.heap.size zs V R 0) := (HCP.out.kept fun b h1 h2 => hgb.same b h2 (by have := HWS.out; omega)).low (by have := HWS.out; omega)
    clear hgb f3
    go_wp2_with fail
    rw [HST.out]
    refine leaves_cons (f := 79) (args := #[.pointer (some ⟨w.heap.size + 1, 0, none⟩)]) (by simp) (by simp [go_sem]) ?_
    refine (catch_idle ⟨w.heap.size + 1, 0, none⟩ _).mono ?_
    rintro e u' w'' ⟨rfl, rfl, hw⟩
    obtain rfl := hw.symm
    clear hw
    refine ⟨_, results_two results62 _ _ w.heap.size (w.heap.size + 1) _ _ rfl rfl (load25 HG.out) (load28 HC2.out), R, 0, rfl, HBE.out, HCQ.out⟩
end Go.Proofs.YtgnjicpmfpgdeaaDoor
namespace Go.Proofs.YtgnjicpmfpgdeaaDoor
open Go.ChangeShapes Go.WideShapes Go.ChangeAt Go.RowKit Go.Deep Go.Lib

theorem CauP.turn {x y : Int} {B : Nat} {zs : List Int} {W : World} {R : Fr} {e : Int} (h : CauP x B zs W R e) (hx : x ≠ 0) : (e = 0 ∧ CauP y B zs W R 0) ∨ (e ≠ 0 ∧ CauP y B zs W R y) := by
  rcases h with ⟨h1, h2, h3⟩ | ⟨f, a, c, h1, h2, h3, hv, hf⟩
  · exact .inr ⟨by rw [h3]; exact hx, .inl ⟨h1, h2, rfl⟩⟩
  · exact .inl ⟨h3, .inr ⟨f, a, c, h1, h2, rfl, hv, hf⟩⟩
set_option maxHeartbeats 16000000 in
set_option maxRecDepth 100000 in
theorem pcaught_word (pb : Nat) (a : Option Addr) (cap : Nat) (zs : List Int) (w : World) (hc : w.cell? ⟨pb, 0, none⟩ = some (.slice a zs.length cap)) (hr : Ri w .u8 a cap zs) :
    Calls Tryd.prog 43 #[.int .i64 180, .func (.func 44) #[] #[.pointer (some ⟨pb, 0, none⟩)]] w fun e w' => ∃ R e', e = .returned (.tuple #[.agg R.cs.toArray, .int .i64 e']) ∧ Below w.heap.size w w' ∧ CauP 180 w.heap.size zs w' R e' := by
  have HLT := hid (cell_lt hc)
  have HC := hid hc
  have HR := hid hr
  clear hc hr
  go_enter Tryd.func43, Tryd.ntmps43
  go_wp2_with (first | refine wpList_alloc_W rfl 25 rfl (some 4) rfl _ Tryd.zero25 w.heap.size rfl ?_ | fail)
  intro W1 HO1 HB1 HS1
  have HCA := hid (hcaught_word pb a cap zs W1 ((HB1.out.cell HLT.out).trans HC.out) (HR.out.later HB1.out))
  clear HC HLT HS1
  go_wp2_with fail
  refine HCA.out.mono ?_
  rintro _ W2 ⟨R, e', rfl, hb2, hcp⟩
  have HB2 := hid (Bn HB1.out hb2)
  have HO2 := hid (blk_later HO1.out hb2)
  have HCP : Hid (CauP 1 (w.heap.size + 1) zs W2 R e') := hcp.low (blk_lt HO1.out)
  clear hb2 hcp HCA HB1 HO1
  go_wp2_with (first | refine wpList_alloc_W rfl 25 rfl (some 6) rfl _ Tryd.zero25 W2.heap.size rfl ?_ | fail)
  intro W3 HO3 HB3 HS3
  go_wp2_with (first | refine wpList_store_W rfl 25 _ _ rfl rfl W2.heap.size R.cs.toArray rfl rfl 25 _ HO3.out Tryd.size25 rfl (all_oneCell_toArray (Fr.one _)) ?_ | fail)
  intro W4 HO4 HGR4 HS4
  have hb4 : Below W2.heap.size W2 W4 := HB3.out.trans (bel_grown HGR4.out (Nat.le_refl _) HB3.out.size)
  have HB4 := hid (Bn HB2.out hb4)
  have HO4r := hid (blk_later HO2.out hb4)
  have HX4 := hid (blk_range HO4.out)
  have HCP4 : Hid (CauP 1 (w.heap.size + 1) zs W4 R e') := HCP.out.kept fun b _ h => hb4.block b h
  have HGT : Hid (w.heap.size < W2.heap.size) := blk_lt HO2.out
  clear hb4 HB3 HGR4 HS4 HS3 HO3 HCP HB2 HO2
  rcases HCP4.out.turn (y := 180) (by decide) with ⟨he, hq⟩ | ⟨he, hq⟩
  · subst he
    have HQ := hid hq
    clear hq HCP4
    go_wp2_with (first | refine wpList_load_g rfl 25 _ rfl W2.heap.size 0 rfl R.cs _ HX4.out Tryd.underlying25 rfl Tryd.size25 ?_ | refine wpList_store_W rfl 25 _ _ rfl rfl w.heap.size R.cs.toArray rfl rfl 25 _ HO4r.out Tryd.size25 rfl (all_oneCell_toArray (Fr.one _)) ?_ | fail)
    intro W5 HO5 HGR5 HS5
    go_wp2
    refine bodyPost_ret (results_row_tmp rfl _ _ w.heap.size _ rfl (load25 HO5.out)) rfl ?_
    have hgb := grown_but HGR5.out
    exact ⟨R, 0, rfl, HB4.out.trans (bel_grown HGR5.out (Nat.le_refl _) HB4.out.size), (HQ.out.kept fun b h1 h2 => hgb.same b h2 (by omega)).low (Nat.le_succ _)⟩
  · have HQ := hid hq
    have he2 : (e' != 0) = true := by simpa using he
    have he3 : (e' == 0) = false := by simpa using he
    clear hq HCP4
    go_wp2_with (first | refine wpList_load_g rfl 25 _ rfl W2.heap.size 0 rfl R.cs _ HX4.out Tryd.underlying25 rfl Tryd.size25 ?_ | refine wpList_store_W rfl 25 _ _ rfl rfl w.heap.size R.cs.toArray rfl rfl 25 _ HO4r.out Tryd.size25 rfl (all_oneCell_toArray (Fr.one _)) ?_ | fail)
    intro W5 HO5 HGR5 HS5
    go_wp2
    refine bodyPost_ret (results_row_tmp rfl _ _ w.heap.size _ rfl (load25 HO5.out)) rfl ?_
    have hgb := grown_but HGR5.out
    exact ⟨R, 180, rfl, HB4.out.trans (bel_grown HGR5.out (Nat.le_refl _) HB4.out.size), (HQ.out.kept fun b h1 h2 => hgb.same b h2 (by omega)).low (Nat.le_succ _)⟩
set_option maxHeartbeats 16000000 in
set_option maxRecDepth 100000 in
/-- read: the frame of bytes with a MAC behind it. -/
theorem read_frame (a : Option Addr) (cap : Nat) (zs : List Int) (w : World) (hr : Ri w .u8 a cap zs) :
    Calls Tryd.prog 31 #[.slice a zs.length cap] w fun e w' => ∃ R e', e = .returned (.tuple #[.agg R.cs.toArray, .int .i64 e']) ∧ Below w.heap.size w w' ∧ CauP 180 w.heap.size zs w' R e' := by
  have hmf : ∀ (fn : Fn) (first cap : Array Value) (w : World), (Instr.makeFunc fn first cap).run Tryd.prog w = .ok (.func fn first cap) w := fun _ _ _ _ => rfl
  have s1 : (w.alloc (.cells #[.slice a zs.length cap] 22)).heap.size = w.heap.size + 1 := by simp
  have b1 := bel_alc w (.cells #[.slice a zs.length cap] 22)
  have b2 := bel_alc (w.alloc (.cells #[.slice a zs.length cap] 22)) (.cells frZ.cs.toArray 25)
  have e0 := heap_old _ (.cells frZ.cs.toArray 25) (heap_alc w (.cells #[.slice a zs.length cap] 22))
  have e1 := heap_alc (w.alloc (.cells #[.slice a zs.length cap] 22)) (.cells frZ.cs.toArray 25)
  rw [s1] at e1
  have bb := Bn b1 b2
  obtain ⟨W0, hW0⟩ : ∃ W, W = (w.alloc (.cells #[.slice a zs.length cap] 22)).alloc (.cells frZ.cs.toArray 25) := ⟨_, rfl⟩
  rw [← hW0] at e0 e1 bb
  have c0 : W0.cell? ⟨w.heap.size, 0, none⟩ = some (.slice a zs.length cap) := (Joins.cell_of_block e0 0).trans rfl
  have HC := hid (pcaught_word w.heap.size a cap zs W0 c0 (hr.later bb))
  have HE1 := hid e1
  have HBB := hid bb
  have HW0 := hid hW0
  have HS1 := hid s1.symm
  clear hr b1 b2 e0 e1 bb s1 hW0
  generalize zs.length = LZ at *
  go_enter Tryd.func31, Tryd.ntmps31
  go_wp2_with (first | refine wpList_alloc_at rfl 25 rfl (some 2) rfl _ Tryd.zero25 (w.heap.size + 1) HS1.out ?_ | fail)
  rw [← HW0.out]
  refine HC.out.mono ?_
  rintro _ W1 ⟨R, e', rfl, hb1, hp⟩
  have HO1 := hid (blk_later HE1.out hb1)
  have HB1 := hid (Bn HBB.out hb1)
  have HP := hid hp
  have HWS : Hid (w.heap.size + 1 < W0.heap.size) := blk_lt HE1.out
  clear hb1 hp HC
  go_wp2_with (first | refine wpList_store_W rfl 25 _ _ rfl rfl (w.heap.size + 1) R.cs.toArray rfl rfl 25 _ HO1.out Tryd.size25 rfl (all_oneCell_toArray (Fr.one _)) ?_ | fail)
  intro W5 HO5 HGR5 HS5
  go_wp2
  refine bodyPost_ret (results_row_tmp rfl _ _ (w.heap.size + 1) _ rfl (load25 HO5.out)) rfl ?_
  have hgb := grown_but HGR5.out
  have hws := HWS.out
  exact ⟨R, e', rfl, HB1.out.trans (bel_grown HGR5.out (Nat.le_succ _) HB1.out.size), (HP.out.kept fun b h1 h2 => hgb.same b h2 (by omega)).low (by omega)⟩
end Go.Proofs.YtgnjicpmfpgdeaaDoor
namespace Go.Proofs.YtgnjicpmfpgdeaaDoor
open Go.ChangeShapes Go.WideShapes Go.ChangeAt Go.RowKit Go.Deep Go.Lib

theorem par_may {zs : List Int} {f : Fr} (h : parO zs = some f) : mayF f = true := by
  unfold parO at h
  split at h
  · cases h
  · split at h
    · rename_i hh
      injection h with h
      rw [← h]
      exact hh.2
    · cases h
theorem may_fr {f : Fr} (h : mayF f = true) : 0 ≤ f.fr ∧ f.fr ≤ 1 := by
  unfold mayF up at h
  simp only [Bool.and_eq_true, decide_eq_true_eq] at h
  exact h.1
/-- The error of a MAC. -/
def macE (key : List Nat) (f : Fr) (zs : List Int) : Int := (Sh.openL (keyF key f.fr) (nats zs)).2
/-- What Open answers. -/
def OpP (B : Nat) (key : List Nat) (zs : List Int) (w' : World) (R : Fr) (e : Int) : Prop :=
  (parO zs = none ∧ R = frZ ∧ e = 180) ∨ (∃ f, parO zs = some f ∧ macE key f zs ≠ 0 ∧ R = frZ ∧ e = macE key f zs) ∨ ∃ f a c, parO zs = some f ∧ macE key f zs = 0 ∧ R = { f with a := a, cap := c } ∧ e = 0 ∧ Fv w' R ∧ ∀ b off, a = some ⟨b, off, none⟩ → B ≤ b
set_option maxHeartbeats 16000000 in
set_option maxRecDepth 100000 in
theorem fopen_word (a : Option Addr) (cap : Nat) (key : List Nat) (b : Option Addr) (cb : Nat) (zs : List Int) (w : World) (hL : Sh.Laid w) (hr : Sh.Rd w (.slice a key.length cap) a cap key) (hk : key.length ≤ 100000) (hb : Ri w .u8 b cb zs) (hn : b = none → cb = 0) (hz : zs.length ≤ 100000) :
    Calls Tryd.prog 18 #[.slice a key.length cap, .slice b zs.length cb] w fun e w' => ∃ R e', e = .returned (.tuple #[.agg R.cs.toArray, .int .i64 e']) ∧ Below w.heap.size w w' ∧ OpP w.heap.size key zs w' R e' := by
  have HRF := hid (fun V (hV : Below w.heap.size w V) => read_frame b cb zs V (hb.later hV))
  have HKW := hid (fun V (hV : Below w.heap.size w V) fr (hf : 0 ≤ fr ∧ fr ≤ 1) => keyOf_word a cap key fr V (hL.later hV) (hr.later hV) hk hf)
  have HOP := hid (fun V (hV : Below w.heap.size w V) (g : Nat) (fr : Int) (hg : V.heap[g]? = some (.cells (Sh.arr .u8 (keyF key fr)) 39)) => (show Calls Tryd.prog 32 #[.slice (some ⟨g, 0, none⟩) 32 32, .slice b zs.length cb] V fun e w' => ∃ x n c, e = .returned (.tuple #[.slice x n c, .int .i64 (Sh.openL (keyF key fr) (nats zs)).2]) ∧ Below V.heap.size V w' from by
    have hkl := keyF_len key fr
    have hkr : Sh.Rd V (.slice (some ⟨g, 0, none⟩) (keyF key fr).length 32) (some ⟨g, 0, none⟩) 32 (keyF key fr) := by
      have := Sh.Rd.block 32 hkl hg (by unfold maxLen; omega) (keyF_lt key fr)
      rw [hkl]
      exact this
    have hzr := (hb.later hV).rdN hn
    rw [← nats_len zs] at hzr
    have := Sh.open_any (some ⟨g, 0, none⟩) 32 (keyF key fr) b cb (nats zs) V (hL.later hV) hkr hzr (by rw [hkl]; decide) (by rw [nats_len]; exact hz)
    rw [hkl, nats_len] at this
    refine this.mono fun e w' ⟨⟨x, c, he, _⟩, hbl⟩ => ⟨x, _, c, he, hbl⟩))
  have HZ39 := hid Sh.Tryd.zero39
  clear hL hr hk hb hn hz
  obtain ⟨kn, hkn⟩ : ∃ n, n = key.length := ⟨_, rfl⟩
  obtain ⟨ln, hln⟩ : ∃ n, n = zs.length := ⟨_, rfl⟩
  rw [← hkn] at HKW ⊢
  rw [← hln] at HRF HOP ⊢
  clear hkn hln
  go_enter Tryd.func18, Tryd.ntmps18
  go_wp2_with (first | refine wpList_alloc_W rfl 25 rfl (some 4) rfl _ Tryd.zero25 w.heap.size rfl ?_ | fail)
  intro W1 HO1 HB1 HS1
  clear HS1
  go_wp2_with fail
  refine (HRF.out W1 HB1.out).mono ?_
  rintro _ W2 ⟨R, e', rfl, hb2, hcp⟩
  have HB2 := hid (Bn HB1.out hb2)
  have HO2 := hid (blk_later HO1.out hb2)
  have HCP : Hid (CauP 180 (w.heap.size + 1) zs W2 R e') := hcp.low (blk_lt HO1.out)
  clear hb2 hcp HRF HB1 HO1
  go_wp2_with (first | refine wpList_alloc_W rfl 25 rfl (some 6) rfl _ Tryd.zero25 W2.heap.size rfl ?_ | fail)
  intro W3 HO3 HB3 HS3
  go_wp2_with (first | refine wpList_store_W rfl 25 _ _ rfl rfl W2.heap.size R.cs.toArray rfl rfl 25 _ HO3.out Tryd.size25 rfl (all_oneCell_toArray (Fr.one _)) ?_ | fail)
  intro W4 HO4 HGR4 HS4
  have hb4 : Below W2.heap.size W2 W4 := HB3.out.trans (bel_grown HGR4.out (Nat.le_refl _) HB3.out.size)
  have HB4 := hid (Bn HB2.out hb4)
  have HO4r := hid (blk_later HO2.out hb4)
  have HCP4 : Hid (CauP 180 (w.heap.size + 1) zs W4 R e') := HCP.out.kept fun b _ h => hb4.block b h
  have HGT : Hid (w.heap.size < W2.heap.size) := blk_lt HO2.out
  clear hb4 HB3 HGR4 HS4 HS3 HO3 HCP HB2 HO2
  rcases HCP4.out with ⟨hpn, hR, he⟩ | ⟨f, fa, fc, hps, hR, he, hv, hfr⟩
  · subst he
    have HPN := hid hpn
    clear hpn hR HCP4
    go_wp2_with (first | refine wpList_store_W rfl 25 _ _ rfl rfl w.heap.size frZ.cs.toArray rfl rfl 25 _ HO4r.out Tryd.size25 rfl (all_oneCell_toArray (Fr.one _)) ?_ | fail)
    intro W5 HO5 HGR5 HS5
    go_wp2
    refine bodyPost_ret (results_row_tmp rfl _ _ w.heap.size _ rfl (load25 HO5.out)) rfl ?_
    exact ⟨frZ, 180, rfl, HB4.out.trans (bel_grown HGR5.out (Nat.le_refl _) HB4.out.size), .inl ⟨HPN.out, rfl, rfl⟩⟩
  · subst he
    have HPS := hid hps
    have HRQ := hid hR
    have HRR : Hid (R.fr = f.fr) := by rw [hR]; rfl
    have HFR : Hid (0 ≤ R.fr ∧ R.fr ≤ 1) := by rw [HRR.out]; exact may_fr (par_may hps)
    have HME : Hid (macE key f zs = (Sh.openL (keyF key R.fr) (nats zs)).2) := by show _ = _; rw [HRR.out]; rfl
    have HCK : Hid (∀ W', (∀ b, w.heap.size + 1 ≤ b → b < W4.heap.size → W'.heap[b]? = W4.heap[b]?) → Fv W' R) := fun W' hk => by
      rcases HCP4.out.kept hk with ⟨_, _, h0⟩ | ⟨_, _, _, _, _, _, hv2, _⟩
      · cases h0
      · exact hv2
    have HFS := hid hfr
    clear hps hR hv hfr HCP4
    obtain ⟨rf, hrf⟩ : ∃ x, x = R.fr := ⟨_, rfl⟩
    have c0 : W4.cell? ⟨W2.heap.size, 0, none⟩ = some (.int .i64 rf) := by rw [hrf]; exact Fr.c0 (blk_range HO4.out)
    rw [← hrf] at HFR HME
    have HKL := hid (keyF_len key rf)
    clear hrf
    go_wp2_with fail
    refine (HKW.out W4 HB4.out rf HFR.out).mono ?_
    rintro _ W5 ⟨rfl, hb5⟩
    have HB5 := hid (Bn HB4.out hb5)
    have HO5 := hid (blk_later HO4.out hb5)
    have HO5r := hid (blk_later HO4r.out hb5)
    have HS45 := hid hb5
    clear hb5 c0 HO4 HO4r HKW
    go_wp2_with (first | refine wpList_alloc_W rfl 39 rfl (some 8) rfl (Sh.arr .u8 Sh.z32) HZ39.out W5.heap.size rfl ?_ | fail)
    intro V1 HG1 HBl1 HT1
    go_wp2_with (first | refine wpList_store_W rfl 39 _ _ rfl rfl W5.heap.size (Sh.arr .u8 (keyF key rf)) rfl rfl 39 _ HG1.out (by rw [arr_size, HKL.out]; exact Sh.Tryd.size39') (by rw [arr_size, arr_size, HKL.out]; rfl) (arr_one _) ?_ | fail)
    intro W6 HG6 HGR6 HT6
    have hb6 : Below W5.heap.size W5 W6 := HBl1.out.trans (bel_grown HGR6.out (Nat.le_refl _) HBl1.out.size)
    have HB6 := hid (Bn HB5.out hb6)
    have HO6 := hid (blk_later HO5.out hb6)
    have HO6r := hid (blk_later HO5r.out hb6)
    have HS46 := hid (Bn HS45.out hb6)
    clear hb6 HG1 HBl1 HT1 HGR6 HT6 HB5 HO5 HO5r HS45
    have HOQ := hid (HOP.out W6 HB6.out W5.heap.size rf HG6.out)
    generalize W5.heap.size = gk at *
    clear HOP
    obtain ⟨E, hE0⟩ : ∃ x, x = macE key f zs := ⟨_, rfl⟩
    have HEQ := hid hE0
    rw [← HME.out, ← hE0] at HOQ
    clear hE0
    go_wp2_with fail
    refine HOQ.out.mono ?_
    rintro _ W7 ⟨x, n, c, rfl, hb7⟩
    have HB7 := hid (Bn HB6.out hb7)
    have HX7 := hid (blk_range (blk_later HO6.out hb7))
    have HO7r := hid (blk_later HO6r.out hb7)
    have HS47 := hid (Bn HS46.out hb7)
    clear hb7 HOQ HO6 HO6r HB6 HS46 HG6
    by_cases hE : E = 0
    · have HE0 : Hid (macE key f zs = 0) := HEQ.out.symm.trans hE
      clear HEQ
      subst hE
      go_wp2_with (first | refine wpList_load_g rfl 25 _ rfl W2.heap.size 0 rfl R.cs _ HX7.out Tryd.underlying25 rfl Tryd.size25 ?_ | refine wpList_store_W rfl 25 _ _ rfl rfl w.heap.size R.cs.toArray rfl rfl 25 _ HO7r.out Tryd.size25 rfl (all_oneCell_toArray (Fr.one _)) ?_ | fail)
      intro W8 HO8 HGR8 HS8
      go_wp2
      refine bodyPost_ret (results_row_tmp rfl _ _ w.heap.size _ rfl (load25 HO8.out)) rfl ?_
      have hgb := grown_but HGR8.out
      have h47 := HS47.out
      exact ⟨R, 0, rfl, HB7.out.trans (bel_grown HGR8.out (Nat.le_refl _) HB7.out.size), .inr (.inr ⟨f, fa, fc, HPS.out, HE0.out, HRQ.out, rfl, HCK.out W8 fun b h1 h2 => (hgb.same b (Nat.lt_of_lt_of_le h2 h47.size) (by omega)).trans (h47.block b h2), fun b off q => Nat.le_of_succ_le (HFS.out b off q)⟩)⟩
    · have he2 : (E != 0) = true := by simpa using hE
      have he3 : (E == 0) = false := by simpa using hE
      go_wp2_with (first | refine wpList_store_W rfl 25 _ _ rfl rfl w.heap.size frZ.cs.toArray rfl rfl 25 _ HO7r.out Tryd.size25 rfl (all_oneCell_toArray (Fr.one _)) ?_ | fail)
      intro W8 HO8 HGR8 HS8
      go_wp2
      refine bodyPost_ret (results_row_tmp rfl _ _ w.heap.size _ rfl (load25 HO8.out)) rfl ?_
      exact ⟨frZ, E, rfl, HB7.out.trans (bel_grown HGR8.out (Nat.le_refl _) HB7.out.size), .inr (.inl ⟨f, HPS.out, (by rw [← HEQ.out]; exact hE), rfl, HEQ.out⟩)⟩
end Go.Proofs.YtgnjicpmfpgdeaaDoor
namespace Go.Proofs.YtgnjicpmfpgdeaaDoor
open Go.ChangeShapes Go.WideShapes Go.ChangeAt Go.RowKit Go.Deep Go.Lib

theorem longO_B8 (x : Int) (rs : List Int) (h0 : 0 ≤ x) (h1 : x < 18446744073709551616) : longO (B8 x ++ rs) = some (x, rs) := by
  unfold longO
  have hl := B8_len x
  rw [if_pos (by rw [List.length_append]; omega), List.take_left' hl, List.drop_left' hl, N8_B8 x h0 h1]
theorem numI_vint (x : Int) (most : Nat) (rs : List Int) (h0 : 0 ≤ x) (h1 : x ≤ most) (hm : most ≤ 1073741824) : ∃ n : Nat, x = n ∧ numO most (vint x ++ rs) = some (n, rs) := by
  obtain ⟨n, rfl⟩ := Int.eq_ofNat_of_zero_le h0
  exact ⟨n, rfl, numO_vint n most rs (by omega) hm⟩
/-- What a frame that may be is, as numbers. -/
theorem may_parts {f : Fr} (h : mayF f = true) : (0 ≤ f.fr ∧ f.fr ≤ 1) ∧ (0 ≤ f.ep ∧ f.ep ≤ 1073741824) ∧ (0 ≤ f.n ∧ f.n ≤ 1073741824) ∧ (0 ≤ f.all ∧ f.all ≤ 1073741824) ∧ f.body.length ≤ 524288 := by
  unfold mayF up at h
  simp only [Bool.and_eq_true, decide_eq_true_eq] at h
  exact ⟨h.1, h.2.1, h.2.2.2.1, h.2.2.2.2.1, h.2.2.2.2.2.1⟩
theorem red_back {w : World} {f : Fr} (h : Fv w f) (hm : mayF f = true) (rs : List Int) : redF (wrF f ++ rs) = some ({ f with a := none, cap := 0 }, rs) := by
  obtain ⟨h1, h2, h3, h4, h5⟩ := may_parts hm
  have hme := wf_u64 h.me
  have hyo := wf_u64 h.yo
  have hmo := wf_u64 h.more
  unfold wrF
  simp only [List.append_assoc, List.cons_append, List.nil_append]
  rw [redF_yes]
  show red3 f.fr _ = _
  unfold red3
  obtain ⟨ep, e1, q1⟩ := numI_vint f.ep 1073741824 (B8 f.me ++ (B8 f.yo ++ (vint f.n ++ (vint f.all ++ (B8 f.more ++ (vint (f.body.length : Int) ++ (f.body ++ rs))))))) h2.1 h2.2 (by omega)
  rw [q1]
  dsimp only
  unfold red4
  rw [longO_B8 f.me _ hme.1 (by omega)]
  dsimp only
  unfold red5
  rw [longO_B8 f.yo _ hyo.1 (by omega)]
  dsimp only
  unfold red6
  obtain ⟨n, e2, q2⟩ := numI_vint f.n 1073741824 (vint f.all ++ (B8 f.more ++ (vint (f.body.length : Int) ++ (f.body ++ rs)))) h3.1 h3.2 (by omega)
  rw [q2]
  dsimp only
  unfold red7
  obtain ⟨al, e3, q3⟩ := numI_vint f.all 1073741824 (B8 f.more ++ (vint (f.body.length : Int) ++ (f.body ++ rs))) h4.1 h4.2 (by omega)
  rw [q3]
  dsimp only
  unfold red8
  rw [longO_B8 f.more _ hmo.1 (by omega)]
  dsimp only
  unfold red9
  rw [numO_vint f.body.length 524288 _ h5 (by omega)]
  dsimp only
  rw [if_pos (by rw [List.length_append]; omega), List.take_left' rfl, List.drop_left' rfl, ← e1, ← e2, ← e3]
theorem par_back {w : World} {f : Fr} (h : Fv w f) (hm : mayF f = true) (rs : List Int) (hl : rs.length = 32) : parO (wrF f ++ rs) = some { f with a := none, cap := 0 } :=
  par_yes (red_back h hm rs) hl (by rw [← hm]; rfl)
/-- The sealed bytes, as numbers. -/
def sealI (key : List Nat) (f : Fr) : List Int := wrF f ++ Sh.ints (Sh.Sha.hmac (keyF key f.fr) (nats (wrF f)))
theorem nats_ints (l : List Nat) : nats (Sh.ints l) = l := by
  induction l with
  | nil => rfl
  | cons x l ih => show (x : Int).toNat :: nats (Sh.ints l) = _; rw [ih, Int.toNat_natCast]
theorem nats_seal (key : List Nat) (f : Fr) : nats (sealI key f) = sealF key f := by
  unfold sealI sealF
  rw [show nats (wrF f ++ Sh.ints (Sh.Sha.hmac (keyF key f.fr) (nats (wrF f)))) = nats (wrF f) ++ nats (Sh.ints (Sh.Sha.hmac (keyF key f.fr) (nats (wrF f)))) from List.map_append, nats_ints]
theorem mac_back (key : List Nat) (f g : Fr) (hg : g.fr = f.fr) : macE key g (sealI key f) = 0 := by
  unfold macE
  rw [nats_seal, hg]
  unfold Sh.openL sealF
  have hl : (Sh.Sha.hmac (keyF key f.fr) (nats (wrF f))).length = 32 := Sh.Sha.hmac_length _ _
  rw [List.length_append, hl, Nat.add_sub_cancel, if_neg (by omega), List.take_left' rfl, List.drop_left' rfl, if_pos (Sh.eqB_same _ _)]
theorem par_seal {w : World} {f : Fr} (key : List Nat) (h : Fv w f) (hm : mayF f = true) : parO (sealI key f) = some { f with a := none, cap := 0 } :=
  par_back h hm _ (by rw [Sh.ints_length]; exact Sh.Sha.hmac_length _ _)
/-- What Open answers of sealed bytes: the frame. -/
theorem op_seal {w w' : World} {f R : Fr} {B : Nat} {e : Int} (key : List Nat) (h : Fv w f) (hm : mayF f = true) (ho : OpP B key (sealI key f) w' R e) : e = 0 ∧ (∃ a c, R = { f with a := a, cap := c }) ∧ Fv w' R := by
  rcases ho with ⟨h1, _⟩ | ⟨g, h1, h2, _⟩ | ⟨g, a, c, h1, _, h3, h4, h5, _⟩
  · rw [par_seal key h hm] at h1; cases h1
  · rw [par_seal key h hm] at h1
    injection h1 with h1
    exact absurd (mac_back key f g (by rw [← h1])) h2
  · rw [par_seal key h hm] at h1
    injection h1 with h1
    exact ⟨h4, ⟨a, c, by rw [h3, ← h1]⟩, h5⟩
end Go.Proofs.YtgnjicpmfpgdeaaDoor
namespace Go.Proofs.YtgnjicpmfpgdeaaDoor
open Go.ChangeShapes Go.WideShapes Go.ChangeAt Go.RowKit Go.Deep Go.Lib

theorem Ri.ofRd {w : World} {v : Value} {a : Option Addr} {cap : Nat} {l : List Nat} (h : Sh.Rd w v a cap l) : Ri w .u8 a cap (Sh.ints l) := by
  refine ⟨by rw [Sh.ints_length]; exact h.room, h.most, fun h0 => ?_, fun j => ?_⟩
  · rw [Sh.ints_length] at h0 ⊢
    obtain ⟨b, off, ha, hb, hc⟩ := h.cells h0
    exact ⟨b, off, ha, hb, fun j hj => by rw [Sh.ints_getD]; exact hc j hj⟩
  · rw [Sh.ints_getD]
    have := h.hi j
    exact wf_mk_u8 (by omega) (by omega)
theorem ints_nats {l : List Int} (h : By l) : Sh.ints (nats l) = l := by
  unfold Sh.ints nats
  rw [List.map_map]
  conv => rhs; rw [← List.map_id l]
  refine List.map_congr_left fun z hz => ?_
  show ((z.toNat : Nat) : Int) = z
  exact Int.toNat_of_nonneg (h z hz).1
theorem wrF_by {w : World} {f : Fr} (h : Fv w f) (hm : mayF f = true) : By (wrF f) := by
  obtain ⟨h1, h2, h3, h4, h5⟩ := may_parts hm
  exact wrF_u8 h1 h2 h3 h4 h5 (all_u8 h.row.fits)
theorem ints_seal {w : World} {f : Fr} (key : List Nat) (h : Fv w f) (hm : mayF f = true) : Sh.ints (sealF key f) = sealI key f := by
  unfold sealF sealI
  rw [show Sh.ints (nats (wrF f) ++ Sh.Sha.hmac (keyF key f.fr) (nats (wrF f))) = Sh.ints (nats (wrF f)) ++ Sh.ints (Sh.Sha.hmac (keyF key f.fr) (nats (wrF f))) from List.map_append, ints_nats (wrF_by h hm)]
theorem sealI_len {f : Fr} (key : List Nat) : (sealI key f).length ≤ f.body.length + 98 := by
  unfold sealI
  rw [List.length_append, Sh.ints_length, Sh.Sha.hmac_length]
  have := wrF_len f
  omega
theorem seal_len {f : Fr} (key : List Nat) : (sealF key f).length = (sealI key f).length := by rw [← nats_seal, nats_len]
abbrev keyA : List Nat := [107, 101, 121]
def F0 (a : Option Addr) (c : Nat) : Fr := ⟨1, 3, 7, 9, 2, a, c, [97, 98], 0, 0⟩
theorem f0_may (a : Option Addr) (c : Nat) : mayF (F0 a c) = true := rfl
theorem f0_fv {w : World} {a : Option Addr} {c : Nat} (h : Ri w .u8 a c [97, 98]) : Fv w (F0 a c) := ⟨rfl, rfl, rfl, rfl, rfl, h, rfl, rfl⟩
theorem conv_key (w : World) : (convert 22 22 (.slice (some ⟨w.heap.size, 0, none⟩) 3 3)).run Tryd.prog (w.alloc (.cells #[.int .u8 107, .int .u8 101, .int .u8 121] 5)) = .ok (.slice (some ⟨w.heap.size, 0, none⟩) 3 3) (w.alloc (.cells #[.int .u8 107, .int .u8 101, .int .u8 121] 5 (3, 4))) := Lib.run_convert_bytes_const w 22 5 #[.int .u8 107, .int .u8 101, .int .u8 121] 3 3 Tryd.underlying22 Tryd.underlying5
theorem conv_ab (w : World) : (convert 22 22 (.slice (some ⟨w.heap.size, 0, none⟩) 2 2)).run Tryd.prog (w.alloc (.cells #[.int .u8 97, .int .u8 98] 5)) = .ok (.slice (some ⟨w.heap.size, 0, none⟩) 2 2) (w.alloc (.cells #[.int .u8 97, .int .u8 98] 5 (2, 3))) := Lib.run_convert_bytes_const w 22 5 #[.int .u8 97, .int .u8 98] 2 2 Tryd.underlying22 Tryd.underlying5
theorem key_rd (V : World) : Sh.Rd (V.alloc (.cells #[.int .u8 107, .int .u8 101, .int .u8 121] 5 (3, 4))) (.slice (some ⟨V.heap.size, 0, none⟩) keyA.length 3) (some ⟨V.heap.size, 0, none⟩) 3 keyA := Sh.Rd.fresh V _ (3, 4) keyA 3 V.heap.size rfl rfl (by decide) rfl (by decide)
theorem ab_rd (V : World) : Sh.Rd (V.alloc (.cells #[.int .u8 97, .int .u8 98] 5 (2, 3))) (.slice (some ⟨V.heap.size, 0, none⟩) 2 2) (some ⟨V.heap.size, 0, none⟩) 2 [97, 98] := Sh.Rd.fresh V _ (2, 3) [97, 98] 2 V.heap.size rfl rfl (by decide) rfl (by decide)
theorem meet0 (a : Option Addr) (c : Nat) : meetM 9 7 2 (F0 a c) = (false, false, true, 3, true) := rfl
theorem same0 (a a' : Option Addr) (c c' : Nat) : sameF (F0 a c) (F0 a' c') = true := rfl
theorem eq43 : ∀ V, (binOp .eql 43 (.agg (mtV (false, false, true, 3, true)).toArray) (.agg #[.bool false, .bool false, .bool true, .int .i64 3, .bool true])).run Tryd.prog V = .ok (.bool true) V := fun V => by kernel_rfl
set_option maxHeartbeats 16000000 in
set_option maxRecDepth 100000 in
theorem awake_word (w : World) (hL : Sh.Laid w) : Calls Tryd.prog 17 #[] w fun e w' => e = .returned (.bool true) ∧ Below w.heap.size w w' := by
  have HL := hid hL
  have hck := conv_key
  have hca := conv_ab
  obtain ⟨X1, hX1⟩ : ∃ X, X = w.alloc (.cells #[.int .u8 97, .int .u8 98] 5 (2, 3)) := ⟨_, rfl⟩
  have HX1 := hid hX1
  have HB1 : Hid (Below w.heap.size w X1) := by show Below _ _ _; rw [hX1]; exact bel_alc w _
  have HS1 : Hid (w.heap.size + 1 = X1.heap.size) := by show _ = _; rw [hX1]; simp
  have HRI : Hid (Ri X1 .u8 (some ⟨w.heap.size, 0, none⟩) 2 [97, 98]) := by show Ri _ _ _ _ _; rw [hX1]; exact Ri.ofRd (ab_rd w)
  clear hX1 hL
  go_enter Tryd.func17, Tryd.ntmps17
  go_wp2_with (first | refine wpList_alloc_W rfl 25 rfl (some 1) rfl _ Tryd.zero25 (w.heap.size + 1) (by rw [← HX1.out]; exact HS1.out) ?_ | fail)
  rw [← HX1.out]
  intro V2 HG2 HBl2 HT2
  go_wp2_with (first | refine wpList_store_W rfl 25 _ _ rfl rfl (w.heap.size + 1) (F0 (some ⟨w.heap.size, 0, none⟩) 2).cs.toArray rfl rfl 25 _ HG2.out Tryd.size25 rfl (all_oneCell_toArray (Fr.one _)) ?_ | fail)
  intro V3 HG3 HGR3 HT3
  have hb3 : Below X1.heap.size X1 V3 := by rw [← HS1.out]; exact HBl2.out.trans (bel_grown HGR3.out (Nat.le_refl _) (by rw [HS1.out]; exact HBl2.out.size))
  have HB3 := hid (Bn HB1.out hb3)
  have HF3 := hid (f0_fv (HRI.out.later hb3))
  clear hb3 HG2 HBl2 HT2 HGR3 HT3 HRI HB1
  generalize w.heap.size + 1 = g1 at *
  obtain ⟨fa, hfa⟩ : ∃ a, a = (some ⟨w.heap.size, 0, none⟩ : Option Addr) := ⟨_, rfl⟩
  rw [← hfa] at HG3 HF3
  have HNN : Hid (fa = none → 2 = 0) := by rw [hfa]; intro h; cases h
  clear hfa HS1 HX1
  obtain ⟨X4, hX4⟩ : ∃ X, X = V3.alloc (.cells #[.int .u8 107, .int .u8 101, .int .u8 121] 5 (3, 4)) := ⟨_, rfl⟩
  have HX4 := hid hX4
  have hb4 : Below V3.heap.size V3 X4 := by rw [hX4]; exact bel_alc V3 _
  have HKB4 : Hid (Sh.Rd X4 (.slice (some ⟨V3.heap.size, 0, none⟩) keyA.length 3) (some ⟨V3.heap.size, 0, none⟩) 3 keyA) := by show Sh.Rd _ _ _ _ _; rw [hX4]; exact key_rd V3
  have HB4 := hid (Bn HB3.out hb4)
  have HG4 := hid (blk_later HG3.out hb4)
  have HF4 := hid (HF3.out.later hb4)
  have HR4 := hid (blk_range HG4.out)
  have HSE := hid (seal_word (some ⟨V3.heap.size, 0, none⟩) 3 keyA (F0 fa 2) X4 (HL.out.later HB4.out) HKB4.out (by decide) HF4.out HNN.out (.inl (by show (2 : Nat) ≤ 90000; decide)))
  have he0 : e180 (mayF (F0 fa 2)) = 0 := rfl
  rw [he0] at HSE
  clear hX4 hb4 HG3 HF3 HB3 he0 HKB4
  go_wp2_with (first | refine wpList_load_P rfl 25 _ rfl g1 0 rfl (F0 fa 2).cs _ (by rw [← HX4.out]; exact HR4.out) Tryd.underlying25 rfl Tryd.size25 ?_ | fail)
  rw [← HX4.out]
  refine HSE.out.mono ?_
  rintro _ V5 ⟨v, rfl, hb5, ⟨hno, _⟩ | ⟨_, b, c, rfl, hrd⟩⟩
  · cases hno
  have HB5 := hid (Bn HB4.out hb5)
  have HG5 := hid (blk_later HG4.out hb5)
  have HF5 := hid (HF4.out.later hb5)
  have HBN := hid hrd.nil
  have HZI : Hid (Ri V5 .u8 b c (sealI keyA (F0 fa 2))) := by show Ri _ _ _ _ _; rw [← ints_seal keyA HF5.out rfl]; exact Ri.ofRd hrd
  rw [seal_len]
  clear hb5 hrd HSE HR4 HX4 HG4 HF4 HB4
  obtain ⟨X6, hX6⟩ : ∃ X, X = V5.alloc (.cells #[.int .u8 107, .int .u8 101, .int .u8 121] 5 (3, 4)) := ⟨_, rfl⟩
  have HX6 := hid hX6
  have hb6 : Below V5.heap.size V5 X6 := by rw [hX6]; exact bel_alc V5 _
  have HKB6 : Hid (Sh.Rd X6 (.slice (some ⟨V5.heap.size, 0, none⟩) keyA.length 3) (some ⟨V5.heap.size, 0, none⟩) 3 keyA) := by show Sh.Rd _ _ _ _ _; rw [hX6]; exact key_rd V5
  have HB6 := hid (Bn HB5.out hb6)
  have HG6 := hid (blk_later HG5.out hb6)
  have HF6 := hid (HF5.out.later hb6)
  have HOP := hid (fopen_word (some ⟨V5.heap.size, 0, none⟩) 3 keyA b c (sealI keyA (F0 fa 2)) X6 (HL.out.later HB6.out) HKB6.out (by decide) (HZI.out.later hb6) HBN.out (by have h1 := sealI_len (f := F0 fa 2) keyA; have h2 : (F0 fa 2).body.length = 2 := rfl; omega))
  have HOS := hid (fun (B : Nat) (w' : World) (R : Fr) (e : Int) (h : OpP B keyA (sealI keyA (F0 fa 2)) w' R e) => op_seal keyA HF6.out rfl h)
  clear hX6 hb6 HKB6 HG5 HF5 HB5 HZI HBN
  generalize sealI keyA (F0 fa 2) = Z at *
  obtain ⟨zn, hzn⟩ : ∃ n, n = Z.length := ⟨_, rfl⟩
  rw [← hzn] at HOP ⊢
  clear hzn
  go_wp2_with fail
  rw [← HX6.out]
  refine HOP.out.mono ?_
  rintro _ V7 ⟨R, e', rfl, hb7, hop⟩
  obtain ⟨he, ⟨ra, rc, hR⟩, hv⟩ := HOS.out _ _ _ _ hop
  subst he
  have hR2 : R = F0 ra rc := hR
  subst hR2
  have HB7 := hid (Bn HB6.out hb7)
  have HG7 := hid (blk_later HG6.out hb7)
  have HF7 := hid (HF6.out.later hb7)
  have HV7 := hid hv
  clear hb7 hop hR hv HOP HOS HX6 HG6 HF6 HB6
  obtain ⟨g2, hg2⟩ : ∃ g, g = V7.heap.size := ⟨_, rfl⟩
  have HQ2 := hid hg2
  clear hg2
  go_wp2_with (first | refine wpList_alloc_W rfl 25 rfl (some 4) rfl _ Tryd.zero25 g2 HQ2.out ?_ | fail)
  intro V8 HG8 HBl8 HT8
  go_wp2_with (first | refine wpList_store_W rfl 25 _ _ rfl rfl g2 (F0 ra rc).cs.toArray rfl rfl 25 _ HG8.out Tryd.size25 rfl (all_oneCell_toArray (Fr.one _)) ?_ | fail)
  intro V9 HG9 HGR9 HT9
  have hb9 : Below V7.heap.size V7 V9 := by rw [← HQ2.out]; exact HBl8.out.trans (bel_grown HGR9.out (Nat.le_refl _) (by rw [HQ2.out]; exact HBl8.out.size))
  have HB9 := hid (Bn HB7.out hb9)
  have HG9f := hid (blk_later HG7.out hb9)
  have HF9 := hid (HF7.out.later hb9)
  have HV9 := hid (HV7.out.later hb9)
  have HR9 := hid (blk_range HG9.out)
  have HME := hid (meet_word 9 7 2 (F0 ra rc) V9)
  rw [meet0] at HME
  clear hb9 HG8 HBl8 HT8 HGR9 HT9 HQ2 HG7 HF7 HV7 HB7
  go_wp2_with (first | refine wpList_load_P rfl 25 _ rfl g2 0 rfl (F0 ra rc).cs _ HR9.out Tryd.underlying25 rfl Tryd.size25 ?_ | fail)
  refine HME.out.mono ?_
  rintro _ V10 ⟨rfl, hb10⟩
  have HB10 := hid (Bn HB9.out hb10)
  have HG10f := hid (blk_later HG9f.out hb10)
  have HG10 := hid (blk_later HG9.out hb10)
  have HF10 := hid (HF9.out.later hb10)
  have HV10 := hid (HV9.out.later hb10)
  clear hb10 HME HR9 HG9f HG9 HF9 HV9 HB9
  obtain ⟨g3, hg3⟩ : ∃ g, g = V10.heap.size := ⟨_, rfl⟩
  have HQ3 := hid hg3
  clear hg3
  go_wp2_with (first | refine wpList_alloc_W rfl 43 rfl (some 6) rfl _ Tryd.zero43 g3 HQ3.out ?_ | fail)
  intro V11 HG11 HBl11 HT11
  go_wp2_with (first | refine wpList_store_W rfl 43 _ _ rfl rfl g3 (mtV (false, false, true, 3, true)).toArray rfl rfl 43 _ HG11.out Tryd.size43 rfl (mtV_one _) ?_ | fail)
  intro V12 HG12 HGR12 HT12
  have hb12 : Below V10.heap.size V10 V12 := by rw [← HQ3.out]; exact HBl11.out.trans (bel_grown HGR12.out (Nat.le_refl _) (by rw [HQ3.out]; exact HBl11.out.size))
  have HB12 := hid (Bn HB10.out hb12)
  have HG12f := hid (blk_later HG10f.out hb12)
  have HG12g := hid (blk_later HG10.out hb12)
  have HF12 := hid (HF10.out.later hb12)
  have HV12 := hid (HV10.out.later hb12)
  have HRf := hid (blk_range HG12f.out)
  have HRg := hid (blk_range HG12g.out)
  have HSM := hid (same_word (F0 fa 2) (F0 ra rc) V12 HF12.out.row HV12.out.row)
  rw [same0] at HSM
  clear hb12 HG11 HBl11 HT11 HGR12 HT12 HQ3 HG10f HG10 HF10 HV10 HB10
  go_wp2_with (first | refine wpList_load_g rfl 25 _ rfl g1 0 rfl (F0 fa 2).cs _ HRf.out Tryd.underlying25 rfl Tryd.size25 ?_ | refine wpList_load_g rfl 25 _ rfl g2 0 rfl (F0 ra rc).cs _ HRg.out Tryd.underlying25 rfl Tryd.size25 ?_ | fail)
  refine HSM.out.mono ?_
  rintro _ V13 ⟨rfl, hb13⟩
  have HB13 := hid (Bn HB12.out hb13)
  have HRm := hid (blk_range (blk_later HG12.out hb13))
  have heq := eq43
  clear hb13 HSM HRf HRg HG12f HG12g HF12 HV12 HB12 HG12
  go_wp2_with (first | refine wpList_load_g rfl 43 _ rfl g3 0 rfl (mtV (false, false, true, 3, true)) _ HRm.out Tryd.underlying43 rfl Tryd.size43 ?_ | fail)
  go_ret
  exact ⟨rfl, HB13.out⟩
end Go.Proofs.YtgnjicpmfpgdeaaDoor
namespace Go.Proofs.YtgnjicpmfpgdeaaDoor
open Go.ChangeShapes Go.WideShapes Go.ChangeAt Go.RowKit Go.Deep Go.Lib

section
variable {H : Type} {enc : TypeId × Value → H} {W : World} {fuel : Nat} {cs : List Value} {x : DataW H × List MemPlace}
theorem frC3 : Tryd.prog.cellsOf 3 = 1 := by kernel_rfl
theorem frC5 : Tryd.prog.cellsOf 5 = 1 := by kernel_rfl
theorem frC22 : Tryd.prog.cellsOf 22 = 1 := by kernel_rfl
theorem frC23 : Tryd.prog.cellsOf 23 = 1 := by kernel_rfl
theorem frC25 : Tryd.prog.cellsOf 25 = 8 := by kernel_rfl
theorem at_one {cs : List Value} {k : Nat} {v : Value} (h : List.take 1 (List.drop k cs) = [v]) : cs[k]? = some v := by
  have := congrArg (·[0]?) h
  simpa [List.getElem?_take, List.getElem?_drop] using this
theorem mem_flat {xs : List (DataW H × List MemPlace)} {i : Nat} {y : DataW H × List MemPlace} (h : xs[i]? = some y) {q : MemPlace} (hq : q ∈ y.2) : q ∈ xs.flatMap (·.2) :=
  List.mem_flatMap.2 ⟨y, List.mem_of_getElem? h, hq⟩
set_option maxRecDepth 100000 in
theorem trod_bytes (h : DataW.trod enc Tryd.prog W 0 (fun _ => true) true fuel 22 cs = some x) (hlt : ∀ q ∈ x.2, q.block < W.heap.size) : ∃ a cap zs, cs = [.slice a (zs : List Int).length cap] ∧ Ri W .u8 a cap zs := by
  rcases open_ints Tryd.underlying22 Tryd.underlying5 frC5 h with ⟨hcs, hx⟩ | ⟨a, len, cap, zs, hcs, _, hl, hm, hz, hx, hcell, hwz⟩
  · exact ⟨none, 0, [], hcs, Nat.le_refl _, by unfold maxLen; omega, fun h => absurd h (by simp), fun j => by simp; exact wf_zero .u8⟩
  · simp only [if_true] at hz
    have hp := congrArg Prod.snd hx
    have hlen : (zs.take len).length = len := by simp; omega
    refine ⟨some a, cap, zs.take len, by rw [hlen]; exact hcs, by omega, hm, fun h0 => ?_, fun j => ?_⟩
    · rw [hlen] at h0 ⊢
      obtain ⟨b, off, spot⟩ := a
      have hspot : spot = none := by simpa [Addr.add] using World.cell?_spot (hcell 0 (by omega))
      subst hspot
      have hbW : b < W.heap.size := hlt (.cell b off) (by rw [hp]; exact MemPlace.mem_row.2 ⟨0, by omega, by simp⟩)
      refine ⟨b, off, rfl, hbW, fun j hj => ?_⟩
      rw [← add_plain, getD_take zs len j hj]
      exact hcell j (by omega)
    · by_cases hj : j < (zs.take len).length
      · have hm : (zs.take len).getD j 0 ∈ zs := by
          simp only [List.getD, List.getElem?_eq_getElem hj, Option.getD_some]
          exact List.mem_of_mem_take (List.getElem_mem hj)
        exact hwz _ hm
      · rw [getD_out _ _ (by omega)]; exact wf_zero .u8
theorem trod_frame (h : DataW.trod enc Tryd.prog W 0 (fun _ => true) true fuel 25 cs = some x) (hlt : ∀ q ∈ x.2, q.block < W.heap.size) : ∃ f : Fr, cs = f.cs ∧ Fv W f := by
  obtain ⟨xs, k, _, hx, hcl, hxl, hf⟩ := DataW.trod_struct Tryd.underlying25 h
  rw [frC25] at hcl
  have hx8 : xs.length = 8 := hxl
  have g0 : DataW.trod enc Tryd.prog W 0 (fun _ => true) true k 3 (List.take (Tryd.prog.cellsOf 3) (List.drop 0 cs)) = xs[0]? := hf 0 _ rfl
  have g1 : DataW.trod enc Tryd.prog W 0 (fun _ => true) true k 3 (List.take (Tryd.prog.cellsOf 3) (List.drop 1 cs)) = xs[1]? := hf 1 _ rfl
  have g2 : DataW.trod enc Tryd.prog W 0 (fun _ => true) true k 23 (List.take (Tryd.prog.cellsOf 23) (List.drop 2 cs)) = xs[2]? := hf 2 _ rfl
  have g3 : DataW.trod enc Tryd.prog W 0 (fun _ => true) true k 23 (List.take (Tryd.prog.cellsOf 23) (List.drop 3 cs)) = xs[3]? := hf 3 _ rfl
  have g4 : DataW.trod enc Tryd.prog W 0 (fun _ => true) true k 3 (List.take (Tryd.prog.cellsOf 3) (List.drop 4 cs)) = xs[4]? := hf 4 _ rfl
  have g5 : DataW.trod enc Tryd.prog W 0 (fun _ => true) true k 22 (List.take (Tryd.prog.cellsOf 22) (List.drop 5 cs)) = xs[5]? := hf 5 _ rfl
  have g6 : DataW.trod enc Tryd.prog W 0 (fun _ => true) true k 3 (List.take (Tryd.prog.cellsOf 3) (List.drop 6 cs)) = xs[6]? := hf 6 _ rfl
  have g7 : DataW.trod enc Tryd.prog W 0 (fun _ => true) true k 23 (List.take (Tryd.prog.cellsOf 23) (List.drop 7 cs)) = xs[7]? := hf 7 _ rfl
  have q5 : xs[5]? = some (xs[5]'(by omega)) := List.getElem?_eq_getElem (by omega)
  rw [frC3, List.getElem?_eq_getElem (by omega)] at g0 g1 g4 g6
  rw [frC23, List.getElem?_eq_getElem (by omega)] at g2 g3 g7
  rw [frC22, q5] at g5
  obtain ⟨z0, e0, _, f0⟩ := DataW.trod_int Tryd.underlying3 g0
  obtain ⟨z1, e1, _, f1⟩ := DataW.trod_int Tryd.underlying3 g1
  obtain ⟨z2, e2, _, f2⟩ := DataW.trod_int Tryd.underlying23 g2
  obtain ⟨z3, e3, _, f3⟩ := DataW.trod_int Tryd.underlying23 g3
  obtain ⟨z4, e4, _, f4⟩ := DataW.trod_int Tryd.underlying3 g4
  obtain ⟨z6, e6, _, f6⟩ := DataW.trod_int Tryd.underlying3 g6
  obtain ⟨z7, e7, _, f7⟩ := DataW.trod_int Tryd.underlying23 g7
  obtain ⟨a, cap, zs, e5, hr⟩ := trod_bytes g5 (fun q hq => hlt q (by rw [hx]; exact mem_flat q5 hq))
  refine ⟨⟨z0, z1, z2, z3, z4, a, cap, zs, z6, z7⟩, ?_, f0, f1, f2, f3, f4, hr, f6, f7⟩
  have c0 := at_one e0
  have c1 := at_one e1
  have c2 := at_one e2
  have c3 := at_one e3
  have c4 := at_one e4
  have c5 := at_one e5
  have c6 := at_one e6
  have c7 := at_one e7
  refine List.ext_getElem? fun i => ?_
  by_cases hi : i < 8
  · match i, hi with
    | 0, _ => exact c0
    | 1, _ => exact c1
    | 2, _ => exact c2
    | 3, _ => exact c3
    | 4, _ => exact c4
    | 5, _ => exact c5
    | 6, _ => exact c6
    | 7, _ => exact c7
  · rw [List.getElem?_eq_none (by omega), List.getElem?_eq_none (by show 8 ≤ i; omega)]
end
set_option maxRecDepth 100000 in
theorem open_frame {H : Type} {enc : TypeId × Value → H} {W : World} {base : Nat} {v : Value} {d : DataW H} {p : List MemPlace} (hv : Value.okWide Tryd.prog W .any base 25 v)
    (h : DataW.Trod enc Tryd.prog W 0 (fun _ => true) true 25 v d p) (hlt : ∀ x ∈ p, x.block < W.heap.size) : ∃ f : Fr, v = .agg f.cs.toArray ∧ Fv W f := by
  obtain ⟨cs, rfl, _⟩ := okWide_struct Tryd.underlying25 hv
  obtain ⟨fuel, hf⟩ := h
  obtain ⟨f, e, hr⟩ := trod_frame hf hlt
  refine ⟨f, ?_, hr⟩
  rw [← e]
  simp [Value.cells]
def laidL : List (String × DataW Unit) := [("saltern/sha.start", Rows.laid_saltern_sha_start), ("saltern/sha.constants", Rows.laid_saltern_sha_constants)]
theorem own : ownKnob Tryd.prog.godebug = none := by kernel_rfl
theorem gStart : Tryd.prog.globalNamed "saltern/sha.start" = some 0 := by kernel_rfl
theorem gConst : Tryd.prog.globalNamed "saltern/sha.constants" = some 1 := by kernel_rfl
theorem tStart : (Tryd.prog.globals[0]?).map (·.type) = some 118 := by kernel_rfl
theorem tConst : (Tryd.prog.globals[1]?).map (·.type) = some 126 := by kernel_rfl
theorem laidC117 : Tryd.prog.cellsOf 117 = 1 := by kernel_rfl
theorem laidC118 : Tryd.prog.cellsOf 118 = 8 := by kernel_rfl
theorem laidC126 : Tryd.prog.cellsOf 126 = 64 := by kernel_rfl
theorem door_met (os : Os) (args : Array Value) : laidMetH Tryd.prog laidL ((World.doorLaid Tryd.prog 400 os).forCall (fun _ _ => 0) ⟨#[], args, []⟩).memory :=
  laidMetH_of_parts3 (fuel := 8) (laidMet_of_run' 8 (by kernel_rfl) (by kernel_rfl)) (by kernel_rfl) (by kernel_rfl)
set_option maxHeartbeats 3200000 in
set_option maxRecDepth 100000 in
theorem of_laid {W : World} (h : laidMetH Tryd.prog laidL W) : Sh.Laid W := by
  rw [MakeChecks.laidMetH_plain _ _ _ (by kernel_rfl)] at h
  obtain ⟨ps, ⟨g0, t0, cs0, f0, p0, q0, hg0, ht0, hv0, hd0, ⟨g1, t1, cs1, f1, p1, q1, hg1, ht1, hv1, hd1, _, _⟩, _⟩, _, _⟩ := h
  obtain rfl := Option.some.inj (gStart.symm.trans hg0)
  obtain rfl := Option.some.inj (gConst.symm.trans hg1)
  obtain rfl := Option.some.inj (tStart.symm.trans ht0)
  obtain rfl := Option.some.inj (tConst.symm.trans ht1)
  have e0 := Lib.cells_of_tab (zs := Sh.ints Sh.Sha.start.list) Tryd.underlying118 Tryd.underlying117 laidC117 laidC118 hd0
  have e1 := Lib.cells_of_tab (zs := Sh.ints Sh.Sha.kL) Tryd.underlying126 Tryd.underlying117 laidC117 laidC126 hd1
  have c0 : ∀ i, W.cell? ⟨0, i, none⟩ = ((Sh.ints Sh.Sha.start.list).map fun z => Value.int .u32 z)[i]? := fun i => by
    have := World.var?_cell hg0 hv0 i
    rw [this, ← e0]; simp
  have c1 : ∀ i, W.cell? ⟨1, i, none⟩ = ((Sh.ints Sh.Sha.kL).map fun z => Value.int .u32 z)[i]? := fun i => by
    have := World.var?_cell hg1 hv1 i
    rw [this, ← e1]; simp
  refine ⟨fun i hi => ?_, fun i hi => ?_, ?_⟩
  · rw [c1 i]
    simp [Sh.ints, List.getD, List.getElem?_eq_getElem (show i < Sh.Sha.kL.length from hi)]
  · rw [c0 i]
    simp [Sh.ints, List.getD, List.getElem?_eq_getElem (show i < Sh.Sha.start.list.length from hi)]
  · have := World.block_lt_of_cell? W ⟨1, 0, none⟩ (c1 0)
    exact this
end Go.Proofs.YtgnjicpmfpgdeaaDoor
