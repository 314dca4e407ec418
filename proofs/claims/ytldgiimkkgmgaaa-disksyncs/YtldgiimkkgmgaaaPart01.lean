/-
  Blocks, Open, Down, Fuse and the fuse's burning; New; and what a device that nobody made, or that is down, tells.
-/
import Derived.Test.YtldgiimkkgmgaaaPart00
import Derived.Laws.AppendOwnNone
import Derived.Great.FillDense
import Derived.Deep.WholeRow
import Derived.Great.BuildSlice
import Derived.Laws.CopyOwn
import Derived.Laws.IdiomCopy
import Derived.Lib.SlBuf
import Derived.OrdersHeld
import Derived.RegionTactic
import Derived.WalkKit
namespace Go.Proofs.Ytldgiimkkgmgaaa
open Go.RowKit

/-- A device that is up: its number of blocks, what lasts, its open writes, its fuse. -/
structure Dv (W : World) (base gd gv gl gn : Nat) (v : Value) (N : Nat) (size : Int) (L : Int → List Int) (O : List (Int × List Int)) (fuse : Int) : Prop where
  dsk : Dk W gd gv
  dev : Dc W gv size (.map (some gl)) v (.map (some gn)) fuse false
  row : W.ownsRow base 83 513 v O.length (opsC O)
  lst : Ml W gl N L
  nst : Mn W gn N (lastO O)
  okL : ∀ i, Blk (L i)
  okO : ∀ x ∈ O, Blk x.2 ∧ okI x.1
  okF : -1 ≤ fuse ∧ fuse ≤ 9223372036854775807
  okS : 4 ≤ size ∧ size ≤ 4096
  bd : base ≤ gd
  bv : base ≤ gv
  bl : base ≤ gl
  bn : base ≤ gn
  ne : gl ≠ gn
theorem Ml.lt {W : World} {b n : Nat} {L : Int → List Int} (h : Ml W b n L) : b < W.heap.size := by obtain ⟨es, clock, hh⟩ := h.map; exact (Array.getElem?_eq_some_iff.1 hh).1
theorem Mn.lt {W : World} {b n : Nat} {f : Int → Option Nat} (h : Mn W b n f) : b < W.heap.size := by obtain ⟨es, clock, hh⟩ := h.map; exact (Array.getElem?_eq_some_iff.1 hh).1
theorem own_blk {W W' : World} {base e s : Nat} {v : Value} {k : Nat} {xs : List Value} (h : W.ownsRow base e s v k xs) (hk : ∀ (i : Nat) (cs : Array Value), W.heap[i]? = some (.cells cs e (0, 0)) → W'.heap[i]? = some (.cells cs e (0, 0))) : W'.ownsRow base e s v k xs := by
  rcases h with ⟨h1, h2 | ⟨gg, cp, cur, h3, h4, h5, h6⟩⟩
  · exact ⟨h1, .inl h2⟩
  · exact ⟨h1, .inr ⟨gg, cp, cur, h3, h4, hk _ _ h5, h6⟩⟩
theorem own_mono {w : World} {n n' e s : Nat} {v : Value} {k : Nat} {xs : List Value} (h : w.ownsRow n e s v k xs) (hn : n' ≤ n) : w.ownsRow n' e s v k xs := by
  rcases h with ⟨h1, h2 | ⟨gg, cp, cur, h3, h4, h5⟩⟩
  · exact ⟨h1, .inl h2⟩
  · exact ⟨h1, .inr ⟨gg, cp, cur, h3, Nat.le_trans hn h4, h5⟩⟩
/-- It is as it was where all that was there is as it was. -/
theorem Dv.later {W W' : World} {base gd gv gl gn N : Nat} {v : Value} {size : Int} {L : Int → List Int} {O : List (Int × List Int)} {fuse : Int} (h : Dv W base gd gv gl gn v N size L O fuse) (hb : ∀ i, i < W.heap.size → W'.heap[i]? = W.heap[i]?) : Dv W' base gd gv gl gn v N size L O fuse :=
  ⟨(hb gd h.dsk.lt).trans h.dsk, (hb gv h.dev.lt).trans h.dev, own_blk h.row (fun i _ hi => (hb i (Array.getElem?_eq_some_iff.1 hi).1).trans hi), h.lst.later (hb gl h.lst.lt) (Nat.le_refl _), h.nst.later (hb gn h.nst.lt) (Nat.le_refl _), h.okL, h.okO, h.okF, h.okS, h.bd, h.bv, h.bl, h.bn, h.ne⟩
theorem Dv.below {W W' : World} {base gd gv gl gn N : Nat} {v : Value} {size : Int} {L : Int → List Int} {O : List (Int × List Int)} {fuse : Int} (h : Dv W base gd gv gl gn v N size L O fuse) (hb : Below W.heap.size W W') : Dv W' base gd gv gl gn v N size L O fuse := h.later (fun i hi => hb.block i hi)
theorem Dv.size {W : World} {base gd gv gl gn N : Nat} {v : Value} {size : Int} {L : Int → List Int} {O : List (Int × List Int)} {fuse : Int} (h : Dv W base gd gv gl gn v N size L O fuse) : base ≤ W.heap.size := Nat.le_trans h.bd (Nat.le_of_lt h.dsk.lt)
/-- No block of it is another one. -/
theorem Dv.apart {W : World} {base gd gv gl gn N : Nat} {v : Value} {size : Int} {L : Int → List Int} {O : List (Int × List Int)} {fuse : Int} (h : Dv W base gd gv gl gn v N size L O fuse) : gd ≠ gv ∧ gl ≠ gd ∧ gl ≠ gv ∧ gn ≠ gd ∧ gn ≠ gv := by
  obtain ⟨e1, c1, h1⟩ := h.lst.map
  obtain ⟨e2, c2, h2⟩ := h.nst.map
  have h3 := h.dsk
  have h4 := h.dev
  unfold Dk at h3
  unfold Dc at h4
  refine ⟨?_, ?_, ?_, ?_, ?_⟩ <;> rintro rfl
  · rw [h3] at h4; simp at h4
  · rw [h1] at h3; cases h3
  · rw [h1] at h4; cases h4
  · rw [h2] at h3; cases h3
  · rw [h2] at h4; cases h4
/-- A cell of the device is set. -/
theorem dev_set {W : World} {base gd gv gl gn N : Nat} {v : Value} {size : Int} {L : Int → List Int} {O : List (Int × List Int)} {fuse : Int} (h : Dv W base gd gv gl gn v N size L O fuse) (j : Nat) (x : Value) : (∀ i, i ≠ gv → (W.setCell ⟨gv, j, none⟩ x).heap[i]? = W.heap[i]?) ∧ Fr base W (W.setCell ⟨gv, j, none⟩ x) := by
  have h1 : ∀ i, i ≠ gv → (W.setCell ⟨gv, j, none⟩ x).heap[i]? = W.heap[i]? := fun i hi => Below.heap_setCell W ⟨gv, j, none⟩ x i hi
  refine ⟨h1, (Below.refl _ _).setCell h.bv x, fun i cs t fr ht _ hi => ?_⟩
  rw [h1 i (by rintro rfl; have h2 := h.dev; unfold Dc at h2; rw [hi] at h2; injection h2 with h2; injection h2 with _ h2; exact ht h2)]
  exact hi
/-- The fuse is set. -/
theorem Dv.fuse {W : World} {base gd gv gl gn N : Nat} {v : Value} {size : Int} {L : Int → List Int} {O : List (Int × List Int)} {fuse : Int} (h : Dv W base gd gv gl gn v N size L O fuse) (f : Int) (hf : -1 ≤ f ∧ f ≤ 9223372036854775807) : Dv (W.setCell ⟨gv, 4, none⟩ (.int .i64 f)) base gd gv gl gn v N size L O f ∧ Fr base W (W.setCell ⟨gv, 4, none⟩ (.int .i64 f)) := by
  obtain ⟨n1, n2, n3, n4, n5⟩ := h.apart
  obtain ⟨h1, h2⟩ := dev_set h 4 (.int .i64 f)
  refine ⟨⟨(h1 gd n1).trans h.dsk, ?_, own_blk h.row (fun i _ hi => (h1 i (by rintro rfl; have h3 := h.dev; unfold Dc at h3; rw [hi] at h3; simp at h3)).trans hi), h.lst.later (h1 gl n3) (Nat.le_refl _), h.nst.later (h1 gn n5) (Nat.le_refl _), h.okL, h.okO, hf, h.okS, h.bd, h.bv, h.bl, h.bn, h.ne⟩, h2⟩
  unfold Dc
  rw [Joins.block_setCell h.dev _]
  simp [devC]

theorem size_ok (gd gv : Nat) (size : Int) (ml v mn : Value) (fuse : Int) (dn : Bool) (w : World) (k : Dk w gd gv) (c : Dc w gv size ml v mn fuse dn) : Calls Try.prog 21 #[.pointer (some ⟨gd, 0, none⟩)] w fun e w' => e = .returned (.int .i64 size) ∧ w' = w := by
  have HM := hid (made_ok gd gv w k)
  have c0 := k.cell
  obtain ⟨c1, _, _, _, _, _⟩ := c.cells
  clear k c
  go_enter Try.func21, Try.ntmps21
  go_wp2_with fail
  refine HM.out.mono ?_
  rintro _ w1 ⟨rfl, hw⟩
  obtain rfl := hw.symm
  clear hw HM
  go_wp2_with fail
  go_ret
  exact ⟨rfl, rfl⟩
theorem open_ok (gd gv : Nat) (size : Int) (ml : Value) (a : Option Addr) (n cp : Nat) (mn : Value) (fuse : Int) (dn : Bool) (w : World) (k : Dk w gd gv) (c : Dc w gv size ml (.slice a n cp) mn fuse dn) : Calls Try.prog 22 #[.pointer (some ⟨gd, 0, none⟩)] w fun e w' => e = .returned (.int .i64 (n : Int)) ∧ w' = w := by
  have HM := hid (made_ok gd gv w k)
  have c0 := k.cell
  obtain ⟨_, _, c1, _, _, _⟩ := c.cells
  clear k c
  go_enter Try.func22, Try.ntmps22
  go_wp2_with fail
  refine HM.out.mono ?_
  rintro _ w1 ⟨rfl, hw⟩
  obtain rfl := hw.symm
  clear hw HM
  go_wp2_with fail
  go_ret
  exact ⟨rfl, rfl⟩
theorem down_ok (gd gv : Nat) (size : Int) (ml v mn : Value) (fuse : Int) (dn : Bool) (w : World) (k : Dk w gd gv) (c : Dc w gv size ml v mn fuse dn) : Calls Try.prog 23 #[.pointer (some ⟨gd, 0, none⟩)] w fun e w' => e = .returned (.bool dn) ∧ w' = w := by
  have HM := hid (made_ok gd gv w k)
  have c0 := k.cell
  obtain ⟨_, _, _, _, _, c1⟩ := c.cells
  clear k c
  go_enter Try.func23, Try.ntmps23
  go_wp2_with fail
  refine HM.out.mono ?_
  rintro _ w1 ⟨rfl, hw⟩
  obtain rfl := hw.symm
  clear hw HM
  go_wp2_with fail
  go_ret
  exact ⟨rfl, rfl⟩
theorem size_no (p : Value) (w : World) (k : Nob w p) : Calls Try.prog 21 #[p] w fun e w' => e = .returned (.int .i64 0) ∧ w' = w := by
  have HM := hid (made_no p w k)
  clear k
  go_enter Try.func21, Try.ntmps21
  go_wp2_with fail
  refine HM.out.mono ?_
  rintro _ w1 ⟨rfl, hw⟩
  obtain rfl := hw.symm
  clear hw HM
  go_wp2_with fail
  go_ret
  exact ⟨rfl, rfl⟩
theorem open_no (p : Value) (w : World) (k : Nob w p) : Calls Try.prog 22 #[p] w fun e w' => e = .returned (.int .i64 0) ∧ w' = w := by
  have HM := hid (made_no p w k)
  clear k
  go_enter Try.func22, Try.ntmps22
  go_wp2_with fail
  refine HM.out.mono ?_
  rintro _ w1 ⟨rfl, hw⟩
  obtain rfl := hw.symm
  clear hw HM
  go_wp2_with fail
  go_ret
  exact ⟨rfl, rfl⟩
theorem down_no (p : Value) (w : World) (k : Nob w p) : Calls Try.prog 23 #[p] w fun e w' => e = .returned (.bool false) ∧ w' = w := by
  have HM := hid (made_no p w k)
  clear k
  go_enter Try.func23, Try.ntmps23
  go_wp2_with fail
  refine HM.out.mono ?_
  rintro _ w1 ⟨rfl, hw⟩
  obtain rfl := hw.symm
  clear hw HM
  go_wp2_with fail
  go_ret
  exact ⟨rfl, rfl⟩
theorem read_e (p : Value) (i : Int) (e0 : Int) (w : World) (he : e0 ≠ 0) (hu : Calls Try.prog 35 #[p] w fun e w' => e = .returned (.int .i64 e0) ∧ w' = w) : Calls Try.prog 13 #[p, .int .i64 i] w fun e w' => e = .returned (.tuple #[.slice none 0 0, .int .i64 e0]) ∧ w' = w := by
  have HM := hid (has_e p i e0 w he hu)
  clear hu
  go_enter Try.func13, Try.ntmps13
  go_wp2_with fail
  refine HM.out.mono ?_
  rintro _ w1 ⟨rfl, hw⟩
  obtain rfl := hw.symm
  clear hw HM
  go_wp2_with fail
  go_ret2
  exact ⟨rfl, rfl⟩
theorem sync_e (p : Value)  (e0 : Int) (w : World) (he : e0 ≠ 0) (hu : Calls Try.prog 35 #[p] w fun e w' => e = .returned (.int .i64 e0) ∧ w' = w) : Calls Try.prog 14 #[p] w fun e w' => e = .returned (.tuple #[.int .i64 0, .int .i64 e0]) ∧ w' = w := by
  have HM := hid (hu)
  clear hu
  go_enter Try.func14, Try.ntmps14
  go_wp2_with fail
  refine HM.out.mono ?_
  rintro _ w1 ⟨rfl, hw⟩
  obtain rfl := hw.symm
  clear hw HM
  go_wp2_with fail
  go_ret2
  exact ⟨rfl, rfl⟩
theorem write_e (p : Value) (i : Int) (b : Value) (e0 : Int) (w : World) (he : e0 ≠ 0) (hu : Calls Try.prog 35 #[p] w fun e w' => e = .returned (.int .i64 e0) ∧ w' = w) : Calls Try.prog 17 #[p, .int .i64 i, b] w fun e w' => e = .returned (.int .i64 e0) ∧ w' = w := by
  have HM := hid (has_e p i e0 w he hu)
  clear hu
  go_enter Try.func17, Try.ntmps17
  go_wp2_with fail
  refine HM.out.mono ?_
  rintro _ w1 ⟨rfl, hw⟩
  obtain rfl := hw.symm
  clear hw HM
  go_wp2_with fail
  go_ret
  exact ⟨rfl, rfl⟩
theorem lose_e (p : Value) (kp : Value) (tn at_ : Int) (e0 : Int) (w : World) (he : e0 ≠ 0) (hu : Calls Try.prog 35 #[p] w fun e w' => e = .returned (.int .i64 e0) ∧ w' = w) : Calls Try.prog 18 #[p, kp, .int .i64 tn, .int .i64 at_] w fun e w' => e = .returned (.tuple #[.pointer none, .int .i64 e0]) ∧ w' = w := by
  have HM := hid (hu)
  clear hu
  go_enter Try.func18, Try.ntmps18
  go_wp2_with fail
  refine HM.out.mono ?_
  rintro _ w1 ⟨rfl, hw⟩
  obtain rfl := hw.symm
  clear hw HM
  go_wp2_with fail
  go_ret2
  exact ⟨rfl, rfl⟩
theorem rot_e (p : Value) (i at_ m : Int) (e0 : Int) (w : World) (he : e0 ≠ 0) (hu : Calls Try.prog 35 #[p] w fun e w' => e = .returned (.int .i64 e0) ∧ w' = w) : Calls Try.prog 19 #[p, .int .i64 i, .int .i64 at_, .int .u8 m] w fun e w' => e = .returned (.int .i64 e0) ∧ w' = w := by
  have HM := hid (has_e p i e0 w he hu)
  clear hu
  go_enter Try.func19, Try.ntmps19
  go_wp2_with fail
  refine HM.out.mono ?_
  rintro _ w1 ⟨rfl, hw⟩
  obtain rfl := hw.symm
  clear hw HM
  go_wp2_with fail
  go_ret
  exact ⟨rfl, rfl⟩
theorem fuse_e (p : Value) (n : Int) (e0 : Int) (w : World) (he : e0 ≠ 0) (hu : Calls Try.prog 35 #[p] w fun e w' => e = .returned (.int .i64 e0) ∧ w' = w) : Calls Try.prog 20 #[p, .int .i64 n] w fun e w' => e = .returned (.int .i64 e0) ∧ w' = w := by
  have HM := hid (hu)
  clear hu
  go_enter Try.func20, Try.ntmps20
  go_wp2_with fail
  refine HM.out.mono ?_
  rintro _ w1 ⟨rfl, hw⟩
  obtain rfl := hw.symm
  clear hw HM
  go_wp2_with fail
  go_ret
  exact ⟨rfl, rfl⟩
theorem read_range (gd gv : Nat) (i size : Int) (ml v mn : Value) (fuse : Int) (w : World) (k : Dk w gd gv) (c : Dc w gv size ml v mn fuse false) (hi : ¬ (0 ≤ i ∧ i < size)) : Calls Try.prog 13 #[.pointer (some ⟨gd, 0, none⟩), .int .i64 i] w fun e w' => e = .returned (.tuple #[.slice none 0 0, .int .i64 5]) ∧ w' = w := by
  have HM := hid (has_ok gd gv size i ml v mn fuse w k c)
  rw [show hasE size i = 5 from if_neg hi] at HM
  clear k c
  go_enter Try.func13, Try.ntmps13
  go_wp2_with fail
  refine HM.out.mono ?_
  rintro _ w1 ⟨rfl, hw⟩
  obtain rfl := hw.symm
  clear hw HM
  go_wp2_with fail
  go_ret2
  exact ⟨rfl, rfl⟩
theorem write_range (gd gv : Nat) (i size : Int) (b ml v mn : Value) (fuse : Int) (w : World) (k : Dk w gd gv) (c : Dc w gv size ml v mn fuse false) (hi : ¬ (0 ≤ i ∧ i < size)) : Calls Try.prog 17 #[.pointer (some ⟨gd, 0, none⟩), .int .i64 i, b] w fun e w' => e = .returned (.int .i64 5) ∧ w' = w := by
  have HM := hid (has_ok gd gv size i ml v mn fuse w k c)
  rw [show hasE size i = 5 from if_neg hi] at HM
  clear k c
  go_enter Try.func17, Try.ntmps17
  go_wp2_with fail
  refine HM.out.mono ?_
  rintro _ w1 ⟨rfl, hw⟩
  obtain rfl := hw.symm
  clear hw HM
  go_wp2_with fail
  go_ret
  exact ⟨rfl, rfl⟩
theorem rot_range (gd gv : Nat) (i at_ m size : Int) (ml v mn : Value) (fuse : Int) (w : World) (k : Dk w gd gv) (c : Dc w gv size ml v mn fuse false) (hi : ¬ (0 ≤ i ∧ i < size)) : Calls Try.prog 19 #[.pointer (some ⟨gd, 0, none⟩), .int .i64 i, .int .i64 at_, .int .u8 m] w fun e w' => e = .returned (.int .i64 5) ∧ w' = w := by
  have HM := hid (has_ok gd gv size i ml v mn fuse w k c)
  rw [show hasE size i = 5 from if_neg hi] at HM
  clear k c
  go_enter Try.func19, Try.ntmps19
  go_wp2_with fail
  refine HM.out.mono ?_
  rintro _ w1 ⟨rfl, hw⟩
  obtain rfl := hw.symm
  clear hw HM
  go_wp2_with fail
  go_ret
  exact ⟨rfl, rfl⟩
/-- The fuse burns. -/
def burnE (f : Int) : Int := if f = 0 then 92 else 0
def burnF (f : Int) : Int := if 0 < f then f - 1 else f
theorem burn_ok (base gd gv gl gn N : Nat) (v : Value) (size : Int) (L : Int → List Int) (O : List (Int × List Int)) (fuse : Int) (w : World) (k : Dv w base gd gv gl gn v N size L O fuse) :
    Calls Try.prog 36 #[.pointer (some ⟨gv, 0, none⟩)] w fun e w' => e = .returned (.int .i64 (burnE fuse)) ∧ Dv w' base gd gv gl gn v N size L O (burnF fuse) ∧ Fr base w w' := by
  obtain ⟨_, _, _, _, c4, _⟩ := k.dev.cells
  have f4 := k.dev.unfrozen 4
  obtain ⟨o1, o2⟩ := k.okF
  have HK := hid k
  by_cases h0 : fuse = 0
  · subst h0
    clear k
    go_enter Try.func36, Try.ntmps36
    go_wp2_with fail
    go_ret
    exact ⟨rfl, HK.out, Fr.refl _ _⟩
  · by_cases h1 : 0 < fuse
    · have HF := hid (k.fuse (fuse - 1) ⟨by omega, by omega⟩)
      rw [show burnE fuse = 0 from if_neg h0, show burnF fuse = fuse - 1 from if_pos h1]
      clear k
      go_enter Try.func36, Try.ntmps36
      go_wp2_with fail
      go_ret
      exact ⟨rfl, HF.out.1, HF.out.2⟩
    · rw [show burnE fuse = 0 from if_neg h0, show burnF fuse = fuse from if_neg h1]
      clear k
      go_enter Try.func36, Try.ntmps36
      go_wp2_with fail
      go_ret
      exact ⟨rfl, HK.out, Fr.refl _ _⟩
theorem fuse_ok (base gd gv gl gn N : Nat) (v : Value) (size : Int) (L : Int → List Int) (O : List (Int × List Int)) (fuse n : Int) (w : World) (k : Dv w base gd gv gl gn v N size L O fuse) (hn : okI n) :
    Calls Try.prog 20 #[.pointer (some ⟨gd, 0, none⟩), .int .i64 n] w fun e w' => e = .returned (.int .i64 0) ∧ Dv w' base gd gv gl gn v N size L O (max n (-1)) ∧ Fr base w w' := by
  have HM := hid (up_ok gd gv size _ v _ fuse w k.dsk k.dev)
  have c0 := k.dsk.cell
  obtain ⟨_, _, _, _, c4, _⟩ := k.dev.cells
  have f4 := k.dev.unfrozen 4
  have hw := wf_i64 hn
  have HF := hid (k.fuse (max n (-1)) ⟨by omega, by omega⟩)
  clear k
  go_enter Try.func20, Try.ntmps20
  go_wp2_with fail
  refine HM.out.mono ?_
  rintro _ w1 ⟨rfl, hw⟩
  obtain rfl := hw.symm
  clear hw HM
  go_wp2_with fail
  go_ret
  exact ⟨rfl, HF.out.1, HF.out.2⟩
end Go.Proofs.Ytldgiimkkgmgaaa
/-
  New makes a device of blocks of zeros.
-/
namespace Go.Proofs.Ytldgiimkkgmgaaa
open Go.RowKit

def BegPost (size : Int) (gl : Nat) (w : World) (e : Ending) (w' : World) : Prop :=
  ∃ gv gn, w.heap.size ≤ gv ∧ w.heap.size ≤ gn ∧ e = .returned (.pointer (some ⟨gv, 0, none⟩)) ∧ Dc w' gv size (.map (some gl)) (.slice none 0 0) (.map (some gn)) (-1) false ∧ Mn w' gn 0 (fun _ => none) ∧ Below w.heap.size w w'
theorem begin_ok (size : Int) (gl : Nat) (w : World) : Calls Try.prog 24 #[.int .i64 size, .map (some gl)] w (BegPost size gl w) := by
  unfold BegPost
  have hmm := @run_makeMap Try.prog
  have HN := hid (Mn.new w)
  have HB := hid (bel_alloc w (.map #[] 0))
  go_enter Try.func24, Try.ntmps24
  go_wp2_with fail
  have HA := hid (bel_alloc (w.alloc (.map #[] 0)) (.cells (devC size (.map (some gl)) (.slice none 0 0) (.map (some w.heap.size)) (-1) false) 79))
  have HD := hid (heap_new (w.alloc (.map #[] 0)) (.cells (devC size (.map (some gl)) (.slice none 0 0) (.map (some w.heap.size)) (-1) false) 79))
  go_ret
  have HD2 := HD.out
  rw [World.size_alloc] at HD2
  exact ⟨w.heap.size + 1, _, Nat.le_succ _, Nat.le_refl _, rfl, HD2, HN.out.later (HA.out.block _ HN.out.lt) (Nat.le_refl _), Bn HB.out HA.out⟩
theorem new_no (n : Int) (w : World) (h : ¬ (4 ≤ n ∧ n ≤ 4096)) : Calls Try.prog 8 #[.int .i64 n] w fun e w' => e = .returned (.tuple #[.pointer none, .int .i64 90]) ∧ w' = w := by
  by_cases h1 : n < 4
  · go_enter Try.func8, Try.ntmps8
    go_wp2_with fail
    go_ret2
    exact ⟨rfl, rfl⟩
  · have h2 : 4096 < n := by omega
    go_enter Try.func8, Try.ntmps8
    go_wp2_with fail
    go_ret2
    exact ⟨rfl, rfl⟩
def NewPost (n : Int) (w : World) (e : Ending) (w' : World) : Prop :=
  ∃ gd gv gl gn, e = .returned (.tuple #[.pointer (some ⟨gd, 0, none⟩), .int .i64 0]) ∧ Dv w' w.heap.size gd gv gl gn (.slice none 0 0) 0 n (fun _ => z512) [] (-1) ∧ Below w.heap.size w w'
theorem new_ok (n : Int) (w : World) (h : 4 ≤ n ∧ n ≤ 4096) : Calls Try.prog 8 #[.int .i64 n] w (NewPost n w) := by
  unfold NewPost
  obtain ⟨h1, h2⟩ := h
  have h3 : ¬ n < 4 := by omega
  have h4 : ¬ 4096 < n := by omega
  have hmm := @run_makeMap Try.prog
  have HN := hid (Ml.new w)
  have HB := hid (bel_alloc w (.map #[] 0))
  have HG := hid (begin_ok n w.heap.size (w.alloc (.map #[] 0)))
  unfold BegPost at HG
  go_enter Try.func8, Try.ntmps8
  go_wp2_with fail
  refine HG.out.mono ?_
  rintro _ w1 ⟨gv, gn, hgv, hgn, rfl, hdc, hmn, hb⟩
  have HL := hid (HN.out.later (hb.block _ HN.out.lt) (Nat.le_refl _))
  have HB1 := hid (Bn HB.out hb)
  have hs := HB.out.size
  have HA := hid (bel_alloc w1 (.cells #[.pointer (some ⟨gv, 0, none⟩)] 52))
  have HD : Hid (Dv (w1.alloc (.cells #[.pointer (some ⟨gv, 0, none⟩)] 52)) w.heap.size w1.heap.size gv w.heap.size gn (.slice none 0 0) 0 n (fun _ => z512) [] (-1)) :=
    ⟨heap_new _ _, (HA.out.block gv hdc.lt).trans hdc, ⟨rfl, .inl ⟨rfl, rfl⟩⟩, HL.out.later (HA.out.block _ HL.out.lt) (Nat.le_refl _), hmn.later (HA.out.block _ hmn.lt) (Nat.le_refl _), fun _ => blk_z, (fun _ hx => by cases hx), ⟨by omega, by omega⟩, ⟨h1, h2⟩, HB1.out.size, Nat.le_trans hs hgv, Nat.le_refl _, Nat.le_trans hs hgn, fun e => by have := HN.out.lt; omega⟩
  clear hdc hmn hb HG HN HL hgv hgn hs
  go_wp2_with fail
  go_ret2
  exact ⟨_, _, _, _, rfl, HD.out, Bn HB1.out HA.out⟩
end Go.Proofs.Ytldgiimkkgmgaaa
/-
  What a block holds: device.holds and Read.
-/
namespace Go.Proofs.Ytldgiimkkgmgaaa
open Go.RowKit

theorem open_at {W : World} {base : Nat} {v : Value} {O : List (Int × List Int)} (h : W.ownsRow base 83 513 v O.length (opsC O)) (hO : ∀ x ∈ O, Blk x.2) (h0 : 0 < O.length) : ∃ g cap, v = .slice (some ⟨g, 0, none⟩) O.length cap ∧ O.length ≤ cap ∧ cap ≤ maxLen ∧ base ≤ g ∧ g < W.heap.size ∧ ∀ k, k < O.length → W.rangeAt g (k * 513) (opC (O.getD k (0, []))) ∧ W.there g (k * 513) 513 := by
  obtain ⟨hl, hn | ⟨g, cap, cur, rfl, hb, hg, hnc, hcm, hcur, htk⟩⟩ := id h
  · omega
  · refine ⟨g, cap, rfl, hnc, hcm, hb, (Array.getElem?_eq_some_iff.1 hg).1, fun k hk => ⟨fun j u hu => ?_, fun j hj => ?_⟩⟩
    · have hm : O.getD k (0, []) ∈ O := by
        simp only [List.getD, List.getElem?_eq_getElem hk, Option.getD_some]
        exact List.getElem_mem hk
      have hj : j < 513 := by have := (List.getElem?_eq_some_iff.1 hu).1; rw [opC_len (hO _ hm)] at this; exact this
      rw [Joins.cell_of_block hg (k * 513 + j), ← hu, ← opsC_at O hO k j hk hj, ← htk, List.getElem?_take_of_lt (by omega), Array.getElem?_toList]
    · refine ⟨?_, Joins.unfrozen_of_block hg _⟩
      rw [Joins.cell_of_block hg (k * 513 + j), Array.getElem?_eq_getElem (by rw [hcur]; have := Nat.mul_le_mul_right 513 hnc; omega)]
      rfl
theorem range_bytes {W : World} {g o : Nat} {x : Int × List Int} (h : W.rangeAt g o (opC x)) : W.rangeAt g (o + 1) (bytesV x.2) := fun j u hu => by
  have := h (j + 1) u (by rw [opC, List.getElem?_cons_succ]; exact hu)
  rw [show o + 1 + j = o + (j + 1) from by omega]
  exact this
theorem range_head {W : World} {g o : Nat} {x : Int × List Int} (h : W.rangeAt g o (opC x)) : W.cell? ⟨g, o, none⟩ = some (.int .i64 x.1) := h 0 _ rfl
theorem blk_all (b : List Int) : (bytesV b).toArray.all (·.oneCell') = true := all_oneCell_toArray (bytesV_one b)

set_option maxHeartbeats 1600000 in
set_option maxRecDepth 100000 in
theorem holds_ok (base gd gv gl gn N : Nat) (v : Value) (size : Int) (L : Int → List Int) (O : List (Int × List Int)) (fuse i : Int) (w : World) (k : Dv w base gd gv gl gn v N size L O fuse) (hi : okI i) :
    Calls Try.prog 34 #[.pointer (some ⟨gv, 0, none⟩), .int .i64 i] w fun e w' => e = .returned (blkV (holdF L O i)) ∧ Below w.heap.size w w' := by
  have hz : ∀ w, (zeroValue 73).run Try.prog w = .ok (.agg (bytesV z512).toArray) w := Try.zero73
  have hzl : (bytesV z512).toArray.size = 512 := by rw [List.size_toArray, bytesV_len]; exact blk_z.len
  generalize (bytesV z512).toArray = Z at hz hzl
  have kA := k.below (bel_alloc w (.cells Z 73))
  obtain ⟨_, c1, c2, c3, _, _⟩ := kA.dev.cells
  have hlk := kA.nst.look hi
  have hfl := holdF_last L i O.length O rfl
  have hblk := holdF_blk k.okL (fun x hx => (k.okO x hx).1) i
  have HE := hid (heap_new w (.cells Z 73))
  have HB := hid (bel_alloc w (.cells Z 73))
  cases hl : lastO O i with
  | none =>
    rw [hl] at hfl hlk
    dsimp only at hfl
    have hll := kA.lst.look hi
    rw [← hfl] at hll
    generalize holdF L O i = b at *
    have hbl : (bytesV b).toArray.size = 512 := by rw [List.size_toArray, bytesV_len]; exact hblk.len
    have hba := blk_all b
    unfold blkV at hll ⊢
    generalize (bytesV b).toArray = X at *
    have HF := hid (heap_new w (.cells X 73))
    have HB2 := hid (bel_alloc w (.cells X 73))
    have HRW := hid (World.setRow_alloc_new w Z X 73)
    clear k kA hfl hblk
    go_enter Try.func34, Try.ntmps34
    go_wp2_with (refine wpList_store_rowTo rfl 73 _ _ rfl rfl w.heap.size X rfl rfl 73 Z HE.out (by rw [hbl]; exact Try.size73) (by rw [hzl, hbl]) hba ?_)
    rw [HRW.out]
    refine bodyPost_ret (results_cell_row (ty := 73) rfl _ _ w.heap.size 73 X (0, 0) _ rfl HF.out Try.underlying73 rfl (by rw [hbl]; exact Try.size73)) rfl ?_
    exact ⟨rfl, HB2.out⟩
  | some q =>
    rw [hl] at hfl hlk
    dsimp only at hfl
    obtain ⟨hq, hfl⟩ := hfl
    obtain ⟨g, cap, rfl, hc1, hc2, _, _, hat⟩ := open_at kA.row (fun x hx => (kA.okO x hx).1) (by omega)
    have hrg := range_bytes (hat q hq).1
    rw [← hfl] at hrg
    generalize holdF L O i = b at *
    have hbl : (bytesV b).toArray.size = 512 := by rw [List.size_toArray, bytesV_len]; exact hblk.len
    have hba := blk_all b
    have hbl2 : (bytesV b).length = 512 := by rw [bytesV_len]; exact hblk.len
    unfold blkV
    generalize bytesV b = X at *
    have HF := hid (heap_new w (.cells X.toArray 73))
    have HB2 := hid (bel_alloc w (.cells X.toArray 73))
    have HRW := hid (World.setRow_alloc_new w Z X.toArray 73)
    have hqz : (q : Int) < (O.length : Int) := by omega
    generalize O.length = n at *
    clear k kA hfl hblk hat
    go_enter Try.func34, Try.ntmps34
    go_wp2_with (first
      | refine wpList_load_mid rfl 73 _ rfl g (q * 513 + 1) rfl X _ hrg Try.underlying73 rfl (by rw [hbl2]; exact Try.size73) ?_
      | refine wpList_store_rowTo rfl 73 _ _ rfl rfl w.heap.size X.toArray rfl rfl 73 Z HE.out (by rw [hbl]; exact Try.size73) (by rw [hzl, hbl]) hba ?_)
    rw [HRW.out]
    refine bodyPost_ret (results_cell_row (ty := 73) rfl _ _ w.heap.size 73 X.toArray (0, 0) _ rfl HF.out Try.underlying73 rfl (by rw [hbl]; exact Try.size73)) rfl ?_
    exact ⟨rfl, HB2.out⟩
end Go.Proofs.Ytldgiimkkgmgaaa
/-
  Read tells what a block holds, in a row of its own.
-/
namespace Go.Proofs.Ytldgiimkkgmgaaa
open Go.RowKit

theorem wf_of {b : List Int} (h : ∀ z ∈ b, 0 ≤ z ∧ z ≤ 255) (j : Nat) : (Lit.int .u8 (b.getD j 0)).wf = true := by
  by_cases hj : j < b.length
  · have hm : b.getD j 0 ∈ b := by
      simp only [List.getD, List.getElem?_eq_getElem hj, Option.getD_some]
      exact List.getElem_mem hj
    exact wf_mk_u8 (h _ hm).1 (h _ hm).2
  · rw [getD_out _ _ (by omega)]; exact wf_zero _
/-- A block's array reads as its bytes. -/
theorem ri_arr {W : World} {g : Nat} {b : List Int} {t : TypeId} {fr : Nat × Nat} (h : W.heap[g]? = some (.cells (bytesV b).toArray t fr)) (hb : Blk b) : Ri W .u8 (some ⟨g, 0, none⟩) 512 b := by
  refine ⟨by rw [hb.len]; omega, by unfold maxLen; omega, fun _ => ⟨g, 0, rfl, (Array.getElem?_eq_some_iff.1 h).1, fun j hj => ?_⟩, wf_of hb.fits⟩
  rw [Nat.zero_add, Joins.cell_of_block h j, List.getElem?_toArray, bytesV, List.getElem?_map, List.getElem?_eq_getElem hj]
  simp [List.getD, List.getElem?_eq_getElem hj]
def ReaPost (b : List Int) (w : World) (e : Ending) (w' : World) : Prop :=
  ∃ g, e = .returned (.tuple #[.slice (some ⟨g, 0, none⟩) 512 512, .int .i64 0]) ∧ w'.heap[g]? = some (.cells (bytesV b).toArray 73 (0, 0)) ∧ w.heap.size ≤ g ∧ Below w.heap.size w w'
set_option maxHeartbeats 1600000 in
set_option maxRecDepth 100000 in
theorem read_ok (base gd gv gl gn N : Nat) (v : Value) (size : Int) (L : Int → List Int) (O : List (Int × List Int)) (fuse i : Int) (w : World) (k : Dv w base gd gv gl gn v N size L O fuse) (hi : 0 ≤ i ∧ i < size) :
    Calls Try.prog 13 #[.pointer (some ⟨gd, 0, none⟩), .int .i64 i] w (ReaPost (holdF L O i) w) := by
  unfold ReaPost
  have hs := k.okS
  have HM := hid (has_ok gd gv size i _ v _ fuse w k.dsk k.dev)
  rw [show hasE size i = 0 from if_pos hi] at HM
  have HH := hid (holds_ok base gd gv gl gn N v size L O fuse i w k (wf_mk_i64 (by omega) (by omega)))
  have c0 := k.dsk.cell
  have hblk := holdF_blk k.okL (fun x hx => (k.okO x hx).1) i
  have hz : ∀ w, (zeroValue 73).run Try.prog w = .ok (.agg (bytesV z512).toArray) w := Try.zero73
  have hzl : (bytesV z512).toArray.size = 512 := by rw [List.size_toArray, bytesV_len]; exact blk_z.len
  generalize (bytesV z512).toArray = Z at hz hzl
  generalize holdF L O i = b at *
  have hbl : (bytesV b).toArray.size = 512 := by rw [List.size_toArray, bytesV_len]; exact hblk.len
  have hba := blk_all b
  unfold blkV at HH
  generalize (bytesV b).toArray = X at *
  clear k hblk hs
  go_enter Try.func13, Try.ntmps13
  go_wp2_with fail
  refine HM.out.mono ?_
  rintro _ w1 ⟨rfl, hw⟩
  obtain rfl := hw.symm
  clear hw HM
  go_wp2_with fail
  refine HH.out.mono ?_
  rintro _ w2 ⟨rfl, hb⟩
  have HB := hid hb
  have HE := hid (heap_new w2 (.cells Z 73))
  have HF := hid (heap_new w2 (.cells X 73))
  have HB2 := hid (bel_alloc w2 (.cells X 73))
  have HRW := hid (World.setRow_alloc_new w2 Z X 73)
  clear hb HH c0
  go_wp2_with (refine wpList_store_rowTo rfl 73 _ _ rfl rfl w2.heap.size X rfl rfl 73 Z HE.out (by rw [hbl]; exact Try.size73) (by rw [hzl, hbl]) hba ?_)
  rw [HRW.out]
  go_ret2
  exact ⟨_, rfl, HF.out, HB.out.size, Bn HB.out HB2.out⟩
end Go.Proofs.Ytldgiimkkgmgaaa
/-
  Bytes copied over a row; a block's whole bytes; a write built.
-/
namespace Go.Proofs.Ytldgiimkkgmgaaa
open Go.RowKit

/-- Bytes, and zeros behind them. -/
def wholeL (b : List Int) : List Int := b ++ List.replicate (512 - b.length) 0
theorem whole_blk {b : List Int} (hl : b.length ≤ 512) (hf : ∀ z ∈ b, 0 ≤ z ∧ z ≤ 255) : Blk (wholeL b) := by
  refine ⟨by simp [wholeL]; omega, fun z hz => ?_⟩
  rcases List.mem_append.1 hz with h | h
  · exact hf z h
  · rw [List.eq_of_mem_replicate h]; omega
theorem fits_of {kd : World} {a : Option Addr} {cap : Nat} {zs : List Int} (h : Ri kd .u8 a cap zs) : ∀ z ∈ zs, 0 ≤ z ∧ z ≤ 255 := fun z hz => by
  obtain ⟨j, hj, rfl⟩ := List.mem_iff_getElem.1 hz
  have := wf_u8 (h.fits j)
  rwa [List.getD, List.getElem?_eq_getElem hj] at this
theorem Try.size5 : (Try.prog.info? 5).map (·.size) = some 1 := by kernel_rfl
/-- A row of bytes is copied to a place of a block. -/
theorem copy_to {w : World} {g o n dc : Nat} {cur : Array Value} {t : TypeId} (hg : w.heap[g]? = some (.cells cur t (0, 0))) {a : Option Addr} {cap : Nat} {ys : List Int} (hr : Ri w .u8 a cap ys) (hfit : o + min ys.length n ≤ cur.size) (ty : TypeId) :
    (Builtin.copy_ #[33, 33] ty #[.slice (some ⟨g, o, none⟩) n dc, .slice a ys.length cap]).run Try.prog w = .ok (.int .i64 ((min ys.length n : Nat) : Int)) (w.setRow g (cur.toList.take o ++ bytesV (ys.take n) ++ cur.toList.drop (o + min ys.length n)).toArray) := by
  have hlt : (ys.take n).length = min ys.length n := by rw [List.length_take, Nat.min_comm]
  by_cases h0 : min ys.length n = 0
  · have hc := run_copy_none (P := Try.prog) w 33 33 ty 5 (some ⟨g, o, none⟩) a n dc ys.length cap Try.underlying33 Try.size5 h0
    have hn : ys.take n = [] := List.length_eq_zero_iff.1 (hlt.trans h0)
    rw [hc, h0, hn, Nat.add_zero]
    have e : (cur.toList.take o ++ bytesV [] ++ cur.toList.drop o).toArray = cur := by
      rw [show bytesV [] = [] from rfl, List.append_nil, List.take_append_drop]
    rw [e, setRow_self w g cur t (0, 0) hg]
    rfl
  · obtain ⟨b', off', rfl, _, hc⟩ := hr.cells (by omega)
    have hsrc : ∀ (j : Nat) (v : Value), (bytesV (ys.take n))[j]? = some v → w.cell? (Addr.add ⟨b', off', none⟩ j) = some v := by
      intro j v hv
      have hj : j < (ys.take n).length := by have := (List.getElem?_eq_some_iff.1 hv).1; rwa [bytesV_len] at this
      have hj2 : j < ys.length := by omega
      rw [Go.WideShapes.add_plain, hc j hj2, ← hv, bytesV, List.getElem?_map, List.getElem?_take_of_lt (by omega), List.getElem?_eq_getElem hj2]
      simp [List.getD, List.getElem?_eq_getElem hj2]
    have hrun := run_copy_row (P := Try.prog) w 33 33 ty 5 g o n dc ⟨b', off', none⟩ ys.length cap cur t (bytesV (ys.take n)) Try.underlying33 Try.size5 hg (by rw [bytesV_len, hlt]) hsrc (by rw [bytesV_len, hlt]; exact hfit) (bytesV_one _)
    rw [bytesV_len, hlt] at hrun
    exact hrun
theorem Try.zeros83 : (Try.prog.info? 83).map (fun i => (i.zero, i.size)) = some (some (.agg (opC (0, z512)).toArray), 513) := by kernel_rfl
theorem Try.zero83 (w : World) : (zeroValue 83).run Try.prog w = .ok (.agg (opC (0, z512)).toArray) w := by
  have h := Try.zeros83
  cases hi : Try.prog.info? 83 with
  | none => rw [hi] at h; cases h
  | some i =>
    rw [hi] at h
    simp only [Option.map_some, Option.some.injEq, Prod.mk.injEq] at h
    simp [zeroValue, typeInfo, hi, h.1]
theorem build_op (i : Int) (w : World) : (Instr.build 83 #[(0, .int .i64 i)]).run Try.prog w = .ok (.agg (opC (i, z512)).toArray) w := by
  have hz := Try.zero83
  generalize z512 = R at hz
  unfold Instr.build
  simp only [Sem.run_bind, hz, run_underlying Try.underlying83, Result.andThen_ok, Value.cells]
  have hm : ∀ (w : World), (Array.mapM (m := Sem) (fun (f : Field) => do
              let s ← sizeOf f.type
              pure (f.offset, s))
            #[{ name := "i", type := 3, offset := 0, embedded := false, tag := "", pkgPath := "saltern/disk",
                byteOffset := 0 },
              { name := "b", type := 73, offset := 1, embedded := false, tag := "", pkgPath := "saltern/disk",
                byteOffset := 8 }]).run Try.prog w = .ok #[(0, 1), (1, 512)] w := fun w => by kernel_rfl
  rw [hm]
  simp [Instr.fill, Value.cells, opC, go_sem]
/-- A struct built out of one part that is known. -/
theorem wpList_build_one {P : Program} {ops : Array Oper} {rest : List Oper} {o : Oper} {a : Act} {w : World} {Q : Exit → Act → World → Prop} (hg : o.guard = none) (t : TypeId) (x0 : Operand) (ho : o.op = .build t #[(0, x0)])
    (v0 v : Value) (h0 : a.eval x0 = v0) (hr : (Instr.build t #[(0, v0)]).run P w = .ok v w) (h : wpList P ops Q rest (a.put o.dst v) w) : wpList P ops Q (o :: rest) a w :=
  wpList_plain hg fun _ hK => by
    unfold Oper.wp execOp
    simp only [ho, List.map_toArray, List.map_cons, List.map_nil, h0, Sem.run_bind, hr, Result.andThen_ok]
    exact hK _ _ h
/-- A slice of one write. -/
theorem slice_op (X : List Value) (hX : X.length = 513) (w : World) : (Instr.buildSlice 76 1 #[(0, .agg X.toArray)]).run Try.prog w = .ok (.slice (some ⟨w.heap.size, 0, none⟩) 1 1) (w.alloc (.cells X.toArray 83)) := by
  have h := Try.zeros83
  cases hi : Try.prog.info? 83 with
  | none => rw [hi] at h; cases h
  | some ie =>
    rw [hi] at h
    simp only [Option.map_some, Option.some.injEq, Prod.mk.injEq] at h
    refine run_buildSlice w 76 83 1 _ X.toArray ie _ Try.underlying76 hi h.1 (by rw [h.2]; decide) (by rw [h.2]; decide) ?_
    rw [h.2]
    have := Great.fill_whole (s := 513) (by decide) [.agg X.toArray] ((Array.range (1 * 513)).map ((Value.agg (opC (0, z512)).toArray).cells[· % (Value.agg (opC (0, z512)).toArray).cells.size]!)) (fun v hv => by rw [List.mem_singleton] at hv; subst hv; simpa [Value.cells] using hX) (by simp)
    rw [show ((([Value.agg X.toArray] : List Value).zipIdx 0).map fun x => (x.2, x.1)) = [(0, Value.agg X.toArray)] from rfl] at this
    show Instr.fill _ _ [(0, Value.agg X.toArray)] = _
    rw [this]
    simp [Value.cells]
end Go.Proofs.Ytldgiimkkgmgaaa
/-
  Steps through a region that draws its order, in the order of the text: what yields in every world that meets S is taken first, its slot named.
-/
namespace Go.Proofs.Ytldgiimkkgmgaaa.Ord
section
variable {P : Program} {md : Region.Mode} {ops : Array Oper} {Q : Exit → Act → World → Prop} {S : World → Prop}

theorem take {i d : Nat} {oi : Oper} {v : Value} {fuel : Nat} {listed : Array Bool} {ts : Array Value} {df : List Deferred} {w : World} (hi : ops[i]? = some oi) (hd : oi.dst = some d)
    (hs : Region.noSelect ops = true) (hf : Region.free md ops listed i = true) (hr : (Region.ready md ops listed).contains i = true)
    (hQ : ∀ c a w, Q (.panic c) (a.put oi.dst v) w → Q (.panic c) a w) (hw : Region.wanted oi (yielded ops ts) = true)
    (hy : ∀ w, S w → (execOp (Act.eval ⟨ts, df⟩) oi).run P w = .ok (.value v) w) (hS : S w)
    (h : wpAnyH P md ops Q S fuel (listed.setIfInBounds i true) ⟨ts.setIfInBounds d v, df⟩ w) : wpAnyH P md ops Q S (fuel + 1) listed ⟨ts, df⟩ w :=
  wpAnyH_take hi hs hf hr hQ (Or.inl ⟨hw, hy⟩) hS (by rw [hd]; exact h)

theorem put {d : Nat} {o : Oper} (hd : o.dst = some d) {fuel : Nat} {listed : Array Bool} {ts : Array Value} {df : List Deferred} {v : Value} {w : World}
    (h : wpAnyH P md ops Q S fuel listed ⟨ts.setIfInBounds d v, df⟩ w) : wpAnyH P md ops Q S fuel listed (Act.put ⟨ts, df⟩ o.dst v) w := by
  rw [hd]; exact h

theorem skip {i d : Nat} {oi : Oper} {fuel : Nat} {listed : Array Bool} {ts : Array Value} {df : List Deferred} {w : World} (hi : ops[i]? = some oi) (hd : oi.dst = some d)
    (hs : Region.noSelect ops = true) (hf : Region.free md ops listed i = true) (hr : (Region.ready md ops listed).contains i = true)
    (hQ : ∀ c a w, Q (.panic c) (a.put oi.dst undef) w → Q (.panic c) a w) (hw : Region.wanted oi (yielded ops ts) = false) (hS : S w)
    (h : wpAnyH P md ops Q S fuel (listed.setIfInBounds i true) ⟨ts.setIfInBounds d undef, df⟩ w) : wpAnyH P md ops Q S (fuel + 1) listed ⟨ts, df⟩ w :=
  wpAnyH_take hi hs hf hr hQ (Or.inr ⟨hw, rfl⟩) hS (by rw [hd]; exact h)

/-- S may be exchanged for a stronger one. -/
theorem more {S' : World → Prop} (hS : ∀ w, S' w → S w) : ∀ (fuel : Nat) (listed : Array Bool) (a : Act) (w : World), wpAnyH P md ops Q S' fuel listed a w → wpAnyH P md ops Q S fuel listed a w
  | 0, _, _, _, h => h
  | fuel + 1, _, _, _, h => ⟨h.1, fun i hi => wpOp_mono (fun a' w' h' => ⟨hS _ h'.1, more hS fuel _ a' w' h'.2⟩) (h.2 i hi)⟩
end
end Go.Proofs.Ytldgiimkkgmgaaa.Ord
