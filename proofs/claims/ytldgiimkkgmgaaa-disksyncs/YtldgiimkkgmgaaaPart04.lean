/-
  How many bytes of an open write outlive a loss: kept.
-/
import Derived.Test.YtldgiimkkgmgaaaPart03
namespace Go.Proofs.Ytldgiimkkgmgaaa
open Go.RowKit

structure Bls (w : World) (a : Option Addr) (cap : Nat) (L : List Bool) : Prop where
  room : L.length ≤ cap
  most : cap ≤ maxLen
  cells : 0 < L.length → ∃ b off, a = some ⟨b, off, none⟩ ∧ b < w.heap.size ∧ ∀ j, j < L.length → w.cell? ⟨b, off + j, none⟩ = some (.bool (L.getD j false))
theorem Bls.later {w w' : World} {a : Option Addr} {cap : Nat} {L : List Bool} (h : Bls w a cap L) (hb : Below w.heap.size w w') : Bls w' a cap L := by
  refine ⟨h.room, h.most, fun h0 => ?_⟩
  obtain ⟨b, off, ha, hbw, hc⟩ := h.cells h0
  exact ⟨b, off, ha, Nat.lt_of_lt_of_le hbw hb.size, fun j hj => (hb.cell (p := ⟨b, off + j, none⟩) hbw).trans (hc j hj)⟩
/-- A row of bools that disk's calls leave as it is. -/
def Kx (base : Nat) (w : World) (a : Option Addr) (cap : Nat) (K : List Bool) : Prop := ∀ W, Fr base w W → Bls W a cap K
theorem Kx.later {base : Nat} {w w' : World} {a : Option Addr} {cap : Nat} {K : List Bool} (h : Kx base w a cap K) (hf : Fr base w w') : Kx base w' a cap K := fun W hW => h W (hf.trans hW)
theorem Kx.low {base : Nat} {w0 w : World} {a : Option Addr} {cap : Nat} {K : List Bool} (hr : Bls w0 a cap K) (hb : w0.heap.size = base) (hw : Below base w0 w) : Kx base w a cap K := fun W hW => hr.later (by rw [hb]; exact hw.trans hW.bel)
theorem Kx.nil (base : Nat) (w : World) : Kx base w none 0 [] := fun _ _ => ⟨Nat.le_refl _, by unfold maxLen; omega, fun h => absurd h (Nat.lt_irrefl _)⟩
def keptN (k : Nat) (K : List Bool) (torn at_ : Int) : Nat := if (k : Int) = torn then at_.toNat % 513 else if K.getD k false = true then 512 else 0
theorem kept_le (k : Nat) (K : List Bool) (torn at_ : Int) : keptN k K torn at_ ≤ 512 := by
  unfold keptN
  split
  · have := Nat.mod_lt at_.toNat (show 0 < 513 by decide); omega
  · split <;> omega
set_option maxHeartbeats 6400000 in
set_option maxRecDepth 100000 in
theorem kept_ok (k : Nat) (a : Option Addr) (cap : Nat) (K : List Bool) (torn at_ : Int) (w : World) (hk : Bls w a cap K) (hkb : k ≤ 1000000) (ha : okI at_) :
    Calls Try.prog 40 #[.int .i64 (k : Int), .slice a K.length cap, .int .i64 torn, .int .i64 at_] w fun e w' => e = .returned (.int .i64 (keptN k K torn at_ : Int)) ∧ w' = w := by
  have hw := wf_i64 ha
  by_cases h1 : (k : Int) = torn
  · rw [show keptN k K torn at_ = at_.toNat % 513 from if_pos h1]
    have e1 : ((k : Int) == torn) = true := by simpa using h1
    clear hk h1
    generalize K.length = n at *
    have e2 : max at_ 0 % 513 = ((at_.toNat % 513 : Nat) : Int) := by omega
    have HE := hid e2
    clear e2
    go_enter Try.func40, Try.ntmps40
    go_wp2_with fail
    go_ret
    refine ⟨?_, rfl⟩
    show Ending.returned (.int .i64 (max at_ 0 % 513)) = _
    rw [HE.out]
  · have e1 : ((k : Int) == torn) = false := by simpa using h1
    by_cases h2 : k < K.length
    · obtain ⟨b, off, rfl, hbw, hc⟩ := hk.cells (by omega)
      have c := hc k h2
      have hz1 : (k : Int) < (K.length : Int) := by omega
      have hz2 : (0 : Int) ≤ (k : Int) := by omega
      cases hb : K.getD k false
      · rw [show keptN k K torn at_ = 0 from by unfold keptN; rw [if_neg h1, hb]; rfl]
        rw [hb] at c
        clear hk h1 hc
        generalize K.length = n at *
        go_enter Try.func40, Try.ntmps40
        go_wp2_with fail
        go_ret
        exact ⟨rfl, rfl⟩
      · rw [show keptN k K torn at_ = 512 from by unfold keptN; rw [if_neg h1, hb]; rfl]
        rw [hb] at c
        clear hk h1 hc
        generalize K.length = n at *
        go_enter Try.func40, Try.ntmps40
        go_wp2_with fail
        go_ret
        exact ⟨rfl, rfl⟩
    · rw [show keptN k K torn at_ = 0 from by unfold keptN; rw [if_neg h1, show K.getD k false = false from by simp [List.getD, List.getElem?_eq_none (show K.length ≤ k by omega)]]; rfl]
      have hz1 : ¬ (k : Int) < (K.length : Int) := by omega
      clear hk h1
      generalize K.length = n at *
      go_enter Try.func40, Try.ntmps40
      go_wp2_with fail
      go_ret
      exact ⟨rfl, rfl⟩
end Go.Proofs.Ytldgiimkkgmgaaa
/-
  Lose: the device behind a loss of power, and the elder one, which is down.
-/
namespace Go.Proofs.Ytldgiimkkgmgaaa
open Go.RowKit

/-- What lasts behind the loss, when the first q open writes were gone through. -/
def loseF (L : Int → List Int) (O : List (Int × List Int)) (K : List Bool) (torn at_ : Int) : Nat → Int → List Int
  | 0 => L
  | q + 1 => setI (loseF L O K torn at_ q) (O.getD q (0, [])).1 (tearL (keptN q K torn at_) (O.getD q (0, [])).2 (loseF L O K torn at_ q (O.getD q (0, [])).1))
theorem lose_blk {L : Int → List Int} {O : List (Int × List Int)} {K : List Bool} {torn at_ : Int} (hL : ∀ i, Blk (L i)) (hO : ∀ x ∈ O, Blk x.2) : ∀ q, q ≤ O.length → ∀ i, Blk (loseF L O K torn at_ q i)
  | 0, _, i => hL i
  | q + 1, h, i => by
    have ih := lose_blk hL hO q (by omega) (K := K) (torn := torn) (at_ := at_)
    unfold loseF setI
    split
    · exact tear_blk (kept_le _ _ _ _) (hO _ (getD_mem (by omega))) (ih _)
    · exact ih i
/-- A device that is down. -/
def Dn (W : World) (gd gv : Nat) (size : Int) : Prop := Dk W gd gv ∧ Dc W gv size (.map none) (.slice none 0 0) (.map none) 0 true
structure LoI (w wr : World) (base gd gv gl gv2 gn2 N q : Nat) (size : Int) (v mn : Value) (fuse : Int) (L : Int → List Int) (O : List (Int × List Int)) : Prop where
  dk : Dk wr gd gv
  dc : Dc wr gv size (.map (some gl)) v mn fuse false
  row : wr.ownsRow base 83 513 v O.length (opsC O)
  dc2 : Dc wr gv2 size (.map (some gl)) (.slice none 0 0) (.map (some gn2)) (-1) false
  ml : Ml wr gl (N + q) L
  mn2 : Mn wr gn2 0 (fun _ => none)
  okL : ∀ i, Blk (L i)
  ne : gl ≠ gn2
  fr : Fr base w wr
theorem LoI.step {w wr W : World} {base gd gv gl gv2 gn2 N q : Nat} {size : Int} {v mn : Value} {fuse : Int} {L L' : Int → List Int} {O : List (Int × List Int)} (h : LoI w wr base gd gv gl gv2 gn2 N q size v mn fuse L O) (hb : But1 gl wr W) (hm : Ml W gl (N + q + 1) L') (hL : ∀ i, Blk (L' i)) (h1 : base ≤ gl) (h2 : base ≤ wr.heap.size) : LoI w W base gd gv gl gv2 gn2 N (q + 1) size v mn fuse L' O :=
  ⟨hb.cells h.ml.map h.dk, hb.cells h.ml.map h.dc, own_blk h.row (fun _ _ hi => hb.cells h.ml.map hi), hb.cells h.ml.map h.dc2, hm, h.mn2.later (hb.same gn2 h.mn2.lt (Ne.symm h.ne)) (Nat.le_refl _), hL, h.ne, h.fr.trans (hb.fr h.ml.map h1 h2)⟩
def LosPost (base gd gv gl N : Nat) (size : Int) (L : Int → List Int) (O : List (Int × List Int)) (K : List Bool) (torn at_ : Int) (w : World) (e : Ending) (w' : World) : Prop :=
  ∃ gd2 gv2 gn2, e = .returned (.tuple #[.pointer (some ⟨gd2, 0, none⟩), .int .i64 0]) ∧ Dv w' base gd2 gv2 gl gn2 (.slice none 0 0) (N + O.length) size (loseF L O K torn at_ O.length) [] (-1) ∧ Dn w' gd gv size ∧ Fr base w w'
set_option maxHeartbeats 6400000 in
set_option maxRecDepth 100000 in
theorem lose_ok (base gd gv gl gn N : Nat) (v : Value) (size : Int) (L : Int → List Int) (O : List (Int × List Int)) (fuse : Int) (a : Option Addr) (cap : Nat) (K : List Bool) (torn at_ : Int) (w : World) (k : Dv w base gd gv gl gn v N size L O fuse) (hK : Kx base w a cap K) (ha : okI at_) (hN : N + O.length + 1 ≤ 1000000) :
    Calls Try.prog 18 #[.pointer (some ⟨gd, 0, none⟩), .slice a K.length cap, .int .i64 torn, .int .i64 at_] w (LosPost base gd gv gl N size L O K torn at_ w) := by
  unfold LosPost
  obtain ⟨av, cv, rfl⟩ := own_slice k.row
  have HM := hid (up_ok gd gv size _ _ _ fuse w k.dsk k.dev)
  have HK := hid k
  have HX := hid hK
  have HA := hid ha
  have HLB := hid (fun q hq => lose_blk (K := K) (torn := torn) (at_ := at_) k.okL (fun x hx => (k.okO x hx).1) q hq)
  obtain ⟨n, hn⟩ : ∃ n, n = O.length := ⟨_, rfl⟩
  have HN := hid hn
  rw [← hn] at hN HK HLB ⊢
  clear k hn hK ha
  obtain ⟨nk, hnk⟩ : ∃ n, n = K.length := ⟨_, rfl⟩
  have HNK := hid hnk
  rw [← hnk]
  clear hnk
  go_enter Try.func18, Try.ntmps18
  go_wp2_with fail
  refine HM.out.mono ?_
  rintro _ w1 ⟨rfl, hw⟩
  obtain rfl := hw.symm
  clear hw HM
  go_wp2_with fail
  have hS : Dk w.drew gd gv ∧ Dc w.drew gv size (.map (some gl)) (.slice av n cv) (.map (some gn)) fuse false := ⟨HK.out.dsk, HK.out.dev⟩
  refine wp_region_held_drew (S := fun W => Dk W gd gv ∧ Dc W gv size (.map (some gl)) (.slice av n cv) (.map (some gn)) fuse false) (by kernel_rfl) hS (fun hS0 => ?_)
  have HKD : Hid (Dv w.drew base gd gv gl gn (.slice av n cv) N size L O fuse) := HK.out.later (fun _ _ => rfl)
  have HFD : Hid (Fr base w w.drew) := (Fr.refl _ _).drew
  clear hS HK
  generalize w.drew = v0 at *
  refine Ord.take (i := 0) (d := 18) (v := ?va0) rfl rfl (by as_aux_lemma => kernel_rfl) (by as_aux_lemma => kernel_rfl) (by as_aux_lemma => kernel_rfl) (fun _ _ _ h => h) (by rfl) ?ha0 (by assumption) ?_
  case ha0 => intro w hSw; go_simp; try with_reducible rfl
  simp only [List.setIfInBounds_toArray, List.set_cons_zero, List.set_cons_succ]
  refine Ord.take (i := 1) (d := 19) (v := ?va1) rfl rfl (by as_aux_lemma => kernel_rfl) (by as_aux_lemma => kernel_rfl) (by as_aux_lemma => kernel_rfl) (fun _ _ _ h => h) (by rfl) ?ha1 (by assumption) ?_
  case ha1 => intro w hSw; go_simp; try with_reducible rfl
  simp only [List.setIfInBounds_toArray, List.set_cons_zero, List.set_cons_succ]
  refine Ord.take (i := 2) (d := 20) (v := ?va2) rfl rfl (by as_aux_lemma => kernel_rfl) (by as_aux_lemma => kernel_rfl) (by as_aux_lemma => kernel_rfl) (fun _ _ _ h => h) (by rfl) ?ha2 (by assumption) ?_
  case ha2 => intro w hSw; go_simp; try with_reducible rfl
  simp only [List.setIfInBounds_toArray, List.set_cons_zero, List.set_cons_succ]
  refine Ord.take (i := 3) (d := 21) (v := .pointer (some ⟨gv, 0, none⟩)) rfl rfl (by as_aux_lemma => kernel_rfl) (by as_aux_lemma => kernel_rfl) (by as_aux_lemma => kernel_rfl) (fun _ _ _ h => h) (by rfl) ?ha3 (by assumption) ?_
  case ha3 => intro w hSw; have q := hSw.1.cell; obtain ⟨q0, q1, q2, q3, q4, q5⟩ := hSw.2.cells; go_simp; try with_reducible rfl
  simp only [List.setIfInBounds_toArray, List.set_cons_zero, List.set_cons_succ]
  refine Ord.take (i := 4) (d := 22) (v := ?va4) rfl rfl (by as_aux_lemma => kernel_rfl) (by as_aux_lemma => kernel_rfl) (by as_aux_lemma => kernel_rfl) (fun _ _ _ h => h) (by rfl) ?ha4 (by assumption) ?_
  case ha4 => intro w hSw; go_simp; try with_reducible rfl
  simp only [List.setIfInBounds_toArray, List.set_cons_zero, List.set_cons_succ]
  refine Ord.take (i := 5) (d := 23) (v := ?va5) rfl rfl (by as_aux_lemma => kernel_rfl) (by as_aux_lemma => kernel_rfl) (by as_aux_lemma => kernel_rfl) (fun _ _ _ h => h) (by rfl) ?ha5 (by assumption) ?_
  case ha5 => intro w hSw; go_simp; try with_reducible rfl
  simp only [List.setIfInBounds_toArray, List.set_cons_zero, List.set_cons_succ]
  refine Ord.take (i := 6) (d := 24) (v := .int .i64 size) rfl rfl (by as_aux_lemma => kernel_rfl) (by as_aux_lemma => kernel_rfl) (by as_aux_lemma => kernel_rfl) (fun _ _ _ h => h) (by rfl) ?ha6 (by assumption) ?_
  case ha6 => intro w hSw; have q := hSw.1.cell; obtain ⟨q0, q1, q2, q3, q4, q5⟩ := hSw.2.cells; go_simp; try with_reducible rfl
  simp only [List.setIfInBounds_toArray, List.set_cons_zero, List.set_cons_succ]
  refine Ord.take (i := 7) (d := 25) (v := ?va7) rfl rfl (by as_aux_lemma => kernel_rfl) (by as_aux_lemma => kernel_rfl) (by as_aux_lemma => kernel_rfl) (fun _ _ _ h => h) (by rfl) ?ha7 (by assumption) ?_
  case ha7 => intro w hSw; go_simp; try with_reducible rfl
  simp only [List.setIfInBounds_toArray, List.set_cons_zero, List.set_cons_succ]
  refine Ord.take (i := 8) (d := 26) (v := ?va8) rfl rfl (by as_aux_lemma => kernel_rfl) (by as_aux_lemma => kernel_rfl) (by as_aux_lemma => kernel_rfl) (fun _ _ _ h => h) (by rfl) ?ha8 (by assumption) ?_
  case ha8 => intro w hSw; go_simp; try with_reducible rfl
  simp only [List.setIfInBounds_toArray, List.set_cons_zero, List.set_cons_succ]
  refine Ord.take (i := 9) (d := 27) (v := ?va9) rfl rfl (by as_aux_lemma => kernel_rfl) (by as_aux_lemma => kernel_rfl) (by as_aux_lemma => kernel_rfl) (fun _ _ _ h => h) (by rfl) ?ha9 (by assumption) ?_
  case ha9 => intro w hSw; go_simp; try with_reducible rfl
  simp only [List.setIfInBounds_toArray, List.set_cons_zero, List.set_cons_succ]
  refine Ord.take (i := 10) (d := 28) (v := .pointer (some ⟨gv, 0, none⟩)) rfl rfl (by as_aux_lemma => kernel_rfl) (by as_aux_lemma => kernel_rfl) (by as_aux_lemma => kernel_rfl) (fun _ _ _ h => h) (by rfl) ?ha10 (by assumption) ?_
  case ha10 => intro w hSw; have q := hSw.1.cell; obtain ⟨q0, q1, q2, q3, q4, q5⟩ := hSw.2.cells; go_simp; try with_reducible rfl
  simp only [List.setIfInBounds_toArray, List.set_cons_zero, List.set_cons_succ]
  refine Ord.take (i := 11) (d := 29) (v := ?va11) rfl rfl (by as_aux_lemma => kernel_rfl) (by as_aux_lemma => kernel_rfl) (by as_aux_lemma => kernel_rfl) (fun _ _ _ h => h) (by rfl) ?ha11 (by assumption) ?_
  case ha11 => intro w hSw; go_simp; try with_reducible rfl
  simp only [List.setIfInBounds_toArray, List.set_cons_zero, List.set_cons_succ]
  refine Ord.take (i := 12) (d := 30) (v := ?va12) rfl rfl (by as_aux_lemma => kernel_rfl) (by as_aux_lemma => kernel_rfl) (by as_aux_lemma => kernel_rfl) (fun _ _ _ h => h) (by rfl) ?ha12 (by assumption) ?_
  case ha12 => intro w hSw; go_simp; try with_reducible rfl
  simp only [List.setIfInBounds_toArray, List.set_cons_zero, List.set_cons_succ]
  refine Ord.take (i := 13) (d := 31) (v := .map (some gl)) rfl rfl (by as_aux_lemma => kernel_rfl) (by as_aux_lemma => kernel_rfl) (by as_aux_lemma => kernel_rfl) (fun _ _ _ h => h) (by rfl) ?ha13 (by assumption) ?_
  case ha13 => intro w hSw; have q := hSw.1.cell; obtain ⟨q0, q1, q2, q3, q4, q5⟩ := hSw.2.cells; go_simp; try with_reducible rfl
  simp only [List.setIfInBounds_toArray, List.set_cons_zero, List.set_cons_succ]
  refine wpAnyH_ready (rs := [14]) (by as_aux_lemma => kernel_rfl) (by simp) (AllReadyH.cons rfl (fun KK hK => ?_) AllReadyH.nil)
  go_simp
  refine (begin_ok size gl v0).mono ?_
  rintro _ v1 ⟨gv2, gn2, hgv2, hgn2, rfl, hdc2, hmn2, hb1⟩
  have hS1 : Dk v1 gd gv ∧ Dc v1 gv size (.map (some gl)) (.slice av n cv) (.map (some gn)) fuse false := ⟨(hb1.block gd hS0.1.lt).trans hS0.1, (hb1.block gv hS0.2.lt).trans hS0.2⟩
  refine hK.out _ _ hS1 (fun _ => ?_)
  clear hK
  have HLO : Hid (LoI w v1 base gd gv gl gv2 gn2 N 0 size (.slice av n cv) (.map (some gn)) fuse L O) := by
    have h1 := HKD.out.below hb1
    exact ⟨h1.dsk, h1.dev, h1.row, hdc2, h1.lst, hmn2, h1.okL, fun e => by have := HKD.out.lst.lt; omega, HFD.out.trans (Fr.of_below hb1 HKD.out.size)⟩
  have HSZ := hid (Nat.le_trans HKD.out.size hb1.size)
  have HG2 : Hid (base ≤ gv2 ∧ base ≤ gn2 ∧ gv2 ≠ gv) := ⟨Nat.le_trans HKD.out.size hgv2, Nat.le_trans HKD.out.size hgn2, fun e => by have := HKD.out.dev.lt; omega⟩
  clear hdc2 hmn2 hb1 hgv2 hgn2 hS0
  try simp only [List.setIfInBounds_toArray, List.set_cons_zero, List.set_cons_succ]
  refine Ord.take (i := 15) (d := 11) (v := ?va15) rfl rfl (by as_aux_lemma => kernel_rfl) (by as_aux_lemma => kernel_rfl) (by as_aux_lemma => kernel_rfl) (fun _ _ _ h => h) (by rfl) ?ha15 (by assumption) ?_
  case ha15 => intro w hSw; go_simp; try with_reducible rfl
  simp only [List.setIfInBounds_toArray, List.set_cons_zero, List.set_cons_succ]
  refine wpAnyH_done (by as_aux_lemma => kernel_rfl) ?_ _
  have HBL := hid HKD.out.bl
  have HBV := hid HKD.out.bv
  have HBD := hid HKD.out.bd
  have HOS := hid HKD.out.okS
  have HOO := hid HKD.out.okO
  have c0 := hS1.1.cell
  obtain ⟨_, _, c2, _, _, _⟩ := hS1.2.cells
  clear hS1 HKD HFD
  go_wp2_with fail
  go_loopw [41] (fun i wr => ∃ q : Nat, i = .int .i64 (q : Int) ∧ q ≤ n ∧ Hid (LoI w wr base gd gv gl gv2 gn2 N q size (.slice av n cv) (.map (some gn)) fuse (loseF L O K torn at_ q) O) ∧ Hid (base ≤ wr.heap.size)) (fun i _ => n - (intOf i).toNat)
  case atStart => exact ⟨0, rfl, Nat.zero_le _, HLO.out, HSZ.out⟩
  case round =>
    obtain ⟨q, rfl, hq, HLI, HSR⟩ := hrel
    clear c0 c2 HLO HSZ
    by_cases hlt : q < n
    · have hki : (q : Int) < (n : Int) := by omega
      obtain ⟨g, cap2, e, hc1, hc2, _, _, hat⟩ := open_at (W := wr) (O := O) HLI.out.row (fun x hx => (HOO.out x hx).1) (by rw [← HN.out]; omega)
      rw [← HN.out] at e hc1
      cases e
      have hrg := (hat q (by rw [← HN.out]; exact hlt)).1
      have hok := HOO.out _ (getD_mem (O := O) (k := q) (by rw [← HN.out]; exact hlt))
      have hol := opC_len hok.1
      have HKP : Hid (∀ W, Fr base w W → Calls Try.prog 40 #[.int .i64 (q : Int), .slice a nk cap, .int .i64 torn, .int .i64 at_] W fun e w' => e = .returned (.int .i64 (keptN q K torn at_ : Int)) ∧ w' = W) := fun W hW => by
        have h1 := kept_ok q a cap K torn at_ W (HX.out W hW) (by omega) HA.out
        rw [← HNK.out] at h1
        exact h1
      have HDO : Hid (∀ W, Dc W gv2 size (.map (some gl)) (.slice none 0 0) (.map (some gn2)) (-1) false → Ml W gl (N + q) (loseF L O K torn at_ q) → Calls Try.prog 39 #[.pointer (some ⟨gv2, 0, none⟩), .agg (opC (O.getD q (0, []))).toArray, .int .i64 (keptN q K torn at_ : Int)] W (DoPost gl (N + q) (loseF L O K torn at_ q) (O.getD q (0, [])) (keptN q K torn at_) W)) := fun W h1 h2 => do_ok gv2 gl (N + q) size _ _ (-1) false _ _ _ W h1 h2 hok.2 hok.1 HLI.out.okL (kept_le _ _ _ _) (by omega)
      unfold DoPost at HDO
      have HBL1 := hid (HLB.out (q + 1) hlt)
      have HLS : Hid (∀ (x : Int × List Int), x = O.getD q (0, []) → setI (loseF L O K torn at_ q) x.1 (tearL (keptN q K torn at_) x.2 (loseF L O K torn at_ q x.1)) = loseF L O K torn at_ (q + 1)) := fun x hx => by rw [hx]; rfl
      rw [HLS.out _ rfl] at HDO
      generalize opC (O.getD q (0, [])) = X at *
      generalize keptN q K torn at_ = kn at *
      have hsz : (Try.prog.info? 83).map (·.size) = some X.length := by rw [hol]; exact Try.size83
      clear hat hok HLS
      go_wp2_with fail
      have hS : Dk wr.drew gd gv ∧ Dc wr.drew gv size (.map (some gl)) (.slice (some ⟨g, 0, none⟩) n cv) (.map (some gn)) fuse false ∧ wr.drew.rangeAt g (q * 513) X := ⟨HLI.out.dk, HLI.out.dc, by simpa using hrg⟩
      refine wp_region_held_drew (S := fun W => Dk W gd gv ∧ Dc W gv size (.map (some gl)) (.slice (some ⟨g, 0, none⟩) n cv) (.map (some gn)) fuse false ∧ W.rangeAt g (q * 513) X) (by kernel_rfl) hS (fun hS0 => ?_)
      have HLD : Hid (LoI w wr.drew base gd gv gl gv2 gn2 N q size (.slice (some ⟨g, 0, none⟩) n cv) (.map (some gn)) fuse (loseF L O K torn at_ q) O) := ⟨HLI.out.dk, HLI.out.dc, HLI.out.row, HLI.out.dc2, HLI.out.ml, HLI.out.mn2, HLI.out.okL, HLI.out.ne, HLI.out.fr.drew⟩
      have HSD : Hid (base ≤ wr.drew.heap.size) := HSR.out
      clear hS HLI HSR hrg
      generalize wr.drew = v2 at *
      refine Ord.take (i := 0) (d := 44) (v := ?vb0) rfl rfl (by as_aux_lemma => kernel_rfl) (by as_aux_lemma => kernel_rfl) (by as_aux_lemma => kernel_rfl) (fun _ _ _ h => h) (by rfl) ?hb0 (by assumption) ?_
      case hb0 => intro w hSw; go_simp; try with_reducible rfl
      simp only [List.setIfInBounds_toArray, List.set_cons_zero, List.set_cons_succ]
      refine Ord.take (i := 1) (d := 45) (v := ?vb1) rfl rfl (by as_aux_lemma => kernel_rfl) (by as_aux_lemma => kernel_rfl) (by as_aux_lemma => kernel_rfl) (fun _ _ _ h => h) (by rfl) ?hb1 (by assumption) ?_
      case hb1 => intro w hSw; go_simp; try with_reducible rfl
      simp only [List.setIfInBounds_toArray, List.set_cons_zero, List.set_cons_succ]
      refine Ord.take (i := 2) (d := 46) (v := ?vb2) rfl rfl (by as_aux_lemma => kernel_rfl) (by as_aux_lemma => kernel_rfl) (by as_aux_lemma => kernel_rfl) (fun _ _ _ h => h) (by rfl) ?hb2 (by assumption) ?_
      case hb2 => intro w hSw; go_simp; try with_reducible rfl
      simp only [List.setIfInBounds_toArray, List.set_cons_zero, List.set_cons_succ]
      refine Ord.take (i := 3) (d := 47) (v := ?vb3) rfl rfl (by as_aux_lemma => kernel_rfl) (by as_aux_lemma => kernel_rfl) (by as_aux_lemma => kernel_rfl) (fun _ _ _ h => h) (by rfl) ?hb3 (by assumption) ?_
      case hb3 => intro w hSw; go_simp; try with_reducible rfl
      simp only [List.setIfInBounds_toArray, List.set_cons_zero, List.set_cons_succ]
      refine Ord.take (i := 4) (d := 48) (v := .pointer (some ⟨gv, 0, none⟩)) rfl rfl (by as_aux_lemma => kernel_rfl) (by as_aux_lemma => kernel_rfl) (by as_aux_lemma => kernel_rfl) (fun _ _ _ h => h) (by rfl) ?hb4 (by assumption) ?_
      case hb4 => intro w hSw; have q9 := hSw.1.cell; obtain ⟨q0, q1, q2, q3, q4, q5⟩ := hSw.2.1.cells; go_simp; try with_reducible rfl
      simp only [List.setIfInBounds_toArray, List.set_cons_zero, List.set_cons_succ]
      refine Ord.take (i := 5) (d := 49) (v := ?vb5) rfl rfl (by as_aux_lemma => kernel_rfl) (by as_aux_lemma => kernel_rfl) (by as_aux_lemma => kernel_rfl) (fun _ _ _ h => h) (by rfl) ?hb5 (by assumption) ?_
      case hb5 => intro w hSw; go_simp; try with_reducible rfl
      simp only [List.setIfInBounds_toArray, List.set_cons_zero, List.set_cons_succ]
      refine Ord.take (i := 6) (d := 50) (v := ?vb6) rfl rfl (by as_aux_lemma => kernel_rfl) (by as_aux_lemma => kernel_rfl) (by as_aux_lemma => kernel_rfl) (fun _ _ _ h => h) (by rfl) ?hb6 (by assumption) ?_
      case hb6 => intro w hSw; go_simp; try with_reducible rfl
      simp only [List.setIfInBounds_toArray, List.set_cons_zero, List.set_cons_succ]
      refine Ord.take (i := 7) (d := 51) (v := .slice (some ⟨g, 0, none⟩) n cv) rfl rfl (by as_aux_lemma => kernel_rfl) (by as_aux_lemma => kernel_rfl) (by as_aux_lemma => kernel_rfl) (fun _ _ _ h => h) (by rfl) ?hb7 (by assumption) ?_
      case hb7 => intro w hSw; have q9 := hSw.1.cell; obtain ⟨q0, q1, q2, q3, q4, q5⟩ := hSw.2.1.cells; go_simp; try with_reducible rfl
      simp only [List.setIfInBounds_toArray, List.set_cons_zero, List.set_cons_succ]
      refine Ord.take (i := 8) (d := 52) (v := ?vb8) rfl rfl (by as_aux_lemma => kernel_rfl) (by as_aux_lemma => kernel_rfl) (by as_aux_lemma => kernel_rfl) (fun _ _ _ h => h) (by rfl) ?hb8 (by assumption) ?_
      case hb8 => intro w hSw; go_simp; try with_reducible rfl
      simp only [List.setIfInBounds_toArray, List.set_cons_zero, List.set_cons_succ]
      refine Ord.take (i := 9) (d := 53) (v := .pointer (some ⟨g, q * 513, none⟩)) rfl rfl (by as_aux_lemma => kernel_rfl) (by as_aux_lemma => kernel_rfl) (by as_aux_lemma => kernel_rfl) (fun _ _ _ h => h) (by rfl) ?hb9 (by assumption) ?_
      case hb9 => intro w hSw; go_simp; try with_reducible rfl
      simp only [List.setIfInBounds_toArray, List.set_cons_zero, List.set_cons_succ]
      refine Ord.take (i := 10) (d := 54) (v := .agg X.toArray) rfl rfl (by as_aux_lemma => kernel_rfl) (by as_aux_lemma => kernel_rfl) (by as_aux_lemma => kernel_rfl) (fun _ _ _ h => h) (by rfl) ?hb10 (by assumption) ?_
      case hb10 => intro w hSw; have ql := run_loadVar_mid (P := Try.prog) w g (q * 513) 83 X _ hSw.2.2 Try.underlying83 rfl hsz; exact exec_load 83 (.tmp 53) rfl g (q * 513) rfl ql
      simp only [List.setIfInBounds_toArray, List.set_cons_zero, List.set_cons_succ]
      refine Ord.take (i := 11) (d := 55) (v := ?vb11) rfl rfl (by as_aux_lemma => kernel_rfl) (by as_aux_lemma => kernel_rfl) (by as_aux_lemma => kernel_rfl) (fun _ _ _ h => h) (by rfl) ?hb11 (by assumption) ?_
      case hb11 => intro w hSw; go_simp; try with_reducible rfl
      simp only [List.setIfInBounds_toArray, List.set_cons_zero, List.set_cons_succ]
      refine Ord.take (i := 12) (d := 56) (v := ?vb12) rfl rfl (by as_aux_lemma => kernel_rfl) (by as_aux_lemma => kernel_rfl) (by as_aux_lemma => kernel_rfl) (fun _ _ _ h => h) (by rfl) ?hb12 (by assumption) ?_
      case hb12 => intro w hSw; go_simp; try with_reducible rfl
      simp only [List.setIfInBounds_toArray, List.set_cons_zero, List.set_cons_succ]
      refine Ord.take (i := 13) (d := 57) (v := ?vb13) rfl rfl (by as_aux_lemma => kernel_rfl) (by as_aux_lemma => kernel_rfl) (by as_aux_lemma => kernel_rfl) (fun _ _ _ h => h) (by rfl) ?hb13 (by assumption) ?_
      case hb13 => intro w hSw; go_simp; try with_reducible rfl
      simp only [List.setIfInBounds_toArray, List.set_cons_zero, List.set_cons_succ]
      refine Ord.take (i := 14) (d := 58) (v := ?vb14) rfl rfl (by as_aux_lemma => kernel_rfl) (by as_aux_lemma => kernel_rfl) (by as_aux_lemma => kernel_rfl) (fun _ _ _ h => h) (by rfl) ?hb14 (by assumption) ?_
      case hb14 => intro w hSw; go_simp; try with_reducible rfl
      simp only [List.setIfInBounds_toArray, List.set_cons_zero, List.set_cons_succ]
      refine wpAnyH_ready (rs := [15]) (by as_aux_lemma => kernel_rfl) (by simp) (AllReadyH.cons rfl (fun KK hK => ?_) AllReadyH.nil)
      go_simp
      refine (HKP.out v2 HLD.out.fr).mono ?_
      rintro _ v3 ⟨rfl, hv3⟩
      obtain rfl := hv3.symm
      refine hK.out _ _ hS0 (fun _ => ?_)
      clear hK hv3
      try simp only [List.setIfInBounds_toArray, List.set_cons_zero, List.set_cons_succ]
      refine wpAnyH_ready (rs := [16]) (by as_aux_lemma => kernel_rfl) (by simp) (AllReadyH.cons rfl (fun KK hK => ?_) AllReadyH.nil)
      go_simp
      refine (HDO.out v2 HLD.out.dc2 HLD.out.ml).mono ?_
      rintro _ v4 ⟨⟨y, rfl⟩, hml, hbt⟩
      have hS4 : Dk v4 gd gv ∧ Dc v4 gv size (.map (some gl)) (.slice (some ⟨g, 0, none⟩) n cv) (.map (some gn)) fuse false ∧ v4.rangeAt g (q * 513) X := ⟨hbt.cells HLD.out.ml.map hS0.1, hbt.cells HLD.out.ml.map hS0.2.1, fun j u hu => by
        have h1 := hS0.2.2 j u hu
        obtain ⟨hl2, hn2 | ⟨g', cap', cur, ev, hb', hg', _⟩⟩ := HLD.out.row
        · cases hn2.1
        · cases ev
          rw [← h1]
          unfold World.cell?
          rw [show v4.heap[g]? = v2.heap[g]? from (hbt.cells HLD.out.ml.map hg').trans hg'.symm]⟩
      refine hK.out _ _ hS4 (fun _ => ?_)
      clear hK
      have HL5 := hid (HLD.out.step hbt hml HBL1.out HBL.out HSD.out)
      have HS5 := hid (Nat.le_trans HSD.out hbt.bel.size)
      clear hml hbt hS4 hS0 HLD HSD
      try simp only [List.setIfInBounds_toArray, List.set_cons_zero, List.set_cons_succ]
      refine wpAnyH_done (by as_aux_lemma => kernel_rfl) ?_ _
      go_wp2_with fail
      exact ⟨⟨q + 1, by go_num, hlt, HL5, HS5⟩, by simp only [intOf]; omega⟩
    · have hkn : q = n := by omega
      subst hkn
      have hki : ¬ (q : Int) < (q : Int) := by omega
      go_wp2_with fail
      refine OrdE.region (fun W => Dk W gd gv ∧ Dc W gv size (.map (some gl)) (.slice av q cv) (.map (some gn)) fuse false) 13 (by kernel_rfl) (show Dk wr.drew gd gv ∧ Dc wr.drew gv size (.map (some gl)) (.slice av q cv) (.map (some gn)) fuse false from ⟨HLI.out.dk, HLI.out.dc⟩) (fun hSS => ?_)
      have HLD : Hid (LoI w wr.drew base gd gv gl gv2 gn2 N q size (.slice av q cv) (.map (some gn)) fuse (loseF L O K torn at_ q) O) := ⟨HLI.out.dk, HLI.out.dc, HLI.out.row, HLI.out.dc2, HLI.out.ml, HLI.out.mn2, HLI.out.okL, HLI.out.ne, HLI.out.fr.drew⟩
      have HSD : Hid (base ≤ wr.drew.heap.size) := HSR.out
      clear HLI HSR
      generalize wr.drew = v2 at *
      refine OrdE.take (i := 0) (d := 62) (v := ?vc0) rfl rfl rfl (by as_aux_lemma => kernel_rfl) (by as_aux_lemma => kernel_rfl) (by as_aux_lemma => kernel_rfl) (by as_aux_lemma => kernel_rfl) (fun _ _ _ h => h) (by rfl) ?hc0 (by assumption) ?_
      case hc0 => intro w hSw; go_simp; try with_reducible rfl
      simp only [List.setIfInBounds_toArray, List.set_cons_zero, List.set_cons_succ]
      refine OrdE.take (i := 1) (d := 63) (v := ?vc1) rfl rfl rfl (by as_aux_lemma => kernel_rfl) (by as_aux_lemma => kernel_rfl) (by as_aux_lemma => kernel_rfl) (by as_aux_lemma => kernel_rfl) (fun _ _ _ h => h) (by rfl) ?hc1 (by assumption) ?_
      case hc1 => intro w hSw; go_simp; try with_reducible rfl
      simp only [List.setIfInBounds_toArray, List.set_cons_zero, List.set_cons_succ]
      refine OrdE.take (i := 2) (d := 64) (v := ?vc2) rfl rfl rfl (by as_aux_lemma => kernel_rfl) (by as_aux_lemma => kernel_rfl) (by as_aux_lemma => kernel_rfl) (by as_aux_lemma => kernel_rfl) (fun _ _ _ h => h) (by rfl) ?hc2 (by assumption) ?_
      case hc2 => intro w hSw; go_simp; try with_reducible rfl
      simp only [List.setIfInBounds_toArray, List.set_cons_zero, List.set_cons_succ]
      refine OrdE.take (i := 3) (d := 65) (v := .pointer (some ⟨gv, 0, none⟩)) rfl rfl rfl (by as_aux_lemma => kernel_rfl) (by as_aux_lemma => kernel_rfl) (by as_aux_lemma => kernel_rfl) (by as_aux_lemma => kernel_rfl) (fun _ _ _ h => h) (by rfl) ?hc3 (by assumption) ?_
      case hc3 => intro w hSw; have q := hSw.1.cell; obtain ⟨q0, q1, q2, q3, q4, q5⟩ := hSw.2.cells; go_simp; try with_reducible rfl
      simp only [List.setIfInBounds_toArray, List.set_cons_zero, List.set_cons_succ]
      refine OrdE.take (i := 4) (d := 66) (v := ?vc4) rfl rfl rfl (by as_aux_lemma => kernel_rfl) (by as_aux_lemma => kernel_rfl) (by as_aux_lemma => kernel_rfl) (by as_aux_lemma => kernel_rfl) (fun _ _ _ h => h) (by rfl) ?hc4 (by assumption) ?_
      case hc4 => intro w hSw; go_simp; try with_reducible rfl
      simp only [List.setIfInBounds_toArray, List.set_cons_zero, List.set_cons_succ]
      refine OrdE.take (i := 5) (d := 67) (v := ?vc5) rfl rfl rfl (by as_aux_lemma => kernel_rfl) (by as_aux_lemma => kernel_rfl) (by as_aux_lemma => kernel_rfl) (by as_aux_lemma => kernel_rfl) (fun _ _ _ h => h) (by rfl) ?hc5 (by assumption) ?_
      case hc5 => intro w hSw; go_simp; try with_reducible rfl
      simp only [List.setIfInBounds_toArray, List.set_cons_zero, List.set_cons_succ]
      refine OrdE.take (i := 6) (d := 68) (v := ?vc6) rfl rfl rfl (by as_aux_lemma => kernel_rfl) (by as_aux_lemma => kernel_rfl) (by as_aux_lemma => kernel_rfl) (by as_aux_lemma => kernel_rfl) (fun _ _ _ h => h) (by rfl) ?hc6 (by assumption) ?_
      case hc6 => intro w hSw; go_simp; try with_reducible rfl
      simp only [List.setIfInBounds_toArray, List.set_cons_zero, List.set_cons_succ]
      refine OrdE.take (i := 7) (d := 69) (v := .pointer (some ⟨gv, 0, none⟩)) rfl rfl rfl (by as_aux_lemma => kernel_rfl) (by as_aux_lemma => kernel_rfl) (by as_aux_lemma => kernel_rfl) (by as_aux_lemma => kernel_rfl) (fun _ _ _ h => h) (by rfl) ?hc7 (by assumption) ?_
      case hc7 => intro w hSw; have q := hSw.1.cell; obtain ⟨q0, q1, q2, q3, q4, q5⟩ := hSw.2.cells; go_simp; try with_reducible rfl
      simp only [List.setIfInBounds_toArray, List.set_cons_zero, List.set_cons_succ]
      refine OrdE.take (i := 8) (d := 70) (v := ?vc8) rfl rfl rfl (by as_aux_lemma => kernel_rfl) (by as_aux_lemma => kernel_rfl) (by as_aux_lemma => kernel_rfl) (by as_aux_lemma => kernel_rfl) (fun _ _ _ h => h) (by rfl) ?hc8 (by assumption) ?_
      case hc8 => intro w hSw; go_simp; try with_reducible rfl
      simp only [List.setIfInBounds_toArray, List.set_cons_zero, List.set_cons_succ]
      refine OrdE.take (i := 9) (d := 71) (v := ?vc9) rfl rfl rfl (by as_aux_lemma => kernel_rfl) (by as_aux_lemma => kernel_rfl) (by as_aux_lemma => kernel_rfl) (by as_aux_lemma => kernel_rfl) (fun _ _ _ h => h) (by rfl) ?hc9 (by assumption) ?_
      case hc9 => intro w hSw; go_simp; try with_reducible rfl
      simp only [List.setIfInBounds_toArray, List.set_cons_zero, List.set_cons_succ]
      refine OrdE.take (i := 10) (d := 72) (v := .int .i64 size) rfl rfl rfl (by as_aux_lemma => kernel_rfl) (by as_aux_lemma => kernel_rfl) (by as_aux_lemma => kernel_rfl) (by as_aux_lemma => kernel_rfl) (fun _ _ _ h => h) (by rfl) ?hc10 (by assumption) ?_
      case hc10 => intro w hSw; have q := hSw.1.cell; obtain ⟨q0, q1, q2, q3, q4, q5⟩ := hSw.2.cells; go_simp; try with_reducible rfl
      simp only [List.setIfInBounds_toArray, List.set_cons_zero, List.set_cons_succ]
      refine OrdE.take (i := 11) (d := 73) (v := .agg (devC size (.map none) (.slice none 0 0) (.map none) 0 true)) rfl rfl rfl (by as_aux_lemma => kernel_rfl) (by as_aux_lemma => kernel_rfl) (by as_aux_lemma => kernel_rfl) (by as_aux_lemma => kernel_rfl) (fun _ _ _ h => h) (by rfl) ?hc11 (by assumption) ?_
      case hc11 => intro w hSw; unfold devC; go_simp; try with_reducible rfl
      simp only [List.setIfInBounds_toArray, List.set_cons_zero, List.set_cons_succ]
      refine OrdE.take (i := 12) (d := 74) (v := ?vc12) rfl rfl rfl (by as_aux_lemma => kernel_rfl) (by as_aux_lemma => kernel_rfl) (by as_aux_lemma => kernel_rfl) (by as_aux_lemma => kernel_rfl) (fun _ _ _ h => h) (by rfl) ?hc12 (by assumption) ?_
      case hc12 => intro w hSw; go_simp; try with_reducible rfl
      simp only [List.setIfInBounds_toArray, List.set_cons_zero, List.set_cons_succ]
      refine OrdE.one (i := 13) (by as_aux_lemma => kernel_rfl) rfl (fun KK hK => ?_)
      rw [if_pos (by rfl)]
      refine wp_store_row 79 (.tmp 74) (.tmp 73) rfl gv (devC size (.map none) (.slice none 0 0) (.map none) 0 true) rfl rfl 79 _ hSS.2 (by kernel_rfl) rfl (by simp [devC, Value.oneCell']) ?_
      refine hK.out _ _ (fun h => absurd rfl h) ?_
      clear hK
      try simp only [List.setIfInBounds_toArray, List.set_cons_zero, List.set_cons_succ]
      refine OrdE.done (by as_aux_lemma => kernel_rfl) ?_ _
      have hoth : ∀ j, j ≠ gv → (v2.setRow gv (devC size (.map none) (.slice none 0 0) (.map none) 0 true)).heap[j]? = v2.heap[j]? := fun j hj => setRow_other v2 gv j _ hj
      have HDN : Hid (Dn (v2.setRow gv (devC size (.map none) (.slice none 0 0) (.map none) 0 true)) gd gv size) := ⟨(hoth gd (by rintro rfl; have h1 := HLD.out.dk; have h2 := HLD.out.dc; unfold Dk at h1; unfold Dc at h2; rw [h1] at h2; simp at h2)).trans HLD.out.dk, setRow_heap v2 gv _ _ 79 (0, 0) HLD.out.dc⟩
      have HD2 : Hid (Dc (v2.setRow gv (devC size (.map none) (.slice none 0 0) (.map none) 0 true)) gv2 size (.map (some gl)) (.slice none 0 0) (.map (some gn2)) (-1) false) := (hoth gv2 HG2.out.2.2).trans HLD.out.dc2
      have HML : Hid (Ml (v2.setRow gv (devC size (.map none) (.slice none 0 0) (.map none) 0 true)) gl (N + q) (loseF L O K torn at_ q)) := HLD.out.ml.later (hoth gl (by rintro rfl; obtain ⟨es, ck, hh⟩ := HLD.out.ml.map; have h2 := HLD.out.dc; unfold Dc at h2; rw [h2] at hh; cases hh)) (Nat.le_refl _)
      have HMN : Hid (Mn (v2.setRow gv (devC size (.map none) (.slice none 0 0) (.map none) 0 true)) gn2 0 (fun _ => none)) := HLD.out.mn2.later (hoth gn2 (by rintro rfl; obtain ⟨es, ck, hh⟩ := HLD.out.mn2.map; have h2 := HLD.out.dc; unfold Dc at h2; rw [h2] at hh; cases hh)) (Nat.le_refl _)
      have HFR : Hid (Fr base w (v2.setRow gv (devC size (.map none) (.slice none 0 0) (.map none) 0 true))) := by
        refine HLD.out.fr.trans ⟨below_setRow (Below.refl _ _) HBV.out _, fun j cs t fr h1 _ h3 => (hoth j ?_).trans h3⟩
        rintro rfl
        have h2 := HLD.out.dc
        unfold Dc at h2
        rw [h3] at h2
        injection h2 with h2
        injection h2 with _ h2
        exact h1 h2
      have HS9 : Hid (base ≤ (v2.setRow gv (devC size (.map none) (.slice none 0 0) (.map none) 0 true)).heap.size) := by rw [setRow_size]; exact HSD.out
      have HOL := hid HLD.out.okL
      have HNE := hid HLD.out.ne
      clear hoth hSS HLD HSD
      generalize v2.setRow gv (devC size (.map none) (.slice none 0 0) (.map none) 0 true) = v3 at *
      have HA3 := hid (bel_alloc v3 (.cells #[.pointer (some ⟨gv2, 0, none⟩)] 52))
      have HF : Hid (Dv (v3.alloc (.cells #[.pointer (some ⟨gv2, 0, none⟩)] 52)) base v3.heap.size gv2 gl gn2 (.slice none 0 0) (N + q) size (loseF L O K torn at_ q) [] (-1)) :=
        ⟨heap_new _ _, (HA3.out.block gv2 HD2.out.lt).trans HD2.out, ⟨rfl, .inl ⟨rfl, rfl⟩⟩, HML.out.later (HA3.out.block gl HML.out.lt) (Nat.le_refl _), HMN.out.later (HA3.out.block gn2 HMN.out.lt) (Nat.zero_le _), HOL.out, fun _ hx => absurd hx List.not_mem_nil, ⟨by omega, by omega⟩, HOS.out, HS9.out, HG2.out.1, HBL.out, HG2.out.2.1, HNE.out⟩
      have HDN2 : Hid (Dn (v3.alloc (.cells #[.pointer (some ⟨gv2, 0, none⟩)] 52)) gd gv size) := ⟨(HA3.out.block gd HDN.out.1.lt).trans HDN.out.1, (HA3.out.block gv HDN.out.2.lt).trans HDN.out.2⟩
      have HFF := hid (HFR.out.trans (Fr.of_below HA3.out HS9.out))
      clear HDN HD2 HML HMN HFR HS9
      go_wp2_with fail
      go_ret2
      exact ⟨_, _, _, rfl, HF.out, HDN2.out, HFF.out⟩
end Go.Proofs.Ytldgiimkkgmgaaa
