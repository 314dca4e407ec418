/-
  CrcPieces is proved for every input: bytes cut in any way have one sum; no condition.
-/
import Derived.Test.YtohbghniangknaaPiece
namespace Go.Proofs.Ytohbghniangknaa.crcPieces
open Go.ChangeShapes Go.WideShapes Go.ChangeAt Go.RowKit Crc

theorem own : ownKnob Try.prog.godebug = none := by kernel_rfl

/-- What is known ahead of a round: p bytes went into the parts l. -/
structure At (w : World) (z : List Nat) (k : Nat) (a : Option Addr) (cap : Nat) (rest : List Nat) (vals : List Value) (pss : List (List Nat)) : Prop where
  rd : Rd w (.slice a rest.length cap) a cap rest
  all : pss.flatten ++ rest = z
  nv : vals.length = k
  np : pss.length = k
  part : ∀ j, j < k → ∃ a' cap', Rd w (vals.getD j undef) a' cap' (pss.getD j [])

theorem At.next {w : World} {z : List Nat} {k : Nat} {a : Option Addr} {cap : Nat} {rest : List Nat} {vals : List Value} {pss : List (List Nat)} (h : At w z k a cap rest vals pss) (n : Nat) (_hn : n ≤ rest.length)
    {a1 a2 : Option Addr} {c1 c2 : Nat} (h1 : Rd w (.slice a1 n c1) a1 c1 (rest.take n)) (h2 : Rd w (.slice a2 (rest.drop n).length c2) a2 c2 (rest.drop n)) :
    At w z (k + 1) a2 c2 (rest.drop n) (vals ++ [.slice a1 n c1]) (pss ++ [rest.take n]) := by
  have hv := h.nv
  have hp := h.np
  refine ⟨h2, ?_, by simp [hv], by simp [hp], fun j hj => ?_⟩
  · rw [List.flatten_append, List.flatten_singleton, List.append_assoc, List.take_append_drop]
    exact h.all
  · by_cases hjk : j < k
    · obtain ⟨a', cap', hr⟩ := h.part j hjk
      refine ⟨a', cap', ?_⟩
      have e1 : (vals ++ [Value.slice a1 n c1]).getD j undef = vals.getD j undef := by simp [List.getD, List.getElem?_append_left (show j < vals.length by omega)]
      have e2 : (pss ++ [rest.take n]).getD j [] = pss.getD j [] := by simp [List.getD, List.getElem?_append_left (show j < pss.length by omega)]
      rw [e1, e2]
      exact hr
    · have hjk' : j = k := by omega
      subst hjk'
      refine ⟨a1, c1, ?_⟩
      have e1 : (vals ++ [Value.slice a1 n c1]).getD j undef = .slice a1 n c1 := by simp [List.getD, ← hv]
      have e2 : (pss ++ [rest.take n]).getD j [] = rest.take n := by simp [List.getD, ← hp]
      rw [e1, e2]
      exact h1

theorem At.last {w : World} {z : List Nat} {k : Nat} {a : Option Addr} {cap : Nat} {rest : List Nat} {vals : List Value} {pss : List (List Nat)} (h : At w z k a cap rest vals pss) :
    At w z (k + 1) none 0 [] (vals ++ [.slice a rest.length cap]) (pss ++ [rest]) := by
  have h1 : Rd w (.slice none (rest.drop rest.length).length 0) none 0 (rest.drop rest.length) := by
    rw [List.drop_length]
    exact ⟨rfl, Nat.le_refl _, by unfold maxLen; omega, fun h => absurd h (by simp), fun j => by simp⟩
  have h2 := h.next rest.length (Nat.le_refl _) (by rw [List.take_length]; exact h.rd) h1
  rwa [List.drop_length, List.take_length] at h2

theorem ps_own {w W : World} {z : List Nat} {k B : Nat} {a : Option Addr} {cap : Nat} {rest : List Nat} {vals : List Value} {pss : List (List Nat)} {v : Value} (h : At w z k a cap rest vals pss) (hown : W.ownsRow B 23 1 v k vals) (h0 : 0 < k) (hb : Below w.heap.size w W) :
    ∃ g c, v = .slice (some ⟨g, 0, none⟩) k c ∧ Ps W (some ⟨g, 0, none⟩) c pss := by
  have h' := hown
  obtain ⟨_, hcase⟩ := hown
  rcases hcase with ⟨_, h1⟩ | ⟨g, c, cur, rfl, hg, hh, hn, hcap, _, _⟩
  · omega
  · have hv := h.nv
    have hp := h.np
    refine ⟨g, c, rfl, by rw [hp]; exact hn, hcap, fun _ => ⟨g, 0, rfl, fun j hj => ?_⟩⟩
    obtain ⟨a', cap', hr⟩ := h.part j (by omega)
    refine ⟨_, a', cap', ?_, hr.later hb⟩
    rw [Nat.zero_add, h'.cellAt j (by omega), List.getElem?_eq_getElem (show j < vals.length by omega)]
    simp [List.getD, List.getElem?_eq_getElem (show j < vals.length by omega)]

theorem one_new (w : World) (v : Value) : ∀ (j : Nat) (u : Value), [v][j]? = some u → (w.alloc (.cells #[v] 23)).cell? (Addr.add ⟨w.heap.size, 0, none⟩ j) = some u := by
  intro j u h
  match j, h with
  | 0, h => simp at h; subst h; simp [Addr.add]

theorem one_cell (a : Option Addr) (n c : Nat) : ∀ u ∈ [Value.slice a n c], u.oneCell' = true := by
  intro u hu
  simp at hu
  subst hu
  rfl

set_option maxHeartbeats 1600000 in
theorem walk_rd (b : Option Addr) (cap : Nat) (ys : List Nat) (c : Option Addr) (capc : Nat) (cs : List Nat) (w : World) (hr : Rd w (.slice b ys.length cap) b cap ys) (hrc : Rd w (.slice c cs.length capc) c capc cs) :
    Calls Try.prog 6 #[.slice b ys.length cap, .slice c cs.length capc] w fun e w' => e = .returned (.bool true) ∧ Below w.heap.size w w' := by
  obtain ⟨i0, hi, hz0, hz1, hz2⟩ := info_parts Try.info23
  go_enter Try.func6, Try.ntmps6
  go_wp2_with fail
  go_at_call 16
  refine (awake_any _).mono ?_
  rintro _ w0 ⟨rfl, hb0⟩
  have hr0 := hr.later hb0
  have hrc0 := hrc.later hb0
  have C1 := hid (cut_any b cap ys w0 hr0)
  have r1 := hr0.take 8192
  generalize ys.take 8192 = z at *
  have O1 := hid (one_ref _ _ _ w0 r1)
  clear hr hrc hr0
  generalize ys.length = m1 at *
  go_wp2_with fail
  go_at_call 9
  refine C1.out.mono ?_
  rintro _ w1 ⟨rfl, hw⟩
  obtain rfl := hw.symm
  clear hw
  go_wp2_with fail
  go_at_call 25
  refine O1.out.mono ?_
  rintro _ w1 ⟨rfl, hw⟩
  obtain rfl := hw.symm
  clear hw
  clear C1 O1
  have hcells := hrc0.cells
  have hhi := hrc0.hi
  clear hrc0
  generalize hcl : cs.length = cn at *
  clear hcl
  have hcap0 : (0 : Nat) ≤ 0 := Nat.le_refl _
  go_wp2
  go_loopw [0, 6, 7, 8] (fun bv lv sv iv wr => ∃ (k : Nat) (a : Option Addr) (cp : Nat) (rest : List Nat) (vals : List Value) (pss : List (List Nat)), At w0 z k a cp rest vals pss ∧ k ≤ 200 ∧ iv = .int .i64 k ∧ bv = .slice a rest.length cp ∧ sv = .int .u32 ((add 0 pss.flatten : Nat) : Int) ∧ wr.ownsRow w0.heap.size 23 1 lv vals.length vals ∧ Below w0.heap.size w0 wr) (fun _ _ _ i _ => 200 - (intOf i).toNat)
  case atStart => exact ⟨0, b, cap, z, [], [], ⟨r1, rfl, rfl, rfl, fun j hj => absurd hj (by omega)⟩, by omega, rfl, rfl, rfl, World.ownsRow_nil _ _ _ _, Below.refl _ _⟩
  case round =>
    obtain ⟨k, a, cp, rest, vals, pss, hat, hk, rfl, rfl, rfl, hown, hbel⟩ := hrel
    have hrest := hat.rd
    have hroom := hrest.room
    have hvl := hat.nv
    by_cases hkc : k < cn
    · by_cases hk2 : k < 200
      · have hkn : (k : Int) < (cn : Int) := by omega
        have hk2' : (k : Int) < 200 := by omega
        obtain ⟨cb, off, rfl, hbw, hc⟩ := hcells (by omega)
        have hck : wr.cell? ⟨cb, off + k, none⟩ = some (.int .u8 ((cs.getD k 0 : Nat) : Int)) := (hbel.cell (p := ⟨cb, off + k, none⟩) hbw).trans (hc k hkc)
        have hcu := hhi k
        generalize cs.getD k 0 = cu at *
        clear hc hcells hhi
        by_cases hm : rest.length < cu
        · have hm' : (rest.length : Int) < (cu : Int) := by omega
          obtain ⟨n, hn⟩ : ∃ n, n = rest.length := ⟨_, rfl⟩
          obtain ⟨a1, c1, hv1, hr1⟩ := low_part hrest n (by omega)
          obtain ⟨a2, c2, hv2, hr2⟩ := high_part hrest n (by omega)
          have L1 := slice_low a rest.length cp n (by omega)
          have L2 := slice_high a rest.length cp n (by omega)
          rw [hv1] at L1
          rw [hv2] at L2
          have hat' := hat.next n (by omega) hr1 hr2
          have HAT := hid hat'
          have hlt1 : (rest.take n).length = n := by rw [List.length_take]; omega
          have HA : Hid (∀ W, Below w0.heap.size w0 W → Calls Try.prog 10 #[.int .u32 ((add 0 pss.flatten : Nat) : Int), .slice a1 n c1] W fun e w' => e = .returned (.int .u32 ((add 0 (pss ++ [rest.take n]).flatten : Nat) : Int)) ∧ w' = W) := by
            intro W hW
            have h1 := hr1.later hW
            have h2 := add_word (add 0 pss.flatten) a1 c1 (rest.take n) W (add_lt 0 _ (by decide)) (by rw [hlt1]; exact h1)
            rw [hlt1, ← add_append] at h2
            rw [List.flatten_append, List.flatten_singleton]
            exact h2
          clear hat hat' hrest hr1 hr2 hv1 hv2 hlt1
          generalize rest.drop n = rest' at *
          generalize pss ++ [rest.take n] = pss' at *
          generalize add 0 pss.flatten = q at *
          generalize hrl : rest.length = rl at *
          generalize hrl' : rest'.length = rl' at *
          clear hrl
          subst hn
          go_wp2_with (at_builtin; refine wpList_append_own _ rfl _ _ 28 rfl w0.heap.size 23 i0 (.slice none 0 0) 1 24 Try.underlying28 hi hz0 hz1 hz2 rfl (by decide) _ _ _ rfl (hown.alloc _) ⟨wr.heap.size, 0, none⟩ 1 1 [.slice a1 n c1] rfl rfl (one_new wr _) (one_cell _ _ _) (by unfold maxLen; omega) (by omega) (by have := hbel.size; simp; omega) ?_)
          intro v' w1 hown' hgrow _
          have hb1 := (hbel.alloc hbel.size _).grown hgrow (by have := hbel.size; simp; omega) (fun j hj => (hown.lt j hj).1)
          clear hown hgrow
          go_wp2_with fail
          go_at_call 10
          refine (HA.out w1 hb1).mono ?_
          rintro _ w2 ⟨rfl, hw⟩
          obtain rfl := hw.symm
          clear hw
          go_wp2
          exact ⟨⟨k + 1, a2, c2, rest', _, pss', HAT.out, by omega, by go_num, by rw [hrl'], rfl, by rw [HAT.out.nv]; exact hown', hb1⟩, by simp [intOf]; omega⟩
        · have hm' : ¬ (rest.length : Int) < (cu : Int) := by omega
          obtain ⟨a1, c1, hv1, hr1⟩ := low_part hrest cu (by omega)
          obtain ⟨a2, c2, hv2, hr2⟩ := high_part hrest cu (by omega)
          have L1 := slice_low a rest.length cp cu (by omega)
          have L2 := slice_high a rest.length cp cu (by omega)
          rw [hv1] at L1
          rw [hv2] at L2
          have hat' := hat.next cu (by omega) hr1 hr2
          have HAT := hid hat'
          have hlt1 : (rest.take cu).length = cu := by rw [List.length_take]; omega
          have HA : Hid (∀ W, Below w0.heap.size w0 W → Calls Try.prog 10 #[.int .u32 ((add 0 pss.flatten : Nat) : Int), .slice a1 cu c1] W fun e w' => e = .returned (.int .u32 ((add 0 (pss ++ [rest.take cu]).flatten : Nat) : Int)) ∧ w' = W) := by
            intro W hW
            have h1 := hr1.later hW
            have h2 := add_word (add 0 pss.flatten) a1 c1 (rest.take cu) W (add_lt 0 _ (by decide)) (by rw [hlt1]; exact h1)
            rw [hlt1, ← add_append] at h2
            rw [List.flatten_append, List.flatten_singleton]
            exact h2
          clear hat hat' hrest hr1 hr2 hv1 hv2 hlt1
          generalize rest.drop cu = rest' at *
          generalize pss ++ [rest.take cu] = pss' at *
          generalize add 0 pss.flatten = q at *
          generalize hrl : rest.length = rl at *
          generalize hrl' : rest'.length = rl' at *
          clear hrl
          go_wp2_with (at_builtin; refine wpList_append_own _ rfl _ _ 28 rfl w0.heap.size 23 i0 (.slice none 0 0) 1 24 Try.underlying28 hi hz0 hz1 hz2 rfl (by decide) _ _ _ rfl (hown.alloc _) ⟨wr.heap.size, 0, none⟩ 1 1 [.slice a1 cu c1] rfl rfl (one_new wr _) (one_cell _ _ _) (by unfold maxLen; omega) (by omega) (by have := hbel.size; simp; omega) ?_)
          intro v' w1 hown' hgrow _
          have hb1 := (hbel.alloc hbel.size _).grown hgrow (by have := hbel.size; simp; omega) (fun j hj => (hown.lt j hj).1)
          clear hown hgrow
          go_wp2_with fail
          go_at_call 10
          refine (HA.out w1 hb1).mono ?_
          rintro _ w2 ⟨rfl, hw⟩
          obtain rfl := hw.symm
          clear hw
          go_wp2
          exact ⟨⟨k + 1, a2, c2, rest', _, pss', HAT.out, by omega, by go_num, by rw [hrl'], rfl, by rw [HAT.out.nv]; exact hown', hb1⟩, by simp [intOf]; omega⟩
      · have hkn : (k : Int) < (cn : Int) := by omega
        have hk2' : ¬ (k : Int) < 200 := by omega
        have hlst := hat.last
        have hadd : Hid (∀ W, Below w0.heap.size w0 W → Calls Try.prog 10 #[.int .u32 ((add 0 pss.flatten : Nat) : Int), .slice a rest.length cp] W fun e w' => e = .returned (.int .u32 ((add 0 z : Nat) : Int)) ∧ w' = W) := by
          intro W hW
          have h2 := add_word (add 0 pss.flatten) a cp rest W (add_lt 0 _ (by decide)) (hrest.later hW)
          rwa [← add_append, hat.all] at h2
        have HO : Hid (∀ (W : World) (v : Value), W.ownsRow w0.heap.size 23 1 v (k + 1) (vals ++ [.slice a rest.length cp]) → Below w0.heap.size w0 W → ∃ g c', v = .slice (some ⟨g, 0, none⟩) (k + 1) c' ∧ Calls Try.prog 12 #[.slice (some ⟨g, 0, none⟩) (k + 1) c'] W fun e w' => e = .returned (.int .u32 ((add 0 z : Nat) : Int)) ∧ w' = W) := by
          intro W v hv hW
          obtain ⟨g, c', rfl, hps⟩ := ps_own hlst hv (by omega) hW
          refine ⟨g, c', rfl, ?_⟩
          have h3 := of_word _ _ _ W hps
          rw [hlst.np, sumL, ← List.append_nil (pss ++ [rest]).flatten, hlst.all] at h3
          exact h3
        clear hlst hat hrest hroom
        generalize rest.length = rl at *
        generalize add 0 pss.flatten = q at *
        go_wp2_with (at_builtin; refine wpList_append_own _ rfl _ _ 28 rfl w0.heap.size 23 i0 (.slice none 0 0) 1 24 Try.underlying28 hi hz0 hz1 hz2 rfl (by decide) _ _ _ rfl (hown.alloc _) ⟨wr.heap.size, 0, none⟩ 1 1 [.slice a rl cp] rfl rfl (one_new wr _) (one_cell _ _ _) (by unfold maxLen; omega) (by omega) (by have := hbel.size; simp; omega) ?_)
        intro v' w1 hown' hgrow _
        have hb1 := (hbel.alloc hbel.size _).grown hgrow (by have := hbel.size; simp; omega) (fun j hj => (hown.lt j hj).1)
        obtain ⟨g, c', rfl, HOf⟩ := HO.out _ _ hown' hb1
        have HOF := hid HOf
        clear hown hgrow hown' HOf
        go_wp2_with fail
        go_at_call 12
        refine HOF.out.mono ?_
        rintro _ w2 ⟨rfl, hw⟩
        obtain rfl := hw.symm
        clear hw
        go_wp2_with fail
        go_at_call 10
        refine (hadd.out _ hb1).mono ?_
        rintro _ w2 ⟨rfl, hw⟩
        obtain rfl := hw.symm
        clear hw
        go_wp2
        go_ret
        exact ⟨rfl, Bn hb0 hb1⟩
    · have hkn : ¬ (k : Int) < (cn : Int) := by omega
      have hlst := hat.last
      have hadd : Hid (∀ W, Below w0.heap.size w0 W → Calls Try.prog 10 #[.int .u32 ((add 0 pss.flatten : Nat) : Int), .slice a rest.length cp] W fun e w' => e = .returned (.int .u32 ((add 0 z : Nat) : Int)) ∧ w' = W) := by
        intro W hW
        have h2 := add_word (add 0 pss.flatten) a cp rest W (add_lt 0 _ (by decide)) (hrest.later hW)
        rwa [← add_append, hat.all] at h2
      have HO : Hid (∀ (W : World) (v : Value), W.ownsRow w0.heap.size 23 1 v (k + 1) (vals ++ [.slice a rest.length cp]) → Below w0.heap.size w0 W → ∃ g c', v = .slice (some ⟨g, 0, none⟩) (k + 1) c' ∧ Calls Try.prog 12 #[.slice (some ⟨g, 0, none⟩) (k + 1) c'] W fun e w' => e = .returned (.int .u32 ((add 0 z : Nat) : Int)) ∧ w' = W) := by
        intro W v hv hW
        obtain ⟨g, c', rfl, hps⟩ := ps_own hlst hv (by omega) hW
        refine ⟨g, c', rfl, ?_⟩
        have h3 := of_word _ _ _ W hps
        rw [hlst.np, sumL, ← List.append_nil (pss ++ [rest]).flatten, hlst.all] at h3
        exact h3
      clear hlst hat hrest hroom
      generalize rest.length = rl at *
      generalize add 0 pss.flatten = q at *
      go_wp2_with (at_builtin; refine wpList_append_own _ rfl _ _ 28 rfl w0.heap.size 23 i0 (.slice none 0 0) 1 24 Try.underlying28 hi hz0 hz1 hz2 rfl (by decide) _ _ _ rfl (hown.alloc _) ⟨wr.heap.size, 0, none⟩ 1 1 [.slice a rl cp] rfl rfl (one_new wr _) (one_cell _ _ _) (by unfold maxLen; omega) (by omega) (by have := hbel.size; simp; omega) ?_)
      intro v' w1 hown' hgrow _
      have hb1 := (hbel.alloc hbel.size _).grown hgrow (by have := hbel.size; simp; omega) (fun j hj => (hown.lt j hj).1)
      obtain ⟨g, c', rfl, HOf⟩ := HO.out _ _ hown' hb1
      have HOF := hid HOf
      clear hown hgrow hown' HOf
      go_wp2_with fail
      go_at_call 12
      refine HOF.out.mono ?_
      rintro _ w2 ⟨rfl, hw⟩
      obtain rfl := hw.symm
      clear hw
      go_wp2_with fail
      go_at_call 10
      refine (hadd.out _ hb1).mono ?_
      rintro _ w2 ⟨rfl, hw⟩
      obtain rfl := hw.symm
      clear hw
      go_wp2
      go_ret
      exact ⟨rfl, Bn hb0 hb1⟩

theorem walk (b : Option Addr) (cap : Nat) (ys : List Nat) (c : Option Addr) (capc : Nat) (cs : List Nat) (w : World) (hr : Rd w (.slice b ys.length cap) b cap ys) (hrc : Rd w (.slice c cs.length capc) c capc cs) :
    Calls Try.prog 6 #[.slice b ys.length cap, .slice c cs.length capc] w fun e w' => e = .returned (.bool true) ∧ Below w.heap.size w w' := walk_rd b cap ys c capc cs w hr hrc

set_option maxRecDepth 100000 in
theorem lifted (os : Os) (started : os.Started) (H : Type) (enc : TypeId × Value → H) :
    ReturnsInHanded {} Try.checked os 6 .any (Rows.crcPiecesSpec.pre6 enc Try.prog Try.f6 Rows.crcPiecesRow.domain false) (Rows.crcPiecesSpec.post enc Try.prog Try.f6 false true false false) := by
  refine returnsInHanded_of_change (C := Try.checked) own started (by kernel_rfl) Try.func6
    (ChangeSpec.witness6 (enc := enc) (C := Try.checked) false ⟨#[], #[.slice none 0 0, .slice none 0 0], []⟩ 8 (by kernel_rfl) (by kernel_rfl) (by kernel_rfl) (by kernel_rfl)) ?_
  intro W base args ds gs before hval0 hW _ _
  have hval : ∀ (j : Nat) t v, Try.f6.params[j]? = some t → args[j]? = some v → Value.okWide Try.prog W .any base t v := hval0
  have hW' := hW
  obtain ⟨p, q, hA0, hV, rfl, _, _⟩ := hW
  have hA : DataW.TrodAll enc Try.prog W 0 (fun _ => true) true Try.f6.params.toList args.toList ds p := hA0
  rw [Try.params6] at hA hval
  obtain ⟨v0, vs0, d0, ds0, p0, q0, hargs, rfl, rfl, h0, r0⟩ := trodAll_cons hA
  obtain ⟨v1, vs1, d1, ds1, p1, q1, rfl, rfl, rfl, h1, r1⟩ := trodAll_cons r0
  obtain ⟨rfl, rfl, rfl⟩ := trodAll_nil r1
  obtain rfl : args = #[v0, v1] := by cases args; simp_all
  obtain ⟨rfl, rfl⟩ := trodVars_none hV
  clear hA0
  simp only [List.append_nil] at hW'
  have hlt0 : ∀ x ∈ p0, x.block < W.heap.size := fun x hx => hW'.lt x (by simp [hx])
  have hk0 := h0
  obtain ⟨a0, cap0, zs0, rfl, hr0⟩ := open_rd (hval 0 23 v0 rfl rfl) h0 hlt0
  have hlt1 : ∀ x ∈ p1, x.block < W.heap.size := fun x hx => hW'.lt x (by simp [hx])
  have hk1 := h1
  obtain ⟨a1, cap1, zs1, rfl, hr1⟩ := open_rd (hval 1 23 v1 rfl rfl) h1 hlt1
  clear hval0
  refine (walk a0 cap0 zs0 a1 cap1 zs1 W hr0 hr1).mono fun e W' ⟨he, hb⟩ => ?_
  subst he
  exact ⟨_, rfl, _, _, _, [] ++ [], _, [], hW', trodAll_cons_mk (shut_bool Try.underlying4 _) trodAll_mk0, (trodAll_cons_mk (Below.trod Try.laidOut (by kernel_rfl) (of_decide_eq_true (by kernel_rfl)) hk0 hb hlt0) (trodAll_cons_mk (Below.trod Try.laidOut (by kernel_rfl) (of_decide_eq_true (by kernel_rfl)) hk1 hb hlt1) trodAll_mk0)), rfl, hb.frame _, fun h => by cases h⟩

theorem over : Rows.crcPiecesRow.holds Try.pinned (OpenSpec.ofChange Rows.crcPiecesSpec) :=
  OpenClaim.holds_of_wide 6 Try.f6 rfl rfl rfl rfl rfl rfl rfl ⟨rfl, rfl, rfl, rfl, rfl⟩ rfl rfl rfl rfl rfl (by kernel_rfl) Try.func6 (by kernel_rfl)
    (of_decide_eq_true (by kernel_rfl)) (by unfold Func.isWrapper; first | (rw [if_pos (by decide +kernel)]; kernel_rfl) | (rw [if_neg (by decide +kernel)]; exact ⟨rfl, rfl⟩))
    (fun os started H enc _ => lifted os started H enc)

end Go.Proofs.Ytohbghniangknaa.crcPieces
namespace Go.Proofs.Ytohbghniangknaa
theorem crcPieces_holds : Rows.CrcPiecesSaid := crcPieces.over
#print axioms crcPieces_holds
end Go.Proofs.Ytohbghniangknaa
