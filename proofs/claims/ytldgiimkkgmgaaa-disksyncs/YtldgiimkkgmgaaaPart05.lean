/-
  The statements' own check of a torn write.
-/
import Derived.Test.YtldgiimkkgmgaaaPart04
import Derived.Lib.SlBytesConst
import Derived.Laws.BitsAllLaws
namespace Go.Proofs.Ytldgiimkkgmgaaa
open Go.RowKit

theorem Ri.str {w : World} {a : Option Addr} {cap : Nat} {zs : List Int} (h : Ri w .u8 a cap zs) : (convert 33 9 (.slice a zs.length cap)).run Try.prog w = .ok (.string (strOfNums zs)) w := by
  by_cases h0 : 0 < zs.length
  · obtain ⟨b, off, rfl, _, hc⟩ := h.cells h0
    exact run_convert_bytes_arg (P := Try.prog) w 33 5 Try.underlying33 Try.underlying5 b off zs.length cap zs rfl hc 9 Try.underlying9
  · have hz : zs = [] := List.length_eq_zero_iff.1 (by omega)
    subst hz
    rw [run_convert_bytes_string w 33 9 5 a _ cap Try.underlying33 Try.underlying5 Try.underlying9]
    cases a with
    | none => rfl
    | some a => rfl
def s6 : List Int := [97, 98, 99, 100, 101, 102]
theorem s6_rx {base : Nat} {w : World} {g : Nat} {fr : Nat × Nat} (h : w.heap[g]? = some (.cells (s6.map (Value.int .u8)).toArray 5 fr)) : Rx base w (some ⟨g, 0, none⟩) 6 s6 := by
  refine Rx.blk ⟨by decide, by unfold maxLen; omega, fun _ => ⟨g, 0, rfl, (Array.getElem?_eq_some_iff.1 h).1, fun j hj => ?_⟩, wf_of (by decide)⟩ (fun b off W e _ hf => ?_)
  · rw [Nat.zero_add, Joins.cell_of_block h j, List.getElem?_toArray, List.getElem?_map, List.getElem?_eq_getElem hj]
    simp [List.getD, List.getElem?_eq_getElem hj]
  · cases e
    rw [h]
    exact hf.typ g _ 5 fr (by decide) (by decide) h
theorem alive_read : (loseF (fun _ => z512) [(3, wholeL s6)] [] 0 2 1 3).take 3 = [97, 98, 0] := by decide +kernel
set_option maxHeartbeats 6400000 in
set_option maxRecDepth 100000 in
theorem alive_any (w : World) : Calls Try.prog 10 #[] w fun e w' => e = .returned (.bool true) ∧ Below w.heap.size w w' := by
  have HNW := hid (new_ok 4 w ⟨by omega, by omega⟩)
  unfold NewPost at HNW
  have kc := fun W => Lib.run_convert_bytes_const (P := Try.prog) W 33 5 (s6.map (Value.int .u8)).toArray 6 6 Try.underlying33 Try.underlying5
  simp only [s6, List.map_cons, List.map_nil, List.size_toArray, List.length_cons, List.length_nil, Nat.reduceAdd] at kc
  go_enter Try.func10, Try.ntmps10
  go_wp2_with fail
  refine HNW.out.mono ?_
  rintro _ w1 ⟨gd, gv, gl, gn, rfl, hd, hb⟩
  have HA := hid (bel_alloc w1 (.cells (s6.map (Value.int .u8)).toArray 5 (6, 7)))
  have HE := hid (heap_new w1 (.cells (s6.map (Value.int .u8)).toArray 5 (6, 7)))
  have HB1 := hid (Bn hb HA.out)
  have HD1 := hid (hd.below HA.out)
  have HWR := hid (write_ok w.heap.size gd gv gl gn 0 _ 4 _ [] (-1) 3 _ 6 s6 _ HD1.out (s6_rx HE.out) (by omega) (by decide))
  unfold WriPost at HWR
  rw [show wrC 4 (-1) 3 s6.length = 0 from by decide, show wrO 4 (-1) 3 [] s6 = [(3, wholeL s6)] from by unfold wrO; rw [if_pos (by decide)]; rfl, show wrF 4 (-1) 3 s6.length = -1 from by decide, show s6.length = 6 from rfl] at HWR
  have kc1 := kc w1
  simp only [s6, List.map_cons, List.map_nil] at HWR HA HB1 HD1
  clear hd hb HNW HE HA HD1 kc
  go_wp2_with fail
  refine HWR.out.mono ?_
  rintro _ w2 ⟨rfl, ⟨v2, hd2⟩, hf2⟩
  have HLS := hid (lose_ok w.heap.size gd gv gl gn 1 v2 4 _ _ (-1) none 0 [] 0 2 w2 hd2 (Kx.nil _ _) (wf_mk_i64 (by omega) (by omega)) (by simp))
  unfold LosPost at HLS
  simp only [List.length_cons, List.length_nil, Nat.reduceAdd] at HLS
  have HAR := alive_read
  simp only [s6] at HAR
  have HB2 := hid (HB1.out.trans hf2.bel)
  generalize hLf : loseF (fun _ => z512) [(3, wholeL [97, 98, 99, 100, 101, 102])] [] 0 2 1 = Lf at *
  clear hd2 hf2 HWR HB1 kc1 hLf
  go_wp2_with fail
  refine HLS.out.mono ?_
  rintro _ w3 ⟨gd2, gv2, gn2, rfl, hd3, hdn, hf3⟩
  have HB3 := hid (HB2.out.trans hf3.bel)
  have HD3 := hid hd3
  have HDN := hid hdn
  have HDO := hid (down_ok gd gv 4 _ _ _ 0 true w3 hdn.1 hdn.2)
  have HRE := hid (read_ok _ gd2 gv2 gl gn2 _ _ 4 Lf [] (-1) 3 w3 hd3 ⟨by omega, by omega⟩)
  unfold ReaPost at HRE
  rw [show holdF Lf [] 3 = Lf 3 from rfl] at HRE
  have HBK := hid (hd3.okL 3)
  clear hd3 hdn hf3 HLS HB2
  go_wp2_with fail
  refine HDO.out.mono ?_
  rintro _ w4 ⟨rfl, hw4⟩
  obtain rfl := hw4.symm
  clear hw4 HDO
  go_wp2_with fail
  refine HRE.out.mono ?_
  rintro _ w5 ⟨g, rfl, hg, hgs, hb5⟩
  have HB5 := hid (HB3.out.trans (hb5.mono HB3.out.size))
  have HRF := hid (read_e (.pointer (some ⟨gd, 0, none⟩)) 3 91 w5 (by decide) (up_down gd gv 4 _ _ _ 0 w5 ((hb5.block gd HDN.out.1.lt).trans HDN.out.1) ((hb5.block gv HDN.out.2.lt).trans HDN.out.2)))
  have hst := ((ri_arr hg HBK.out).take 3).str
  rw [HAR, show ([97, 98, 0] : List Int).length = 3 from rfl] at hst
  have hse : strOfNums [97, 98, 0] = { data := #[97, 98, 0] } := by decide +kernel
  rw [hse] at hst
  clear hg hgs hb5 HRE HDN HD3 HB3 HBK HAR hse
  go_wp2_with fail
  refine HRF.out.mono ?_
  rintro _ w6 ⟨rfl, hw6⟩
  obtain rfl := hw6.symm
  clear hw6 HRF
  go_wp2_with fail
  go_ret
  exact ⟨rfl, HB5.out⟩
end Go.Proofs.Ytldgiimkkgmgaaa
/-
  Bits of a byte are turned: device.rot and Rot.
-/
namespace Go.Proofs.Ytldgiimkkgmgaaa
open Go.RowKit

/-- A byte of a block with some bits turned. -/
def xorZ (c m : Int) : Int := bits .xor .u8 c m
def xorL (a : Nat) (m : Int) (b : List Int) : List Int := b.set a (xorZ (b.getD a 0) m)
theorem xorZ_rng {c m : Int} (hc : 0 ≤ c ∧ c ≤ 255) (hm : 0 ≤ m ∧ m ≤ 255) : 0 ≤ xorZ c m ∧ xorZ c m ≤ 255 := by
  unfold xorZ
  rw [u8_xor c m hc.1 (by omega) hm.1 (by omega)]
  have h : c.toNat ^^^ m.toNat < 2 ^ 8 := Nat.xor_lt_two_pow (by omega) (by omega)
  omega
theorem getD_fits {b : List Int} (hb : Blk b) (k : Nat) : 0 ≤ b.getD k 0 ∧ b.getD k 0 ≤ 255 := wf_u8 (wf_of hb.fits k)
theorem xor_blk {a : Nat} {m : Int} {b : List Int} (hb : Blk b) (hm : 0 ≤ m ∧ m ≤ 255) : Blk (xorL a m b) := by
  refine ⟨by unfold xorL; rw [List.length_set]; exact hb.len, fun z hz => ?_⟩
  rcases List.mem_or_eq_of_mem_set hz with h | rfl
  · exact hb.fits z h
  · exact xorZ_rng (getD_fits hb a) hm
theorem xor_arr (a : Nat) (m : Int) (b : List Int) : (bytesV b).toArray.setIfInBounds a (.int .u8 (xorZ (b.getD a 0) m)) = (bytesV (xorL a m b)).toArray := by
  unfold bytesV xorL
  simp [List.map_set]
def rotX (i : Int) (a : Nat) (m : Int) (x : Int × List Int) : Int × List Int := if x.1 = i then (x.1, xorL a m x.2) else x
def rotO (i : Int) (a : Nat) (m : Int) (O : List (Int × List Int)) : List (Int × List Int) := O.map (rotX i a m)
def rotQ (i : Int) (a : Nat) (m : Int) (O : List (Int × List Int)) (q : Nat) : List (Int × List Int) := (O.take q).map (rotX i a m) ++ O.drop q
theorem rotX_fst (i : Int) (a : Nat) (m : Int) (x : Int × List Int) : (rotX i a m x).1 = x.1 := by unfold rotX; split <;> rfl
theorem rotQ_len (i : Int) (a : Nat) (m : Int) (O : List (Int × List Int)) (q : Nat) : (rotQ i a m O q).length = O.length := by
  unfold rotQ
  rw [List.length_append, List.length_map, List.length_take, List.length_drop]
  omega
theorem rotQ_zero (i : Int) (a : Nat) (m : Int) (O : List (Int × List Int)) : rotQ i a m O 0 = O := by simp [rotQ]
theorem rotQ_all (i : Int) (a : Nat) (m : Int) (O : List (Int × List Int)) : rotQ i a m O O.length = rotO i a m O := by simp [rotQ, rotO]
theorem rotQ_at (i : Int) (a : Nat) (m : Int) (O : List (Int × List Int)) (q : Nat) (h : q < O.length) : (rotQ i a m O q).getD q (0, []) = O.getD q (0, []) := by
  have hl : ((O.take q).map (rotX i a m)).length = q := by rw [List.length_map, List.length_take]; omega
  unfold rotQ
  rw [List.getD, List.getElem?_append_right (by omega), hl, Nat.sub_self, List.getElem?_drop, Nat.add_zero]
  rfl
theorem rotQ_succ (i : Int) (a : Nat) (m : Int) (O : List (Int × List Int)) (q : Nat) (h : q < O.length) : rotQ i a m O (q + 1) = (rotQ i a m O q).set q (rotX i a m (O.getD q (0, []))) := by
  have hl : ((O.take q).map (rotX i a m)).length = q := by rw [List.length_map, List.length_take]; omega
  have hd : O.drop q = O.getD q (0, []) :: O.drop (q + 1) := by
    rw [List.drop_eq_getElem_cons h]
    simp [List.getD, List.getElem?_eq_getElem h]
  unfold rotQ
  rw [take_snoc O q h, List.map_append, List.set_append_right _ _ (by omega), hl, Nat.sub_self, hd]
  simp
theorem arr_at' {b : List Int} {i : Nat} (h : i < b.length) : (bytesV b)[i]? = some (.int .u8 (b.getD i 0)) := by
  have := arr_at h
  rwa [List.getElem?_toArray] at this
theorem lastO_fst {O P : List (Int × List Int)} (h : O.map (·.1) = P.map (·.1)) : lastO O = lastO P := by
  have hl : O.length = P.length := by have := congrArg List.length h; simpa using this
  funext i
  unfold lastO
  rw [hl]
  congr 1
  refine List.filter_congr (fun k hk => ?_)
  have hk' := List.mem_range.1 hk
  have e : (O.map (·.1)).getD k 0 = (P.map (·.1)).getD k 0 := by rw [h]
  have e1 : (O.getD k (0, [])).1 = (P.getD k (0, [])).1 := by
    simpa [List.getD, List.getElem?_eq_getElem hk', List.getElem?_eq_getElem (show k < O.length by omega)] using e
  rw [e1]
theorem rotX_map (i : Int) (a : Nat) (m : Int) : ∀ O : List (Int × List Int), (O.map (rotX i a m)).map (·.1) = O.map (·.1)
  | [] => rfl
  | x :: O => by rw [List.map_cons, List.map_cons, List.map_cons, rotX_fst, rotX_map i a m O]
theorem rotQ_map (i : Int) (a : Nat) (m : Int) (O : List (Int × List Int)) (q : Nat) : (rotQ i a m O q).map (·.1) = O.map (·.1) := by
  unfold rotQ
  rw [List.map_append, rotX_map, ← List.map_append, List.take_append_drop]
theorem opsC_set : ∀ (O : List (Int × List Int)), (∀ x ∈ O, Blk x.2) → ∀ (q a : Nat) (i : Int) (b : List Int) (y : Int), q < O.length → a < 512 → O.getD q (0, []) = (i, b) → opsC (O.set q (i, b.set a y)) = (opsC O).set (q * 513 + 1 + a) (.int .u8 y)
  | [], _, q, _, _, _, _, h, _, _ => absurd h (Nat.not_lt_zero _)
  | x :: O, hO, 0, a, i, b, y, _, ha, e => by
    have e' : x = (i, b) := e
    subst e'
    have hl : (opC (i, b)).length = 513 := opC_len (hO _ (by simp))
    show opC (i, b.set a y) ++ opsC O = (opC (i, b) ++ opsC O).set (0 * 513 + 1 + a) (.int .u8 y)
    rw [List.set_append_left _ _ (by omega), Nat.zero_mul, Nat.zero_add, Nat.add_comm 1]
    unfold opC bytesV
    rw [List.set_cons_succ, List.map_set]
  | x :: O, hO, q + 1, a, i, b, y, h, ha, e => by
    have hl : (opC x).length = 513 := opC_len (hO _ (by simp))
    have ih := opsC_set O (fun z hz => hO z (by simp [hz])) q a i b y (by simpa using h) ha e
    show opC x ++ opsC (O.set q (i, b.set a y)) = (opC x ++ opsC O).set ((q + 1) * 513 + 1 + a) (.int .u8 y)
    rw [ih, List.set_append_right _ _ (by omega), hl, show (q + 1) * 513 + 1 + a - 513 = q * 513 + 1 + a from by omega]
/-- A byte of an open write is set. -/
theorem Dv.byte {W : World} {base gd gv gl gn N g n cap : Nat} {size : Int} {L : Int → List Int} {O : List (Int × List Int)} {fuse : Int} (h : Dv W base gd gv gl gn (.slice (some ⟨g, 0, Option.none⟩) n cap) N size L O fuse) (hn : O.length = n) (q a : Nat) (i : Int) (b : List Int) (y : Int) (hq : q < O.length) (ha : a < 512) (e : O.getD q (0, []) = (i, b)) (hy : 0 ≤ y ∧ y ≤ 255) :
    Dv (W.setCell ⟨g, q * 513 + 1 + a, Option.none⟩ (.int .u8 y)) base gd gv gl gn (.slice (some ⟨g, 0, Option.none⟩) n cap) N size L (O.set q (i, b.set a y)) fuse ∧ Fr base W (W.setCell ⟨g, q * 513 + 1 + a, Option.none⟩ (.int .u8 y)) := by
  subst hn
  obtain ⟨hs, hg⟩ := h.row.stored (q * 513 + 1 + a) (.int .u8 y)
  obtain ⟨cs, hbase, hblk⟩ : ∃ cs, base ≤ g ∧ W.heap[g]? = some (.cells cs 83 (0, 0)) := by
    rcases h.row.2 with ⟨e2, _⟩ | ⟨g', cp, cur, e2, h4, h5, _⟩
    · cases e2
    · cases e2; exact ⟨_, h4, h5⟩
  have hoth : ∀ j, j ≠ g → (W.setCell ⟨g, q * 513 + 1 + a, Option.none⟩ (.int .u8 y)).heap[j]? = W.heap[j]? := fun j hj => Below.heap_setCell W ⟨g, q * 513 + 1 + a, Option.none⟩ _ j hj
  have hm : ∀ x ∈ O, Blk x.2 := fun x hx => (h.okO x hx).1
  have hib : Blk b ∧ okI i := by have := h.okO _ (getD_mem hq); rw [e] at this; exact this
  have hb' : Blk (b.set a y) := ⟨by rw [List.length_set]; exact hib.1.len, fun z hz => by
    rcases List.mem_or_eq_of_mem_set hz with h1 | rfl
    · exact hib.1.fits z h1
    · exact hy⟩
  refine ⟨⟨(hoth gd ?_).trans h.dsk, (hoth gv ?_).trans h.dev, ?_, h.lst.later (hoth gl ?_) (Nat.le_refl _), ?_, h.okL, fun x hx => ?_, h.okF, h.okS, h.bd, h.bv, h.bl, h.bn, h.ne⟩, (Below.refl _ _).setCell hbase _, fun j cs' t fr h1 h2 h3 => (hoth j ?_).trans h3⟩
  · rintro rfl; have h2 := h.dsk; unfold Dk at h2; rw [hblk] at h2; simp at h2
  · rintro rfl; have h2 := h.dev; unfold Dc at h2; rw [hblk] at h2; simp at h2
  · rw [List.length_set, opsC_set O hm q a i b y hq ha e]; exact hs
  · rintro rfl; obtain ⟨es, ck, hh⟩ := h.lst.map; rw [hblk] at hh; cases hh
  · have hf : (O.set q (i, b.set a y)).map (·.1) = O.map (·.1) := by
      rw [List.map_set]
      have : O.map (·.1) = (O.map (·.1)).set q i := by
        have hq' : q < (O.map (·.1)).length := by simpa using hq
        have e2 : (O.map (·.1))[q] = i := by
          have := congrArg Prod.fst e
          simpa [List.getD, List.getElem?_eq_getElem hq] using this
        rw [← e2, List.set_getElem_self]
      exact this.symm
    rw [lastO_fst hf]
    exact h.nst.later (hoth gn (by rintro rfl; obtain ⟨es, ck, hh⟩ := h.nst.map; rw [hblk] at hh; cases hh)) (Nat.le_refl _)
  · rcases List.mem_or_eq_of_mem_set hx with h1 | rfl
    · exact h.okO x h1
    · exact ⟨hb', hib.2⟩
  · rintro rfl
    rw [hblk] at h3
    injection h3 with h3
    injection h3 with _ h3
    exact h2 h3.symm
def RotPost (base gd gv gl gn N : Nat) (size : Int) (L : Int → List Int) (O : List (Int × List Int)) (fuse i : Int) (a : Nat) (m : Int) (w : World) (w' : World) : Prop :=
  (∃ v', Dv w' base gd gv gl gn v' (N + 1) size (setI L i (xorL a m (L i))) (rotO i a m O) fuse) ∧ Fr base w w'
set_option maxHeartbeats 6400000 in
set_option maxRecDepth 100000 in
theorem drot_ok (base gd gv gl gn N : Nat) (v : Value) (size : Int) (L : Int → List Int) (O : List (Int × List Int)) (fuse i : Int) (an : Nat) (m : Int) (w : World) (k : Dv w base gd gv gl gn v N size L O fuse) (hi : okI i) (han : an < 512) (hmk : 0 ≤ m ∧ m ≤ 255) (hN : N + 1 ≤ 1000000) (hO : O.length ≤ 100000) :
    Calls Try.prog 41 #[.pointer (some ⟨gv, 0, none⟩), .int .i64 i, .int .i64 (an : Int), .int .u8 m] w fun e w' => (∃ x, e = .returned x) ∧ RotPost base gd gv gl gn N size L O fuse i an m w w' := by
  unfold RotPost
  obtain ⟨av, cv, rfl⟩ := own_slice k.row
  have hz : ∀ w, (zeroValue 73).run Try.prog w = .ok (.agg (bytesV z512).toArray) w := Try.zero73
  have hzl : (bytesV z512).toArray.size = 512 := by rw [List.size_toArray, bytesV_len]; exact blk_z.len
  generalize (bytesV z512).toArray = Z at hz hzl
  obtain ⟨_, c1, _, _, _, _⟩ := k.dev.cells
  have hlk := k.lst.look hi
  have hbl : (bytesV (L i)).toArray.size = 512 := by rw [List.size_toArray, bytesV_len]; exact (k.okL i).len
  have hba := blk_all (L i)
  have HE := hid (heap_new w (.cells Z 73))
  have HRW := hid (World.setRow_alloc_new w Z (bytesV (L i)).toArray 73)
  have hri := ri_arr (heap_new w (.cells (bytesV (L i)).toArray 73)) (k.okL i)
  have cx : (w.alloc (.cells (bytesV (L i)).toArray 73)).cell? ⟨w.heap.size, an, none⟩ = some (.int .u8 ((L i).getD an 0)) := by
    rw [Joins.cell_of_block (heap_new w _) an]
    exact arr_at (by rw [(k.okL i).len]; exact han)
  have cf : (w.alloc (.cells (bytesV (L i)).toArray 73)).frozen? ⟨w.heap.size, an, none⟩ = false := Joins.unfrozen_of_block (heap_new w _) an
  have hxe := xor_arr an m (L i)
  have hbx := xor_blk (a := an) (k.okL i) hmk
  have hX2 : (Try.prog.info? 73).map (·.size) = some (bytesV (xorL an m (L i))).toArray.size := by rw [List.size_toArray, bytesV_len, hbx.len]; exact Try.size73
  have HA2 := hid (bel_alloc w (.cells (bytesV (xorL an m (L i))).toArray 73))
  have HE2 := hid (heap_new w (.cells (bytesV (xorL an m (L i))).toArray 73))
  have HK2 := hid (k.below HA2.out)
  have HHO := hid (hold_ok gv gl N size _ _ fuse false L i (xorL an m (L i)) _ HK2.out.dev HK2.out.lst hi hbx hN)
  unfold HolPost at HHO
  have HLX : Hid (∀ j, Blk (setI L i (xorL an m (L i)) j)) := fun j => by
    unfold setI
    split
    · exact hbx
    · exact k.okL j
  have HSZ := hid k.size
  have HF0 : Hid (Fr base w (w.alloc (.cells (bytesV (xorL an m (L i))).toArray 73))) := Fr.of_below HA2.out k.size
  have hha1 : (an : Int) < 512 := by omega
  have hha2 : (0 : Int) ≤ (an : Int) := by omega
  have hcr := getD_fits (k.okL i) an
  unfold blkV at hlk
  generalize setI L i (xorL an m (L i)) = L' at *
  generalize bytesV (xorL an m (L i)) = Y at *
  generalize (bytesV (L i)).toArray = X at *
  generalize (L i).getD an 0 = c at *
  unfold xorZ at hxe
  obtain ⟨n, hn⟩ : ∃ n, n = O.length := ⟨_, rfl⟩
  have HN := hid hn
  rw [← hn] at HK2 hO
  clear hn hri hbx
  clear k
  go_enter Try.func41, Try.ntmps41
  go_wp2_with (first
    | (refine wpList_store_rowTo rfl 73 _ _ rfl rfl w.heap.size X rfl rfl 73 Z HE.out (by rw [hbl]; exact Try.size73) (by rw [hzl, hbl]) hba ?_; rw [HRW.out])
    | (refine wpList_load_row rfl 73 _ rfl w.heap.size rfl 73 Y.toArray (0, 0) _ HE2.out Try.underlying73 rfl hX2 ?_))
  refine HHO.out.mono ?_
  rintro _ w2 ⟨⟨y, rfl⟩, hml, hbt⟩
  have HD2 := hid (HK2.out.lasts hbt hml HLX.out (Nat.le_succ _))
  have HF2 := hid (HF0.out.trans (hbt.fr HK2.out.lst.map HK2.out.bl HK2.out.size))
  obtain ⟨_, _, c2, _, _, _⟩ := HD2.out.dev.cells
  clear hml hbt HHO HK2 HF0 HE HRW HE2 HA2 cx cf hlk c1 hxe hX2 hba hbl
  go_wp2_with fail
  go_loopw [31] (fun j wr => ∃ q : Nat, j = .int .i64 (q : Int) ∧ q ≤ n ∧ Hid (Dv wr base gd gv gl gn (.slice av n cv) (N + 1) size L' (rotQ i an m O q) fuse) ∧ Hid (Fr base w wr)) (fun j _ => n - (intOf j).toNat)
  case atStart => exact ⟨0, rfl, Nat.zero_le _, by rw [rotQ_zero]; exact HD2.out, HF2.out⟩
  case round =>
    clear c2 HD2 HF2
    obtain ⟨q, rfl, hq, HD, HF⟩ := hrel
    obtain ⟨_, _, c2, _, _, _⟩ := HD.out.dev.cells
    by_cases hlt : q < n
    · have hki : (q : Int) < (n : Int) := by omega
      have hki0 : (0 : Int) ≤ (q : Int) := by omega
      have hrl : (rotQ i an m O q).length = n := by rw [rotQ_len]; exact HN.out.symm
      have hqO : q < O.length := by rw [← HN.out]; exact hlt
      have hrw := HD.out.row
      obtain ⟨g, cap2, e, hc1, hc2, _, _, hat⟩ := open_at (W := wr) (O := rotQ i an m O q) hrw (fun x hx => (HD.out.okO x hx).1) (by omega)
      rw [hrl] at e hc1
      cases e
      obtain ⟨hrg, hth⟩ := hat q (by omega)
      rw [rotQ_at i an m O q hqO] at hrg
      have hmem : O.getD q (0, []) = (rotQ i an m O q).getD q (0, []) := (rotQ_at i an m O q hqO).symm
      have hok := HD.out.okO _ (getD_mem (O := rotQ i an m O q) (k := q) (by omega))
      rw [← hmem] at hok
      have c3 := range_head hrg
      have HSU := hid (rotQ_succ i an m O q hqO)
      generalize hX : O.getD q (0, []) = x at *
      obtain ⟨xi, xb⟩ := x
      dsimp only at *
      by_cases hxi : xi = i
      · subst hxi
        have e1 : (xi == xi) = true := by simp
        have c4 := range_bytes hrg an _ (arr_at' (by rw [hok.1.len]; exact han))
        have c5 : wr.frozen? ⟨g, q * 513 + 1 + an, none⟩ = false := by have := (hth (1 + an) (by omega)).2; rw [← Nat.add_assoc] at this; exact this
        have hbr := xorZ_rng (getD_fits hok.1 an) hmk
        have HBY := hid (fun (W : World) (hW : Dv W base gd gv gl gn (.slice (some ⟨g, 0, none⟩) n cv) (N + 1) size L' (rotQ xi an m O q) fuse) => hW.byte hrl q an xi xb (xorZ (xb.getD an 0) m) (by omega) han (hmem.symm.trans rfl) hbr)
        have HSX : Hid ((rotQ xi an m O q).set q (xi, xb.set an (xorZ (xb.getD an 0) m)) = rotQ xi an m O (q + 1)) := by
          show _ = _
          rw [HSU.out]
          unfold rotX xorL
          rw [if_pos rfl]
        rw [HSX.out] at HBY
        unfold xorZ at HBY
        have hcr2 := getD_fits hok.1 an
        dsimp only at c4
        generalize xb.getD an 0 = c9 at *
        clear hat hrg hth HSU HSX hmem hbr hrw
        go_wp2_with fail
        refine OrdE.region (fun W => Dc W gv size (.map (some gl)) (.slice (some ⟨g, 0, none⟩) n cv) (.map (some gn)) fuse false ∧ W.cell? ⟨g, q * 513 + 1 + an, none⟩ = some (.int .u8 c9)) 15 (by kernel_rfl) (show Dc wr.drew gv size (.map (some gl)) (.slice (some ⟨g, 0, none⟩) n cv) (.map (some gn)) fuse false ∧ wr.drew.cell? ⟨g, q * 513 + 1 + an, none⟩ = some (.int .u8 c9) from ⟨HD.out.dev, c4⟩) (fun hSS => ?_)
        have HDD : Hid (Dv wr.drew base gd gv gl gn (.slice (some ⟨g, 0, none⟩) n cv) (N + 1) size L' (rotQ xi an m O q) fuse) := HD.out.later (fun _ _ => rfl)
        have HFD : Hid (Fr base w wr.drew) := HF.out.drew
        have c6 : wr.drew.frozen? ⟨g, q * 513 + 1 + an, none⟩ = false := c5
        clear HD HF c4 c5 c3 c2
        generalize wr.drew = v0 at *
        refine OrdE.take (i := 0) (d := 44) (v := ?va0) rfl rfl rfl (by as_aux_lemma => kernel_rfl) (by as_aux_lemma => kernel_rfl) (by as_aux_lemma => kernel_rfl) (by as_aux_lemma => kernel_rfl) (fun _ _ _ h => h) (by rfl) ?ha0 (by assumption) ?_
        case ha0 => intro w hSw; go_simp; try with_reducible rfl
        simp only [List.setIfInBounds_toArray, List.set_cons_zero, List.set_cons_succ]
        refine OrdE.take (i := 1) (d := 45) (v := ?va1) rfl rfl rfl (by as_aux_lemma => kernel_rfl) (by as_aux_lemma => kernel_rfl) (by as_aux_lemma => kernel_rfl) (by as_aux_lemma => kernel_rfl) (fun _ _ _ h => h) (by rfl) ?ha1 (by assumption) ?_
        case ha1 => intro w hSw; go_simp; try with_reducible rfl
        simp only [List.setIfInBounds_toArray, List.set_cons_zero, List.set_cons_succ]
        refine OrdE.take (i := 2) (d := 46) (v := ?va2) rfl rfl rfl (by as_aux_lemma => kernel_rfl) (by as_aux_lemma => kernel_rfl) (by as_aux_lemma => kernel_rfl) (by as_aux_lemma => kernel_rfl) (fun _ _ _ h => h) (by rfl) ?ha2 (by assumption) ?_
        case ha2 => intro w hSw; go_simp; try with_reducible rfl
        simp only [List.setIfInBounds_toArray, List.set_cons_zero, List.set_cons_succ]
        refine OrdE.take (i := 3) (d := 47) (v := .slice (some ⟨g, 0, none⟩) n cv) rfl rfl rfl (by as_aux_lemma => kernel_rfl) (by as_aux_lemma => kernel_rfl) (by as_aux_lemma => kernel_rfl) (by as_aux_lemma => kernel_rfl) (fun _ _ _ h => h) (by rfl) ?ha3 (by assumption) ?_
        case ha3 => intro w hSw; obtain ⟨q0, q1, q2, q3, q4, q5⟩ := hSw.1.cells; go_simp; try with_reducible rfl
        simp only [List.setIfInBounds_toArray, List.set_cons_zero, List.set_cons_succ]
        refine OrdE.take (i := 4) (d := 48) (v := ?va4) rfl rfl rfl (by as_aux_lemma => kernel_rfl) (by as_aux_lemma => kernel_rfl) (by as_aux_lemma => kernel_rfl) (by as_aux_lemma => kernel_rfl) (fun _ _ _ h => h) (by rfl) ?ha4 (by assumption) ?_
        case ha4 => intro w hSw; go_simp; try with_reducible rfl
        simp only [List.setIfInBounds_toArray, List.set_cons_zero, List.set_cons_succ]
        refine OrdE.take (i := 5) (d := 49) (v := ?va5) rfl rfl rfl (by as_aux_lemma => kernel_rfl) (by as_aux_lemma => kernel_rfl) (by as_aux_lemma => kernel_rfl) (by as_aux_lemma => kernel_rfl) (fun _ _ _ h => h) (by rfl) ?ha5 (by assumption) ?_
        case ha5 => intro w hSw; go_simp; try with_reducible rfl
        simp only [List.setIfInBounds_toArray, List.set_cons_zero, List.set_cons_succ]
        refine OrdE.take (i := 6) (d := 50) (v := .pointer (some ⟨g, q * 513, none⟩)) rfl rfl rfl (by as_aux_lemma => kernel_rfl) (by as_aux_lemma => kernel_rfl) (by as_aux_lemma => kernel_rfl) (by as_aux_lemma => kernel_rfl) (fun _ _ _ h => h) (by rfl) ?ha6 (by assumption) ?_
        case ha6 => intro w hSw; go_simp; try with_reducible rfl
        simp only [List.setIfInBounds_toArray, List.set_cons_zero, List.set_cons_succ]
        refine OrdE.take (i := 7) (d := 51) (v := .pointer (some ⟨g, q * 513 + 1, none⟩)) rfl rfl rfl (by as_aux_lemma => kernel_rfl) (by as_aux_lemma => kernel_rfl) (by as_aux_lemma => kernel_rfl) (by as_aux_lemma => kernel_rfl) (fun _ _ _ h => h) (by rfl) ?ha7 (by assumption) ?_
        case ha7 => intro w hSw; go_simp; try with_reducible rfl
        simp only [List.setIfInBounds_toArray, List.set_cons_zero, List.set_cons_succ]
        refine OrdE.take (i := 8) (d := 52) (v := .pointer (some ⟨g, q * 513 + 1 + an, none⟩)) rfl rfl rfl (by as_aux_lemma => kernel_rfl) (by as_aux_lemma => kernel_rfl) (by as_aux_lemma => kernel_rfl) (by as_aux_lemma => kernel_rfl) (fun _ _ _ h => h) (by rfl) ?ha8 (by assumption) ?_
        case ha8 => intro w hSw; go_simp; try with_reducible rfl
        simp only [List.setIfInBounds_toArray, List.set_cons_zero, List.set_cons_succ]
        refine OrdE.take (i := 9) (d := 53) (v := .int .u8 c9) rfl rfl rfl (by as_aux_lemma => kernel_rfl) (by as_aux_lemma => kernel_rfl) (by as_aux_lemma => kernel_rfl) (by as_aux_lemma => kernel_rfl) (fun _ _ _ h => h) (by rfl) ?ha9 (by assumption) ?_
        case ha9 => intro w hSw; have q9 := hSw.2; go_simp; try with_reducible rfl
        simp only [List.setIfInBounds_toArray, List.set_cons_zero, List.set_cons_succ]
        refine OrdE.take (i := 10) (d := 54) (v := ?va10) rfl rfl rfl (by as_aux_lemma => kernel_rfl) (by as_aux_lemma => kernel_rfl) (by as_aux_lemma => kernel_rfl) (by as_aux_lemma => kernel_rfl) (fun _ _ _ h => h) (by rfl) ?ha10 (by assumption) ?_
        case ha10 => intro w hSw; go_simp; try with_reducible rfl
        simp only [List.setIfInBounds_toArray, List.set_cons_zero, List.set_cons_succ]
        refine OrdE.take (i := 11) (d := 55) (v := .int .u8 (bits .xor .u8 c9 m)) rfl rfl rfl (by as_aux_lemma => kernel_rfl) (by as_aux_lemma => kernel_rfl) (by as_aux_lemma => kernel_rfl) (by as_aux_lemma => kernel_rfl) (fun _ _ _ h => h) (by rfl) ?ha11 (by assumption) ?_
        case ha11 => intro w hSw; go_simp; try with_reducible rfl
        simp only [List.setIfInBounds_toArray, List.set_cons_zero, List.set_cons_succ]
        refine OrdE.one (i := 12) (by as_aux_lemma => kernel_rfl) rfl (fun K hK => ?_)
        go_simp
        refine hK.out _ _ (fun _ => hSS) ?_
        clear hK K
        try refine OrdE.put (d := 56) rfl ?_
        try simp only [List.setIfInBounds_toArray, List.set_cons_zero, List.set_cons_succ]
        refine OrdE.one (i := 13) (by as_aux_lemma => kernel_rfl) rfl (fun K hK => ?_)
        go_simp
        refine hK.out _ _ (fun _ => hSS) ?_
        clear hK K
        try refine OrdE.put (d := 57) rfl ?_
        try simp only [List.setIfInBounds_toArray, List.set_cons_zero, List.set_cons_succ]
        refine OrdE.one (i := 14) (by as_aux_lemma => kernel_rfl) rfl (fun K hK => ?_)
        go_simp
        refine hK.out _ _ (fun _ => hSS) ?_
        clear hK K
        try refine OrdE.put (d := 58) rfl ?_
        try simp only [List.setIfInBounds_toArray, List.set_cons_zero, List.set_cons_succ]
        have yc := hSS.2
        refine OrdE.one (i := 15) (by as_aux_lemma => kernel_rfl) rfl (fun K hK => ?_)
        go_simp
        refine hK.out _ _ (fun h => absurd rfl h) ?_
        clear hK K
        try simp only [List.setIfInBounds_toArray, List.set_cons_zero, List.set_cons_succ]
        refine OrdE.done (by as_aux_lemma => kernel_rfl) ?_ _
        obtain ⟨hd9, hf9⟩ := HBY.out v0 HDD.out
        have HD9 := hid hd9
        have HF9 := hid (HFD.out.trans hf9)
        clear hd9 hf9 HBY HDD HFD hSS yc c6
        go_wp2_with fail
        exact ⟨⟨q + 1, by go_num, hlt, HD9, HF9⟩, by simp only [intOf]; omega⟩
      · have e1 : (xi == i) = false := by simpa using hxi
        have HD3 : Hid (Dv wr base gd gv gl gn (.slice (some ⟨g, 0, none⟩) n cv) (N + 1) size L' (rotQ i an m O (q + 1)) fuse) := by
          show Dv _ _ _ _ _ _ _ _ _ _ _ _
          rw [HSU.out, show rotX i an m (xi, xb) = (xi, xb) from if_neg hxi]
          have : (rotQ i an m O q).set q (xi, xb) = rotQ i an m O q := by
            have hq2 : q < (rotQ i an m O q).length := by omega
            have e9 : (rotQ i an m O q)[q] = (xi, xb) := by
              have := hmem.symm
              simpa [List.getD, List.getElem?_eq_getElem hq2] using this
            rw [← e9, List.set_getElem_self]
          rw [this]
          exact HD.out
        clear hat hrg hth HSU hmem HD hok hrw
        go_wp2_with fail
        exact ⟨⟨q + 1, by go_num, hlt, HD3, HF⟩, by simp only [intOf]; omega⟩
    · have hkn : q = n := by omega
      subst hkn
      have hki : ¬ (q : Int) < (q : Int) := by omega
      have HDF : Hid (Dv wr base gd gv gl gn (.slice av q cv) (N + 1) size L' (rotO i an m O) fuse) := by
        have h1 := HD.out
        rw [HN.out, rotQ_all, ← HN.out] at h1
        exact h1
      clear HD
      go_wp2_with fail
      go_end0
      exact ⟨⟨_, rfl⟩, ⟨_, HDF.out⟩, HF.out⟩
set_option maxHeartbeats 6400000 in
set_option maxRecDepth 100000 in
theorem rot_ok (base gd gv gl gn N : Nat) (v : Value) (size : Int) (L : Int → List Int) (O : List (Int × List Int)) (fuse i at_ m : Int) (w : World) (k : Dv w base gd gv gl gn v N size L O fuse) (hi : 0 ≤ i ∧ i < size) (ha : 0 ≤ at_ ∧ at_ < 512) (hmk : 0 ≤ m ∧ m ≤ 255) (hN : N + 1 ≤ 1000000) (hO : O.length ≤ 100000) :
    Calls Try.prog 19 #[.pointer (some ⟨gd, 0, none⟩), .int .i64 i, .int .i64 at_, .int .u8 m] w fun e w' => e = .returned (.int .i64 0) ∧ RotPost base gd gv gl gn N size L O fuse i at_.toNat m w w' := by
  have hs := k.okS
  have HM := hid (has_ok gd gv size i _ v _ fuse w k.dsk k.dev)
  rw [show hasE size i = 0 from if_pos hi] at HM
  have HR := hid (drot_ok base gd gv gl gn N v size L O fuse i at_.toNat m w k (wf_mk_i64 (by omega) (by omega)) (by omega) hmk hN hO)
  rw [show ((at_.toNat : Nat) : Int) = at_ from by omega] at HR
  have c0 := k.dsk.cell
  obtain ⟨a1, a2⟩ := ha
  have a3 : ¬ at_ < 0 := by omega
  have a4 : ¬ 512 ≤ at_ := by omega
  clear k hi hs
  go_enter Try.func19, Try.ntmps19
  go_wp2_with fail
  refine HM.out.mono ?_
  rintro _ w1 ⟨rfl, hw⟩
  obtain rfl := hw.symm
  clear hw HM
  go_wp2_with fail
  refine HR.out.mono ?_
  rintro _ w2 ⟨⟨x, rfl⟩, hp⟩
  have HP := hid hp
  clear hp HR c0
  go_wp2_with fail
  go_ret
  exact ⟨rfl, HP.out⟩
theorem rot_at (gd gv : Nat) (i at_ m size : Int) (ml v mn : Value) (fuse : Int) (w : World) (k : Dk w gd gv) (c : Dc w gv size ml v mn fuse false) (hi : 0 ≤ i ∧ i < size) (ha : ¬ (0 ≤ at_ ∧ at_ < 512)) : Calls Try.prog 19 #[.pointer (some ⟨gd, 0, none⟩), .int .i64 i, .int .i64 at_, .int .u8 m] w fun e w' => e = .returned (.int .i64 5) ∧ w' = w := by
  have HM := hid (has_ok gd gv size i ml v mn fuse w k c)
  rw [show hasE size i = 0 from if_pos hi] at HM
  clear k c
  by_cases h1 : at_ < 0
  · go_enter Try.func19, Try.ntmps19
    go_wp2_with fail
    refine HM.out.mono ?_
    rintro _ w1 ⟨rfl, hw⟩
    obtain rfl := hw.symm
    clear hw HM
    go_wp2_with fail
    go_ret
    exact ⟨rfl, rfl⟩
  · have h2 : 512 ≤ at_ := by omega
    go_enter Try.func19, Try.ntmps19
    go_wp2_with fail
    refine HM.out.mono ?_
    rintro _ w1 ⟨rfl, hw⟩
    obtain rfl := hw.symm
    clear hw HM
    go_wp2_with fail
    go_ret
    exact ⟨rfl, rfl⟩
end Go.Proofs.Ytldgiimkkgmgaaa
