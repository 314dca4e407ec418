/-
  The statements' own check of a torn write.
-/
import Derived.Test.YtldgiimkkgmgaaaPart04
import Derived.Lib.SlBytesConst
import Derived.Laws.AppendOwnNone
import Derived.Deep.Matrix
import Derived.Deep.Grids
namespace Go.Proofs.Ytldgiimkkgmgaaa
open Go.RowKit

theorem Ri.str {w : World} {a : Option Addr} {cap : Nat} {zs : List Int} (h : Ri w .u8 a cap zs) : (convert 33 9 (.slice a zs.length cap)).run Try.prog w = .ok (.string (strOfNums zs)) w := by
  by_cases h0 : 0 < zs.length
  · obtain ⟨b, off, rfl, _, hc⟩ := h.cells h0
    exact run_convert_bytes_arg (P := Try.prog) w 33 5 Try.underlying33 Try.underlying5 b off zs.length cap zs rfl hc 9 Try.underlying9
  · have hz : zs = [] := List.length_eq_zero_iff.1 (by omega)
    subst hz
    rw [run_convert_bytes_string w 33 9 5 a _ cap Try.underlying33 Try.underlying5 Try.underlying9]
    cases a with
    | none => rfl
    | some a => rfl
def s6 : List Int := [97, 98, 99, 100, 101, 102]
theorem s6_rx {base : Nat} {w : World} {g : Nat} {fr : Nat × Nat} (h : w.heap[g]? = some (.cells (s6.map (Value.int .u8)).toArray 5 fr)) : Rx base w (some ⟨g, 0, none⟩) 6 s6 := by
  refine Rx.blk ⟨by decide, by unfold maxLen; omega, fun _ => ⟨g, 0, rfl, (Array.getElem?_eq_some_iff.1 h).1, fun j hj => ?_⟩, wf_of (by decide)⟩ (fun b off W e _ hf => ?_)
  · rw [Nat.zero_add, Joins.cell_of_block h j, List.getElem?_toArray, List.getElem?_map, List.getElem?_eq_getElem hj]
    simp [List.getD, List.getElem?_eq_getElem hj]
  · cases e
    rw [h]
    exact hf.typ g _ 5 fr (by decide) (by decide) h
theorem alive_read : (loseF (fun _ => z512) [(3, wholeL s6)] [] 0 2 1 3).take 3 = [97, 98, 0] := by decide +kernel
set_option maxHeartbeats 6400000 in
set_option maxRecDepth 100000 in
theorem alive_any (w : World) : Calls Try.prog 10 #[] w fun e w' => e = .returned (.bool true) ∧ Below w.heap.size w w' := by
  have HNW := hid (new_ok 4 w ⟨by omega, by omega⟩)
  unfold NewPost at HNW
  have kc := fun W => Lib.run_convert_bytes_const (P := Try.prog) W 33 5 (s6.map (Value.int .u8)).toArray 6 6 Try.underlying33 Try.underlying5
  simp only [s6, List.map_cons, List.map_nil, List.size_toArray, List.length_cons, List.length_nil, Nat.reduceAdd] at kc
  go_enter Try.func10, Try.ntmps10
  go_wp2_with fail
  refine HNW.out.mono ?_
  rintro _ w1 ⟨gd, gv, gl, gn, rfl, hd, hb⟩
  have HA := hid (bel_alloc w1 (.cells (s6.map (Value.int .u8)).toArray 5 (6, 7)))
  have HE := hid (heap_new w1 (.cells (s6.map (Value.int .u8)).toArray 5 (6, 7)))
  have HB1 := hid (Bn hb HA.out)
  have HD1 := hid (hd.below HA.out)
  have HWR := hid (write_ok w.heap.size gd gv gl gn 0 _ 4 _ [] (-1) 3 _ 6 s6 _ HD1.out (s6_rx HE.out) (by omega) (by decide))
  unfold WriPost at HWR
  rw [show wrC 4 (-1) 3 s6.length = 0 from by decide, show wrO 4 (-1) 3 [] s6 = [(3, wholeL s6)] from by unfold wrO; rw [if_pos (by decide)]; rfl, show wrF 4 (-1) 3 s6.length = -1 from by decide, show s6.length = 6 from rfl] at HWR
  have kc1 := kc w1
  simp only [s6, List.map_cons, List.map_nil] at HWR HA HB1 HD1
  clear hd hb HNW HE HA HD1 kc
  go_wp2_with fail
  refine HWR.out.mono ?_
  rintro _ w2 ⟨rfl, ⟨v2, hd2⟩, hf2⟩
  have HLS := hid (lose_ok w.heap.size gd gv gl gn 1 v2 4 _ _ (-1) none 0 [] 0 2 w2 hd2 (Kx.nil _ _) (wf_mk_i64 (by omega) (by omega)) (by simp))
  unfold LosPost at HLS
  simp only [List.length_cons, List.length_nil, Nat.reduceAdd] at HLS
  have HAR := alive_read
  simp only [s6] at HAR
  have HB2 := hid (HB1.out.trans hf2.bel)
  generalize hLf : loseF (fun _ => z512) [(3, wholeL [97, 98, 99, 100, 101, 102])] [] 0 2 1 = Lf at *
  clear hd2 hf2 HWR HB1 kc1 hLf
  go_wp2_with fail
  refine HLS.out.mono ?_
  rintro _ w3 ⟨gd2, gv2, gn2, rfl, hd3, hdn, hf3⟩
  have HB3 := hid (HB2.out.trans hf3.bel)
  have HD3 := hid hd3
  have HDN := hid hdn
  have HDO := hid (down_ok gd gv 4 _ _ _ 0 true w3 hdn.1 hdn.2)
  have HRE := hid (read_ok _ gd2 gv2 gl gn2 _ _ 4 Lf [] (-1) 3 w3 hd3 ⟨by omega, by omega⟩)
  unfold ReaPost at HRE
  rw [show holdF Lf [] 3 = Lf 3 from rfl] at HRE
  have HBK := hid (hd3.okL 3)
  clear hd3 hdn hf3 HLS HB2
  go_wp2_with fail
  refine HDO.out.mono ?_
  rintro _ w4 ⟨rfl, hw4⟩
  obtain rfl := hw4.symm
  clear hw4 HDO
  go_wp2_with fail
  refine HRE.out.mono ?_
  rintro _ w5 ⟨g, rfl, hg, hgs, hb5⟩
  have HB5 := hid (HB3.out.trans (hb5.mono HB3.out.size))
  have HRF := hid (read_e (.pointer (some ⟨gd, 0, none⟩)) 3 91 w5 (by decide) (up_down gd gv 4 _ _ _ 0 w5 ((hb5.block gd HDN.out.1.lt).trans HDN.out.1) ((hb5.block gv HDN.out.2.lt).trans HDN.out.2)))
  have hst := ((ri_arr hg HBK.out).take 3).str
  rw [HAR, show ([97, 98, 0] : List Int).length = 3 from rfl] at hst
  have hse : strOfNums [97, 98, 0] = { data := #[97, 98, 0] } := by decide +kernel
  rw [hse] at hst
  clear hg hgs hb5 HRE HDN HD3 HB3 HBK HAR hse
  go_wp2_with fail
  refine HRF.out.mono ?_
  rintro _ w6 ⟨rfl, hw6⟩
  obtain rfl := hw6.symm
  clear hw6 HRF
  go_wp2_with fail
  go_ret
  exact ⟨rfl, HB5.out⟩
end Go.Proofs.Ytldgiimkkgmgaaa
/-
  append of bytes, whatever slice they lie in; the statements' cut; the document's Whole.
-/
namespace Go.Proofs.Ytldgiimkkgmgaaa
open Go.RowKit

theorem Try.info5c : (Try.prog.info? 5).map (fun i => (i.zero, i.size, i.bytes)) = some (some (.int .u8 0), 1, 1) := by kernel_rfl
theorem run_append_nil {P : Program} {w : World} (base : Nat) (t ty e : TypeId) (i : TypeInfo) (size cp : Nat) (ht : P.underlying t = some (.slice e)) (hi : P.info? e = some i)
    (v : Value) (n : Nat) (xs : List Value) (hown : w.ownsRow base e size v n xs) : (Builtin.append_ #[t, t] ty #[v, .slice none 0 cp]).run P w = .ok v w := by
  rcases hown.2 with ⟨rfl, rfl⟩ | ⟨g, cap, cur, rfl, _, _, hnc, _⟩
  · simp [Builtin.append_, run_underlying ht, sizeOf, typeInfo, hi, Builtin.lenOf, Builtin.firstCells]
  · simp [Builtin.append_, run_underlying ht, sizeOf, typeInfo, hi, Builtin.lenOf, Builtin.firstCells, hnc, storeCells]
theorem wpList_append_nil {P : Program} {w : World} {ops : Array Oper} {rest : List Oper} {o : Oper} {a : Act} {Q : Exit → Act → World → Prop} (hgd : o.guard = none) (s x : Operand) (t : TypeId)
    (ho : o.op = .call { callee := .builtin .append, args := #[s, x], argTypes := #[t, t] }) (base : Nat) (e : TypeId) (i : TypeInfo) (size cp : Nat) (ht : P.underlying t = some (.slice e)) (hi : P.info? e = some i)
    (v : Value) (n : Nat) (xs : List Value) (hs : a.eval s = v) (hown : w.ownsRow base e size v n xs) (hx : a.eval x = .slice none 0 cp)
    (h : wpList P ops Q rest (a.put o.dst v) w) : wpList P ops Q (o :: rest) a w := by
  refine wpList_plain hgd fun K hK => ?_
  have hrun := run_append_nil (P := P) (w := w) base t o.type e i size cp ht hi v n xs hown
  unfold Oper.wp
  simp [execOp, ho, resolve, invoke, builtin, hs, hx, hrun, Result.andThen]
  exact hK _ _ h

theorem app_any (w : World) {ops : Array Oper} {rest : List Oper} {o : Oper} {ac : Act} {Q : Exit → Act → World → Prop} (hgd : o.guard = none) (s x : Operand)
    (ho : o.op = .call { callee := .builtin .append, args := #[s, x], argTypes := #[33, 33] }) (B : Nat) (v : Value) (l : List Int) (hs : ac.eval s = v) (hown : w.ownsRow B 5 1 v l.length (l.map (Value.int .u8)))
    (a : Option Addr) (cap : Nat) (zs : List Int) (hx : ac.eval x = .slice a zs.length cap) (hrd : Ri w .u8 a cap zs) (hbd : l.length + zs.length ≤ 10000000) (hB : B ≤ w.heap.size)
    (h : ∀ v' w', w'.ownsRow B 5 1 v' (l ++ zs).length ((l ++ zs).map (Value.int .u8)) → w.grownBy w' v.ownBlock → wpList Try.prog ops Q rest (ac.put o.dst v') w') : wpList Try.prog ops Q (o :: rest) ac w := by
  obtain ⟨i0, hi, hz0, hz1, hz2⟩ := info_parts Try.info5c
  cases a with
  | none =>
    have hz : zs = [] := by
      apply List.length_eq_zero_iff.1
      rcases Nat.eq_zero_or_pos zs.length with h | h
      · exact h
      · obtain ⟨_, _, h', _⟩ := hrd.cells h
        cases h'
    subst hz
    refine wpList_append_nil hgd s x 33 ho B 5 i0 1 cap Try.underlying33 hi v l.length _ hs hown hx ?_
    have := h v w (by simpa using hown) (World.grownBy.refl _ _)
    exact this
  | some ad =>
    refine wpList_append_own w hgd s x 33 ho B 5 i0 (.int .u8 0) 1 1 Try.underlying33 hi hz0 hz1 hz2 rfl (by decide) v l.length _ hs hown ad zs.length cap (zs.map (Value.int .u8)) hx (by simp) ?_ (fun u hu => by obtain ⟨y, _, rfl⟩ := List.mem_map.1 hu; rfl) (by unfold maxLen; omega) (by omega) hB ?_
    · intro j u hj
      have hjl : j < zs.length := by
        have := (List.getElem?_eq_some_iff.1 hj).1
        simpa using this
      obtain ⟨b, off, hb, _, hc⟩ := hrd.cells (by omega)
      have hb' := Option.some.inj hb
      subst hb'
      rw [Go.WideShapes.add_plain, hc j hjl, ← hj]
      simp [List.getD, List.getElem?_eq_getElem hjl]
    · intro v' w' h1 h2 _
      refine h v' w' ?_ h2
      rw [List.length_append, List.map_append]
      exact h1
theorem new_own (w : World) (base : Nat) (hb : base ≤ w.heap.size) : (w.alloc (.cells #[] 5)).ownsRow base 5 1 (.slice (some ⟨w.heap.size, 0, none⟩) 0 0) 0 [] := ⟨rfl, .inr ⟨_, 0, #[], rfl, hb, heap_new w _, Nat.le_refl _, by unfold maxLen; omega, rfl, rfl⟩⟩
theorem bel_grown {base : Nat} {w w' : World} {v : Value} {e s n : Nat} {xs : List Value} (h : w.ownsRow base e s v n xs) (hg : w.grownBy w' v.ownBlock) (hb : base ≤ w.heap.size) : Below base w w' :=
  ⟨hg.os, hg.tape, hg.output, hg.size, fun i hi => hg.block i (Nat.lt_of_lt_of_le hi hb) (fun e' => by
    rcases h.2 with ⟨rfl, _⟩ | ⟨g, cap, cur, rfl, h4, _⟩
    · cases e'
    · cases e'; exact absurd hi (Nat.not_lt.2 h4))⟩
theorem cut_any (a : Option Addr) (cap : Nat) (zs : List Int) (w : World) (hr : Ri w .u8 a cap zs) :
    Calls Try.prog 16 #[.slice a zs.length cap] w fun e w' => e = .returned (.slice a (zs.take 600).length cap) ∧ w' = w := by
  have hcap := hr.room
  have hmax := hr.most
  unfold maxLen at hmax
  have hcells := hr.cells
  clear hr
  by_cases h : 600 < zs.length
  · have hl : (zs.take 600).length = 600 := by simp; omega
    obtain ⟨b, off, rfl, hbw, hc⟩ := hcells (by omega)
    clear hcells hc hbw
    rw [hl]
    generalize zs.length = len at *
    clear hl
    go_enter Try.func16, Try.ntmps16
    go_wp2
    go_ret
    exact ⟨rfl, rfl⟩
  · have hl : (zs.take 600).length = zs.length := by simp; omega
    rw [hl]
    generalize zs.length = len at *
    clear hcells hl
    go_enter Try.func16, Try.ntmps16
    go_wp2
    go_ret
    exact ⟨rfl, rfl⟩
def WhoPost (zs : List Int) (w : World) (e : Ending) (w' : World) : Prop := ∃ v, e = .returned v ∧ w'.ownsRow w.heap.size 5 1 v (wholeL zs).length (bytesV (wholeL zs)) ∧ Below w.heap.size w w'
def lenV : Value → Nat
  | .slice _ n _ => n
  | _ => 0
set_option maxHeartbeats 1600000 in
set_option maxRecDepth 100000 in
theorem whole_ref (a : Option Addr) (cap : Nat) (zs : List Int) (w : World) (hr : Ri w .u8 a cap zs) (hl : zs.length ≤ 1000) : Calls Try.prog 15 #[.slice a zs.length cap] w (WhoPost zs w) := by
  unfold WhoPost
  have HR := hid (hr.later (bel_alloc w (.cells #[] 5)))
  have HO := hid (new_own w w.heap.size (Nat.le_refl _))
  have HB0 := hid (bel_alloc w (.cells #[] 5))
  have hsz : w.heap.size ≤ (w.alloc (.cells #[] 5)).heap.size := HB0.out.size
  obtain ⟨len, hln⟩ : ∃ n, n = zs.length := ⟨_, rfl⟩
  have HL := hid hln
  have hx : (Value.slice a len cap) = .slice a zs.length cap := by rw [hln]
  rw [← hln] at hl
  have hbd : ([] : List Int).length + zs.length ≤ 10000000 := by simp; omega
  obtain ⟨i0, hi0, hz0, hz1, hz2⟩ := info_parts Try.info5c
  rw [← hx]
  have HX := hid hx
  clear hr hln hx
  go_enter Try.func15, Try.ntmps15
  go_wp2_with (at_builtin; refine app_any _ rfl _ _ rfl w.heap.size _ [] rfl HO.out a cap zs HX.out HR.out hbd hsz ?_)
  intro v1 w1 hown hgr
  have HB1 := hid (HB0.out.trans (bel_grown HO.out hgr hsz))
  have HO1 : Hid (w1.ownsRow w.heap.size 5 1 v1 len (bytesV zs)) := by
    show World.ownsRow _ _ _ _ _ _ _
    rw [HL.out]
    exact hown
  clear hown hgr HB0 HO HR HX hsz hbd
  go_wp2_with fail
  go_loopw [3] (fun v wr => ∃ q : Nat, (q = 0 ∨ len + q ≤ 512) ∧ Hid (wr.ownsRow w.heap.size 5 1 v (len + q) (bytesV (zs ++ List.replicate q 0))) ∧ Hid (Below w.heap.size w wr)) (fun v _ => 1000 - lenV v)
  case atStart => exact ⟨0, .inl rfl, by rw [List.replicate_zero, List.append_nil]; exact HO1.out, HB1.out⟩
  case round =>
    obtain ⟨q, hq, HO2, HB2⟩ := hrel
    clear HO1 HB1
    obtain ⟨av, cv, hv⟩ := own_slice HO2.out
    subst hv
    by_cases hlt : len + q < 512
    · have hki : ((len + q : Nat) : Int) < 512 := by omega
      obtain ⟨m, hm⟩ : ∃ m, m = len + q := ⟨_, rfl⟩
      have HM := hid hm
      rw [← hm] at HO2 hki ⊢
      have hm1 : m + 1 ≤ 1000 := by omega
      have hsz2 := HB2.out.size
      clear hm
      have hn3 : w.heap.size ≤ (wr.alloc (.cells #[.int .u8 0] 5)).heap.size := by rw [World.size_alloc]; omega
      have hll : (zs ++ List.replicate q (0 : Int)).length = m := by rw [List.length_append, List.length_replicate, ← HL.out]; exact HM.out.symm
      have HOA : Hid ((wr.alloc (.cells #[.int .u8 0] 5)).ownsRow w.heap.size 5 1 (.slice av m cv) (zs ++ List.replicate q (0 : Int)).length ((zs ++ List.replicate q (0 : Int)).map (Value.int .u8))) := by
        show World.ownsRow _ _ _ _ _ _ _
        rw [hll]
        exact HO2.out.alloc _
      have HRA : Hid (Ri (wr.alloc (.cells #[.int .u8 0] 5)) .u8 (some ⟨wr.heap.size, 0, none⟩) 1 [0]) := by
        refine ⟨Nat.le_refl _, by unfold maxLen; omega, fun _ => ⟨wr.heap.size, 0, rfl, by rw [World.size_alloc]; omega, fun j hj => ?_⟩, wf_of (by decide)⟩
        have hj0 : j = 0 := by simp at hj; exact hj
        subst hj0
        exact Joins.cell_of_block (heap_new wr _) 0
      have hbd2 : (zs ++ List.replicate q (0 : Int)).length + ([0] : List Int).length ≤ 10000000 := by rw [hll]; simp; omega
      clear hll
      go_wp2_with (at_builtin; refine app_any _ rfl _ _ rfl w.heap.size _ (zs ++ List.replicate q (0 : Int)) rfl HOA.out (some ⟨wr.heap.size, 0, none⟩) 1 [0] rfl HRA.out hbd2 hn3 ?_)
      intro v3 w3 hown hgr
      have HO3 : Hid (w3.ownsRow w.heap.size 5 1 v3 (len + (q + 1)) (bytesV (zs ++ List.replicate (q + 1) 0))) := by
        show World.ownsRow _ _ _ _ _ _ _
        have e : zs ++ List.replicate (q + 1) (0 : Int) = zs ++ List.replicate q 0 ++ [0] := by rw [List.replicate_succ', ← List.append_assoc]
        rw [e, HL.out]
        unfold bytesV
        simpa using hown
      have HB3 := hid (HB2.out.trans ((((Below.refl _ _).alloc hsz2 (.cells #[.int .u8 0] 5))).trans (bel_grown HOA.out hgr hn3)))
      obtain ⟨a3, c3, hv3⟩ := own_slice HO3.out
      clear hown hgr HO2 HB2
      go_wp2_with fail
      refine ⟨⟨q + 1, .inr (by have := HM.out; omega), HO3, HB3⟩, ?_⟩
      rw [hv3]
      have := HM.out
      simp only [lenV]
      omega
    · have hki : ¬ ((len + q : Nat) : Int) < 512 := by omega
      have e : List.replicate q (0 : Int) = List.replicate (512 - len) 0 := by congr 1; omega
      have HE : Hid (wr.ownsRow w.heap.size 5 1 (.slice av (len + q) cv) (wholeL zs).length (bytesV (wholeL zs))) := by
        have h1 := HO2.out
        rw [e, HL.out] at h1
        unfold wholeL
        rw [List.length_append, List.length_replicate]
        rw [show len + q = zs.length + (512 - zs.length) from by rw [← HL.out]; omega]
        rw [show zs.length + q = zs.length + (512 - zs.length) from by rw [← HL.out]; omega] at h1
        exact h1
      obtain ⟨m, hm⟩ : ∃ m, m = len + q := ⟨_, rfl⟩
      rw [← hm] at HE hki ⊢
      clear hm e HO2
      go_wp2_with fail
      go_ret
      exact ⟨_, rfl, HE.out, HB2.out⟩
end Go.Proofs.Ytldgiimkkgmgaaa
/-
  Arguments as they are handed in: rows of bytes, of bools, of rows of bytes, an act, a row of acts.
-/
namespace Go.Proofs.Ytldgiimkkgmgaaa
open Go.RowKit

theorem Try.cells4 : Try.prog.cellsOf 4 = 1 := by kernel_rfl
theorem Try.cells33 : Try.prog.cellsOf 33 = 1 := by kernel_rfl
theorem Try.cells34 : Try.prog.cellsOf 34 = 1 := by kernel_rfl
theorem Try.cells36 : Try.prog.cellsOf 36 = 7 := by kernel_rfl

open Go.ChangeShapes Go.WideShapes Go.ChangeAt in
theorem ri_of {H : Type} {enc : TypeId × Value → H} {W : World} {fuel : Nat} {v : Value} {x : DataW H × List MemPlace} (hf : DataW.trod enc Try.prog W 0 (fun _ => true) true fuel 33 [v] = some x) (hlt : ∀ y ∈ x.2, y.block < W.heap.size) :
    ∃ a cap zs, v = .slice a (zs : List Int).length cap ∧ Ri W .u8 a cap zs := by
  rcases open_ints Try.underlying33 Try.underlying5 Try.cells5 hf with ⟨hcs, hx⟩ | ⟨a, len, cap, zs, hcs, _, hl, hm, hz, hx, hcell, hwz⟩
  · simp at hcs
    subst hcs
    exact ⟨none, 0, [], rfl, Nat.le_refl _, by unfold maxLen; omega, fun h => absurd h (by simp), fun j => by simp; exact wf_zero _⟩
  · simp at hcs
    subst hcs
    subst hx
    simp only [if_true] at hz
    have hlen : (zs.take len).length = len := by simp; omega
    refine ⟨some a, cap, zs.take len, by rw [hlen], by omega, hm, fun h0 => ?_, fun j => ?_⟩
    · rw [hlen] at h0 ⊢
      obtain ⟨b, off, spot⟩ := a
      have hspot : spot = none := by simpa [Addr.add] using World.cell?_spot (hcell 0 (by omega))
      subst hspot
      have hbW : b < W.heap.size := hlt (.cell b off) (MemPlace.mem_row.2 ⟨0, by omega, by simp⟩)
      refine ⟨b, off, rfl, hbW, fun j hj => ?_⟩
      rw [← add_plain, getD_take zs len j hj]
      exact hcell j (by omega)
    · by_cases hj : j < (zs.take len).length
      · have hm : (zs.take len).getD j 0 ∈ zs := by
          simp only [List.getD, List.getElem?_eq_getElem hj, Option.getD_some]
          exact List.mem_of_mem_take (List.getElem_mem hj)
        exact hwz _ hm
      · rw [getD_out _ _ (by omega)]; exact wf_zero _
open Go.ChangeShapes Go.WideShapes Go.ChangeAt in
theorem bls_of {H : Type} {enc : TypeId × Value → H} {W : World} {fuel : Nat} {v : Value} {x : DataW H × List MemPlace} (hf : DataW.trod enc Try.prog W 0 (fun _ => true) true fuel 34 [v] = some x) (hlt : ∀ y ∈ x.2, y.block < W.heap.size) :
    ∃ a cap l, v = .slice a (l : List Bool).length cap ∧ Bls W a cap l := by
  rcases Go.Deep.open_bools Try.underlying34 Try.underlying4 Try.cells4 hf with ⟨hcs, hx⟩ | ⟨a, len, cap, B, hcs, _, hl, hm, hx, hcell⟩
  · simp at hcs
    subst hcs
    exact ⟨none, 0, [], rfl, Nat.le_refl _, by unfold maxLen; omega, fun h => absurd h (by simp)⟩
  · simp at hcs
    subst hcs
    subst hx
    have hlen : ((List.range len).map B).length = len := by simp
    refine ⟨some a, cap, (List.range len).map B, by rw [hlen], by rw [hlen]; exact hl, hm, fun h0 => ?_⟩
    rw [hlen] at h0 ⊢
    obtain ⟨b, off, spot⟩ := a
    have hspot : spot = none := by simpa [Addr.add] using World.cell?_spot (hcell 0 (by omega))
    subst hspot
    have hbW : b < W.heap.size := hlt (.cell b off) (MemPlace.mem_row.2 ⟨0, by omega, by simp⟩)
    refine ⟨b, off, rfl, hbW, fun j hj => ?_⟩
    have h1 := hcell j (by omega)
    rw [add_plain] at h1
    rw [h1]
    simp [List.getD, hj]
open Go.ChangeShapes Go.WideShapes Go.ChangeAt in
theorem open_bls {H : Type} {enc : TypeId × Value → H} {W : World} {base : Nat} {v : Value} {d : DataW H} {p : List MemPlace} (hv : Value.okWide Try.prog W .any base 34 v)
    (h : DataW.Trod enc Try.prog W 0 (fun _ => true) true 34 v d p) (hlt : ∀ x ∈ p, x.block < W.heap.size) : ∃ a cap l, v = .slice a (l : List Bool).length cap ∧ Bls W a cap l := by
  obtain ⟨a0, len, cap, rfl⟩ := okWide_slice Try.underlying34 hv
  obtain ⟨fuel, hf⟩ := h
  exact bls_of (x := (d, p)) hf hlt

/-- An act as it reads. -/
structure OpZ where
  kind : Int
  i : Int
  at_ : Int
  torn : Int
  mask : Int
  b : List Int
  keep : List Bool
deriving Inhabited
structure OpW (x : OpZ) : Prop where
  kind : okI x.kind
  i : okI x.i
  at_ : okI x.at_
  torn : okI x.torn
  mask : 0 ≤ x.mask ∧ x.mask ≤ 255
def opV (x : OpZ) (ab : Option Addr) (cb : Nat) (ak : Option Addr) (ck : Nat) : List Value := [.int .i64 x.kind, .int .i64 x.i, .int .i64 x.at_, .int .i64 x.torn, .int .u8 x.mask, .slice ab x.b.length cb, .slice ak x.keep.length ck]
structure OpR (w : World) (x : OpZ) (ab : Option Addr) (cb : Nat) (ak : Option Addr) (ck : Nat) : Prop where
  wf : OpW x
  b : Ri w .u8 ab cb x.b
  keep : Bls w ak ck x.keep
theorem OpR.later {w w' : World} {x : OpZ} {ab ak : Option Addr} {cb ck : Nat} (h : OpR w x ab cb ak ck) (hb : Below w.heap.size w w') : OpR w' x ab cb ak ck := ⟨h.wf, h.b.later hb, h.keep.later hb⟩
set_option maxRecDepth 100000 in
open Go.ChangeShapes Go.WideShapes Go.ChangeAt in
theorem op_of {H : Type} {enc : TypeId × Value → H} {W : World} {fuel : Nat} {cs : List Value} {x : DataW H × List MemPlace} (hl : cs.length = 7) (hf : DataW.trod enc Try.prog W 0 (fun _ => true) true fuel 36 cs = some x) (hlt : ∀ y ∈ x.2, y.block < W.heap.size) :
    ∃ z ab cb ak ck, cs = opV z ab cb ak ck ∧ OpR W z ab cb ak ck := by
  obtain ⟨xs, k, hk, hxy, _, hxl, hf⟩ := DataW.trod_struct Try.underlying36 hf
  match xs, hxl, cs, hl with
  | [y0, y1, y2, y3, y4, y5, y6], _, [v0, v1, v2, v3, v4, v5, v6], _ =>
    subst hxy
    have g0 : DataW.trod enc Try.prog W 0 (fun _ => true) true k 3 (List.take (Try.prog.cellsOf 3) (List.drop 0 [v0, v1, v2, v3, v4, v5, v6])) = some y0 := hf 0 _ rfl
    have g1 : DataW.trod enc Try.prog W 0 (fun _ => true) true k 3 (List.take (Try.prog.cellsOf 3) (List.drop 1 [v0, v1, v2, v3, v4, v5, v6])) = some y1 := hf 1 _ rfl
    have g2 : DataW.trod enc Try.prog W 0 (fun _ => true) true k 3 (List.take (Try.prog.cellsOf 3) (List.drop 2 [v0, v1, v2, v3, v4, v5, v6])) = some y2 := hf 2 _ rfl
    have g3 : DataW.trod enc Try.prog W 0 (fun _ => true) true k 3 (List.take (Try.prog.cellsOf 3) (List.drop 3 [v0, v1, v2, v3, v4, v5, v6])) = some y3 := hf 3 _ rfl
    have g4 : DataW.trod enc Try.prog W 0 (fun _ => true) true k 5 (List.take (Try.prog.cellsOf 5) (List.drop 4 [v0, v1, v2, v3, v4, v5, v6])) = some y4 := hf 4 _ rfl
    have g5 : DataW.trod enc Try.prog W 0 (fun _ => true) true k 33 (List.take (Try.prog.cellsOf 33) (List.drop 5 [v0, v1, v2, v3, v4, v5, v6])) = some y5 := hf 5 _ rfl
    have g6 : DataW.trod enc Try.prog W 0 (fun _ => true) true k 34 (List.take (Try.prog.cellsOf 34) (List.drop 6 [v0, v1, v2, v3, v4, v5, v6])) = some y6 := hf 6 _ rfl
    rw [Try.cells3] at g0 g1 g2 g3
    rw [Try.cells5] at g4
    rw [Try.cells33] at g5
    rw [Try.cells34] at g6
    obtain ⟨z0, e0, _, f0⟩ := DataW.trod_int Try.underlying3 g0
    obtain ⟨z1, e1, _, f1⟩ := DataW.trod_int Try.underlying3 g1
    obtain ⟨z2, e2, _, f2⟩ := DataW.trod_int Try.underlying3 g2
    obtain ⟨z3, e3, _, f3⟩ := DataW.trod_int Try.underlying3 g3
    obtain ⟨z4, e4, _, f4⟩ := DataW.trod_int Try.underlying5 g4
    obtain ⟨ab, cb, zb, e5, hb⟩ := ri_of (v := v5) g5 (fun y hy => hlt y (by simp [hy]))
    obtain ⟨ak, ck, zk, e6, hk⟩ := bls_of (v := v6) g6 (fun y hy => hlt y (by simp [hy]))
    have e0' : v0 = .int .i64 z0 := by simpa using e0
    have e1' : v1 = .int .i64 z1 := by simpa using e1
    have e2' : v2 = .int .i64 z2 := by simpa using e2
    have e3' : v3 = .int .i64 z3 := by simpa using e3
    have e4' : v4 = .int .u8 z4 := by simpa using e4
    subst e0' e1' e2' e3' e4' e5 e6
    exact ⟨⟨z0, z1, z2, z3, z4, zb, zk⟩, ab, cb, ak, ck, rfl, ⟨f0, f1, f2, f3, wf_u8 f4⟩, hb, hk⟩
open Go.ChangeShapes Go.WideShapes Go.ChangeAt in
theorem open_op {H : Type} {enc : TypeId × Value → H} {W : World} {base : Nat} {v : Value} {d : DataW H} {p : List MemPlace} (hv : Value.okWide Try.prog W .any base 36 v)
    (h : DataW.Trod enc Try.prog W 0 (fun _ => true) true 36 v d p) (hlt : ∀ x ∈ p, x.block < W.heap.size) : ∃ z ab cb ak ck, v = .agg (opV z ab cb ak ck).toArray ∧ OpR W z ab cb ak ck := by
  obtain ⟨cs, rfl, hsz⟩ := okWide_struct Try.underlying36 hv
  obtain ⟨fuel, hf⟩ := h
  obtain ⟨z, ab, cb, ak, ck, e, hr⟩ := op_of (x := (d, p)) (by simpa [Value.cells] using hsz.trans Try.cells36) hf hlt
  refine ⟨z, ab, cb, ak, ck, ?_, hr⟩
  rw [← e]
  rfl
/-- A row of acts. -/
structure Ro (w : World) (a : Option Addr) (cap : Nat) (l : List OpZ) : Prop where
  room : l.length ≤ cap
  most : cap ≤ maxLen
  cells : 0 < l.length → ∃ b off, a = some ⟨b, off, none⟩ ∧ b < w.heap.size ∧ ∀ j, j < l.length → ∃ ab cb ak ck, w.rangeAt b (off + j * 7) (opV (l.getD j default) ab cb ak ck) ∧ OpR w (l.getD j default) ab cb ak ck
set_option maxRecDepth 100000 in
open Go.ChangeShapes Go.WideShapes Go.ChangeAt in
theorem open_ro {H : Type} {enc : TypeId × Value → H} {W : World} {base : Nat} {v : Value} {d : DataW H} {p : List MemPlace} (hv : Value.okWide Try.prog W .any base 22 v)
    (h : DataW.Trod enc Try.prog W 0 (fun _ => true) true 22 v d p) (hlt : ∀ x ∈ p, x.block < W.heap.size) : ∃ a cap l, v = .slice a (l : List OpZ).length cap ∧ Ro W a cap l := by
  obtain ⟨a0, len, cap, rfl⟩ := okWide_slice Try.underlying22 hv
  obtain ⟨fuel, hf⟩ := h
  rcases Go.Deep.open_slice Try.underlying22 hf with ⟨hcs, hx⟩ | ⟨a, len', cap', m, n, D, Pl, hcs, _, hl, hm, hmm, hx, hel⟩
  · simp [Value.cells] at hcs
    obtain ⟨rfl, rfl, rfl⟩ := hcs
    exact ⟨none, 0, [], rfl, Nat.le_refl _, by unfold maxLen; omega, fun h => absurd h (by simp)⟩
  · simp [Value.cells] at hcs
    obtain ⟨rfl, rfl, rfl⟩ := hcs
    rw [if_pos rfl] at hmm
    subst hmm
    rw [Try.cells36] at hel
    have hp : p = MemPlace.row a (m * Try.prog.cellsOf 36) ++ (List.range m).flatMap Pl := congrArg Prod.snd hx
    have key : ∀ j, j < len → ∃ z : OpZ, ∃ ab cb ak ck, (∀ i u, (opV z ab cb ak ck)[i]? = some u → W.cell? ((a.add (j * 7)).add i) = some u) ∧ OpR W z ab cb ak ck := by
      intro j hj
      obtain ⟨cs', h1, h2⟩ := hel j (by omega)
      obtain ⟨_, hcl, hcc⟩ := World.cells?_some h1
      obtain ⟨z, ab, cb, ak, ck, e, hr⟩ := op_of (x := (D j, Pl j)) hcl h2 (fun y hy => hlt y (by rw [hp, List.mem_append]; exact Or.inr (List.mem_flatMap.2 ⟨j, List.mem_range.2 (by omega), hy⟩)))
      subst e
      refine ⟨z, ab, cb, ak, ck, fun i u hu => ?_, hr⟩
      have hi : i < (opV z ab cb ak ck).length := (List.getElem?_eq_some_iff.1 hu).1
      have h3 := hcc i hi
      rw [h3, ← hu, List.getElem?_eq_getElem hi]
    obtain ⟨Y, hY⟩ := Go.Deep.choose_lt key
    have hlen : ((List.range len).map Y).length = len := by simp
    have hgd : ∀ j, j < len → ((List.range len).map Y).getD j default = Y j := fun j hj => by simp [List.getD, hj]
    refine ⟨some a, m, (List.range len).map Y, by rw [hlen], by rw [hlen]; exact hl, hm, fun h0 => ?_⟩
    rw [hlen] at h0
    obtain ⟨b, off, spot⟩ := a
    obtain ⟨ab, cb, ak, ck, hc0, _⟩ := hY 0 h0
    have hspot : spot = none := by
      have := World.cell?_spot (hc0 0 _ rfl)
      simpa [Addr.add] using this
    subst hspot
    have hbW : b < W.heap.size := hlt (.cell b off) (by
      rw [hp, List.mem_append]
      refine Or.inl (MemPlace.mem_row.2 ⟨0, ?_, by simp⟩)
      rw [Try.cells36]; omega)
    refine ⟨b, off, rfl, hbW, fun j hj => ?_⟩
    rw [hlen] at hj
    rw [hgd j hj]
    obtain ⟨ab, cb, ak, ck, c, r⟩ := hY j hj
    refine ⟨ab, cb, ak, ck, fun i u hu => ?_, r⟩
    have h3 := c i u hu
    rw [add_plain, add_plain] at h3
    exact h3
end Go.Proofs.Ytldgiimkkgmgaaa
/-
  Behind a loss each byte is one that lasted, or one that was written since; rows of rows of bytes as arguments.
-/
namespace Go.Proofs.Ytldgiimkkgmgaaa
open Go.RowKit

/-- The open writes that some rows make, of those that are not too long. -/
def opsOf (l : List (List Int)) : List (Int × List Int) := (l.filter (fun b => decide (b.length ≤ 512))).map (fun b => (2, wholeL b))
theorem opsOf_snoc (l : List (List Int)) (b : List Int) : opsOf (l ++ [b]) = if b.length ≤ 512 then opsOf l ++ [(2, wholeL b)] else opsOf l := by
  unfold opsOf
  rw [List.filter_append]
  by_cases h : b.length ≤ 512
  · rw [if_pos h, List.filter_cons_of_pos (by simpa using h), List.filter_nil, List.map_append]
    rfl
  · rw [if_neg h, List.filter_cons_of_neg (by simpa using h), List.filter_nil, List.append_nil]
theorem opsOf_len (l : List (List Int)) : (opsOf l).length ≤ l.length := by
  unfold opsOf
  rw [List.length_map]
  exact List.length_filter_le _ _
theorem opsOf_mem {l : List (List Int)} {x : Int × List Int} (h : x ∈ opsOf l) : ∃ j, j < l.length ∧ (l.getD j []).length ≤ 512 ∧ x = (2, wholeL (l.getD j [])) := by
  unfold opsOf at h
  obtain ⟨b, hb, rfl⟩ := List.mem_map.1 h
  obtain ⟨h1, h2⟩ := List.mem_filter.1 hb
  obtain ⟨j, hj, rfl⟩ := List.mem_iff_getElem.1 h1
  exact ⟨j, hj, by simpa [List.getD, List.getElem?_eq_getElem hj] using h2, by simp [List.getD, List.getElem?_eq_getElem hj]⟩
theorem tear_at {n : Nat} {b old : List Int} (k : Nat) (hb : b.length = 512) (hn : n ≤ 512) : (tearL n b old).getD k 0 = if k < n then b.getD k 0 else old.getD k 0 := by
  have hl : (b.take n).length = n := by rw [List.length_take]; omega
  unfold tearL
  split
  · rename_i h
    simp only [List.getD, List.getElem?_append_left (show k < (b.take n).length by omega), List.getElem?_take_of_lt h]
  · rename_i h
    rw [List.getD, List.getElem?_append_right (by omega), hl, List.getElem?_drop, show n + (k - n) = k from by omega]
    rfl
theorem lose_byte {L : Int → List Int} {O : List (Int × List Int)} {K : List Bool} {torn at_ : Int} (hO : ∀ x ∈ O, Blk x.2) (i : Int) (k : Nat) : ∀ q, q ≤ O.length → (loseF L O K torn at_ q i).getD k 0 = (L i).getD k 0 ∨ ∃ x ∈ O, x.2.getD k 0 = (loseF L O K torn at_ q i).getD k 0
  | 0, _ => .inl rfl
  | q + 1, h => by
    have ih := lose_byte hO i k q (by omega) (L := L) (K := K) (torn := torn) (at_ := at_)
    have hm := getD_mem (O := O) (k := q) (by omega)
    rw [loseF]
    by_cases e : i = (O.getD q (0, [])).1
    · rw [← e, setI_same, tear_at k (hO _ hm).len (kept_le _ _ _ _)]
      split
      · exact .inr ⟨_, hm, rfl⟩
      · exact ih
    · rw [setI_ne _ _ e]
      exact ih
/-- A row of rows of bytes. -/
structure Ps (w : World) (a : Option Addr) (cap : Nat) (L : List (List Int)) : Prop where
  room : L.length ≤ cap
  most : cap ≤ maxLen
  cells : 0 < L.length → ∃ b off, a = some ⟨b, off, none⟩ ∧ b < w.heap.size ∧ ∀ j, j < L.length → ∃ aj cj, w.cell? ⟨b, off + j, none⟩ = some (.slice aj (L.getD j []).length cj) ∧ Ri w .u8 aj cj (L.getD j [])
theorem Ps.take {w : World} {a : Option Addr} {cap : Nat} {L : List (List Int)} (h : Ps w a cap L) (n : Nat) : Ps w a cap (L.take n) := by
  have hr := h.room
  have hle : (L.take n).length ≤ L.length := by rw [List.length_take]; omega
  have hln : (L.take n).length ≤ n := List.length_take_le _ _
  refine ⟨by omega, h.most, fun h0 => ?_⟩
  obtain ⟨b, off, ha, hbw, hc⟩ := h.cells (by omega)
  refine ⟨b, off, ha, hbw, fun j hj => ?_⟩
  have e : (L.take n).getD j [] = L.getD j [] := by simp [List.getD, List.getElem?_take_of_lt (show j < n by omega)]
  rw [e]
  exact hc j (by omega)
set_option maxRecDepth 100000 in
open Go.ChangeShapes Go.WideShapes Go.ChangeAt in
theorem open_ps {H : Type} {enc : TypeId × Value → H} {W : World} {base : Nat} {v : Value} {d : DataW H} {p : List MemPlace} (hv : Value.okWide Try.prog W .any base 44 v)
    (h : DataW.Trod enc Try.prog W 0 (fun _ => true) true 44 v d p) (hlt : ∀ x ∈ p, x.block < W.heap.size) : ∃ a cap l, v = .slice a (l : List (List Int)).length cap ∧ Ps W a cap l := by
  obtain ⟨a0, len, cap, rfl⟩ := okWide_slice Try.underlying44 hv
  obtain ⟨fuel, hf⟩ := h
  rcases Go.Deep.open_slice Try.underlying44 hf with ⟨hcs, hx⟩ | ⟨a, len', cap', m, n, D, Pl, hcs, _, hl, hm, hmm, hx, hel⟩
  · simp [Value.cells] at hcs
    obtain ⟨rfl, rfl, rfl⟩ := hcs
    exact ⟨none, 0, [], rfl, Nat.le_refl _, by unfold maxLen; omega, fun h => absurd h (by simp)⟩
  · simp [Value.cells] at hcs
    obtain ⟨rfl, rfl, rfl⟩ := hcs
    rw [if_pos rfl] at hmm
    subst hmm
    rw [Try.cells33] at hel
    have hp : p = MemPlace.row a (m * Try.prog.cellsOf 33) ++ (List.range m).flatMap Pl := congrArg Prod.snd hx
    have key : ∀ j, j < len → ∃ z : List Int, ∃ aj cj, W.cell? ((a.add (j * 1)).add 0) = some (.slice aj z.length cj) ∧ Ri W .u8 aj cj z := by
      intro j hj
      obtain ⟨cs', h1, h2⟩ := hel j (by omega)
      obtain ⟨_, hcl, hcc⟩ := World.cells?_some h1
      match cs', hcl with
      | [v0], _ =>
        obtain ⟨aj, cj, z, e, hr⟩ := ri_of (v := v0) (x := (D j, Pl j)) h2 (fun y hy => hlt y (by rw [hp, List.mem_append]; exact Or.inr (List.mem_flatMap.2 ⟨j, List.mem_range.2 (by omega), hy⟩)))
        subst e
        exact ⟨z, aj, cj, hcc 0 (by omega), hr⟩
    obtain ⟨Y, hY⟩ := Go.Deep.choose_lt key
    have hlen : ((List.range len).map Y).length = len := by simp
    have hgd : ∀ j, j < len → ((List.range len).map Y).getD j [] = Y j := fun j hj => by simp [List.getD, hj]
    refine ⟨some a, m, (List.range len).map Y, by rw [hlen], by rw [hlen]; exact hl, hm, fun h0 => ?_⟩
    rw [hlen] at h0
    obtain ⟨b, off, spot⟩ := a
    obtain ⟨aj, cj, hc0, _⟩ := hY 0 h0
    have hspot : spot = none := by
      have := World.cell?_spot hc0
      simpa [Addr.add] using this
    subst hspot
    have hbW : b < W.heap.size := hlt (.cell b off) (by
      rw [hp, List.mem_append]
      refine Or.inl (MemPlace.mem_row.2 ⟨0, ?_, by simp⟩)
      rw [Try.cells33]; omega)
    refine ⟨b, off, rfl, hbW, fun j hj => ?_⟩
    rw [hlen] at hj
    rw [hgd j hj]
    obtain ⟨aj, cj, c, r⟩ := hY j hj
    refine ⟨aj, cj, ?_, r⟩
    rw [add_plain, add_plain, Nat.mul_one, Nat.add_zero] at c
    exact c
end Go.Proofs.Ytldgiimkkgmgaaa
