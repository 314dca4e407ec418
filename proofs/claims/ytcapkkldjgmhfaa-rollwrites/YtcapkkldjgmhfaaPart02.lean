/-
  The parts of a row, told one by one: the contract of roll's parts where nothing is begun.
-/
import Derived.Test.YtcapkkldjgmhfaaPart01
import Derived.Maps.AppendAt
namespace Go.Proofs.Ytcapkkldjgmhfaa
open Go.RowKit Go.Shelf
attribute [local go_sem] Oper.semAt_some

theorem parts_word (l m b s h : Int) (a : Option Addr) (len cap : Nat) (w : World) :
    Calls Try.prog 32 #[.agg #[.int .i64 l, .int .i64 m, .int .i64 b], .agg #[.int .i64 s, .int .u64 h], .slice a len cap] w fun e w' =>
      e = .returned (.func (.func 36) #[] #[.pointer (some ⟨w.heap.size + 1, 0, none⟩), .pointer (some ⟨w.heap.size + 1 + 1, 0, none⟩), .pointer (some ⟨w.heap.size, 0, none⟩)]) ∧
      w' = ((w.alloc (.cells #[.int .i64 l, .int .i64 m, .int .i64 b] 23)).alloc (.cells #[.int .i64 s, .int .u64 h] 61)).alloc (.cells #[.slice a len cap] 25) := by
  go_enter Try.func32, Try.ntmps32
  go_wp2
  go_ret
  exact ⟨rfl, rfl⟩

set_option maxHeartbeats 6400000 in
set_option maxRecDepth 100000 in
theorem parts_stops (l m b : Int) (a : Option Addr) (cap : Nat) (bs : List Int) (n₀ Bo Bb Bc gb off : Nat) (W0 : World) (hc : chkC l m b = 0) (hr : Ri W0 .u8 a cap bs) (hn0 : n₀ ≤ W0.heap.size) (ha : 0 < bs.length → a = some ⟨gb, off, none⟩ ∧ gb < n₀)
    (ho : W0.heap[Bo]? = some (.cells #[.int .i64 0, .int .u64 0] 61 (0, 0))) (hbb : W0.heap[Bb]? = some (.cells #[.slice a bs.length cap] 25 (0, 0))) (hcc : W0.heap[Bc]? = some (.cells #[.int .i64 l, .int .i64 m, .int .i64 b] 23 (0, 0))) :
    SeqStopsK Fence.wide 9 Try.prog 36 #[.pointer (some ⟨Bo, 0, none⟩), .pointer (some ⟨Bb, 0, none⟩), .pointer (some ⟨Bc, 0, none⟩)] (encP gb off) (Kq n₀) (fun ys => ys = partsF l m b bs.length 0 bs) (fun pre => pre <+: partsF l m b bs.length 0 bs) (bs.length + 1) W0 := fun ll J Jx W hW hJ _ hY h0 => by
  have HJ := hid hJ
  have HY := hid hY
  have HO := hid ((hW.block Bo (Array.getElem?_eq_some_iff.1 ho).1).trans ho)
  have HBB := hid ((hW.block Bb (Array.getElem?_eq_some_iff.1 hbb).1).trans hbb)
  have HCC := hid ((hW.block Bc (Array.getElem?_eq_some_iff.1 hcc).1).trans hcc)
  have HR := hid (hr.later hW)
  have HN0 : Hid (n₀ ≤ W.heap.size) := Nat.le_trans hn0 hW.size
  have HC := hid hc
  have HA := hid ha
  have hroom := hr.room
  have hmost := hr.most
  unfold maxLen at hmost
  obtain ⟨k1, k2, k3, k4, k5⟩ := chkC_ok hc
  obtain ⟨len, hl⟩ : ∃ n, n = bs.length := ⟨_, rfl⟩
  have HL := hid hl
  obtain ⟨xs, hxs⟩ : ∃ xs, xs = partsF l m b bs.length 0 bs := ⟨_, rfl⟩
  have HXS := hid hxs
  have HXL : Hid (xs.length ≤ len) := by show _ ≤ _; rw [hxs, hl]; exact parts_len l m b _ _ _
  rw [← hxs]
  rw [← hl] at hroom HBB HY
  have co0 := Joins.cell_of_block HO.out 0
  have co1 := Joins.cell_of_block HO.out 1
  have cb0 := Joins.cell_of_block HBB.out 0
  simp only [List.getElem?_toArray, List.getElem?_cons_zero, List.getElem?_cons_succ] at co0 co1 cb0
  have hbA := bel_alloc W (.cells #[.int .i64 0, .int .u64 0] 61)
  have eA : Bg (W.alloc (.cells #[.int .i64 0, .int .u64 0] 61)) W.heap.size 0 0 := heap_new W _
  have fA0 := Joins.unfrozen_of_block eA 0
  have fA1 := Joins.unfrozen_of_block eA 1
  have cA0 := Joins.cell_of_block eA 0
  have cA1 := Joins.cell_of_block eA 1
  simp only [List.getElem?_toArray, List.getElem?_cons_zero, List.getElem?_cons_succ] at cA0 cA1
  have hcb1 := (hbA.cell (p := ⟨Bb, 0, none⟩) (Array.getElem?_eq_some_iff.1 HBB.out).1).trans cb0
  have HXX := hid eA
  have HJ0 := hid (hJ [] W _ none h0 (grown_of_below hbA) (fun r e => by cases e))
  have HO1 := hid (heap_old W (.cells #[.int .i64 0, .int .u64 0] 61) HO.out)
  have HBB1 := hid (heap_old W (.cells #[.int .i64 0, .int .u64 0] 61) HBB.out)
  have HCC1 := hid (heap_old W (.cells #[.int .i64 0, .int .u64 0] 61) HCC.out)
  have HR1 := hid (HR.out.later hbA)
  clear hY hJ hr ha hc ho hbb hcc hW hl hxs eA hbA
  refine callsIn_of_wp Try.func36 rfl trivial ?_ rfl
  simp only [Try.ntmps36, List.size_toArray, List.length_cons, List.length_nil, Nat.reduceAdd, Nat.reduceSub, Array.replicate_succ, Array.replicate_zero, List.push_toArray, List.append_toArray, List.nil_append, List.cons_append]
  gi_wp2_with fail
  clear co0 co1 cb0 fA0 fA1 cA0 cA1 hcb1 HO HBB HCC HR h0 HO1 HBB1
  obtain ⟨X, hX⟩ : ∃ X, X = W.heap.size := ⟨_, rfl⟩
  have HX := hid hX
  rw [← hX] at HXX HN0 HJ ⊢
  have HXW : Hid (X < (W.alloc (.cells #[.int .i64 0, .int .u64 0] 61)).heap.size) := by show _ < _; rw [World.size_alloc, hX]; omega
  clear hX HX
  generalize W.alloc (.cells #[.int .i64 0, .int .u64 0] 61) = W1 at *
  gi_loopw [6] (fun p wr => ∃ (pre rest : List Pt) (st f : Nat) (aa : Option Addr), st ≤ len ∧ p = .slice aa (len - st) (cap - st) ∧ Hid (st < len → aa = some ⟨gb, off + st, none⟩ ∧ gb < n₀) ∧ Hid (len - st ≤ f) ∧ Hid (xs = pre ++ rest) ∧ Hid (rest = partsF l m b f st (bs.drop st)) ∧ Hid (J pre wr) ∧ Hid (Bg wr X 0 0) ∧ Hid (wr.heap[Bc]? = some (.cells #[.int .i64 l, .int .i64 m, .int .i64 b] 23 (0, 0))) ∧ Hid (Ri wr .u8 a cap bs)) (fun p _ => lenV p)
  case atStart => exact ⟨[], xs, 0, len, a, Nat.zero_le _, rfl, fun h => by rw [HL.out] at h; exact HA.out h, Nat.sub_le _ _, rfl, by rw [List.drop_zero, HL.out]; exact HXS.out, HJ0.out, HXX.out, HCC1.out, HR1.out⟩
  case round =>
    clear HJ0 HXX HCC1 HR1 HXW HXS
    obtain ⟨pre, rest, st, f, aa, hst, rfl, HAA, HF, HX1, HX2, HJp, HG, HCB, HRR⟩ := hrel
    by_cases hlt : st < len
    · obtain ⟨rfl, hgn⟩ := HAA.out hlt
      have hd := drop_at bs st (by rw [← HL.out]; exact hlt)
      have hdl : (bs.drop st).length = len - st := by rw [List.length_drop, HL.out]
      have HWW := hid (with_word l m b 0 0 (some ⟨gb, off + st, none⟩) (cap - st) (bs.drop st) wr (HRR.out.dropR st gb off (by rw [← HL.out]; exact hlt) (HA.out (by rw [← HL.out]; omega)).1) HC.out (by omega) (by omega) (by omega) (by omega))
      rw [hdl] at HWW
      have hpos : (0 : Int) < ((len - st : Nat) : Int) := by omega
      have ca0 := Joins.cell_of_block HG.out 0
      have ca1 := Joins.cell_of_block HG.out 1
      have cc0 := Joins.cell_of_block HCB.out 0
      have cc1 := Joins.cell_of_block HCB.out 1
      have cc2 := Joins.cell_of_block HCB.out 2
      simp only [List.getElem?_toArray, List.getElem?_cons_zero, List.getElem?_cons_succ] at ca0 ca1 cc0 cc1 cc2
      obtain ⟨R, hRe⟩ : ∃ R, R = withL l m b 0 0 (bs.drop st) := ⟨_, rfl⟩
      have HRE := hid hRe
      rw [← hRe] at HWW
      have hcn := with_cnt l m b (bs.drop st) 0 0
      rw [← hRe, hdl] at hcn
      have hcp := hcn.2.2 (by rw [hd]; simp)
      have hrng := with_rng l m b (bs.drop st) 0 0 ⟨by omega, by omega⟩
      rw [← hRe] at hrng
      obtain ⟨f', rfl⟩ : ∃ f', f = f' + 1 := ⟨f - 1, by have := HF.out; omega⟩
      have HX3 : Hid (rest = (st, R.1.toNat, R) :: partsF l m b f' (st + R.1.toNat) ((bs.drop st).drop R.1.toNat)) := by
        show _ = _
        rw [HX2.out, hRe, hd, partsF]
      obtain ⟨n, hn⟩ : ∃ n, n = R.1.toNat := ⟨_, rfl⟩
      rw [← hn] at HX3
      have hnz : R.1 = (n : Int) := by omega
      have hn1 : 1 ≤ n := by omega
      have hn2 : n ≤ len - st := by omega
      obtain ⟨r1, r2⟩ := R
      dsimp only at hnz HWW hrng
      subst hnz
      clear hRe hd hdl hcn hcp hn
      gi_wp2_with fail
      refine ⟨trivial, ?_⟩
      refine (callsIn_wide.2 HWW.out).mono ?_
      rintro _ w1 ⟨rfl, hb1⟩
      have hG1 := (hb1.block X (Array.getElem?_eq_some_iff.1 HG.out).1).trans HG.out
      have hC1 := (hb1.block Bc (Array.getElem?_eq_some_iff.1 HCB.out).1).trans HCB.out
      have hbA := bel_alloc w1 (.cells #[.int .i64 (n : Int), .int .u64 r2] 61)
      have eA : Bg (w1.alloc (.cells #[.int .i64 (n : Int), .int .u64 r2] 61)) w1.heap.size (n : Int) r2 := heap_new w1 _
      have hb2 := Bn hb1 hbA
      have HJ2 := hid (HJ.out pre wr _ none HJp.out (grown_of_below hb2) (fun r e => by cases e))
      have HG2 := hid (heap_old w1 (.cells #[.int .i64 (n : Int), .int .u64 r2] 61) hG1)
      have HC2 := hid (heap_old w1 (.cells #[.int .i64 (n : Int), .int .u64 r2] 61) hC1)
      have HR2 := hid (HRR.out.later hb2)
      have HT2 := hid eA
      have ct0 := Joins.cell_of_block eA 0
      have ct1 := Joins.cell_of_block eA 1
      have cg0 := Joins.cell_of_block HG2.out 0
      simp only [List.getElem?_toArray, List.getElem?_cons_zero, List.getElem?_cons_succ] at ct0 ct1 cg0
      clear HWW ca0 ca1 cc0 cc1 cc2 hb1 hG1 hC1 hbA hb2 HJp HRR HG HCB eA
      have hsub : (n : Int) - 0 = (n : Int) := by omega
      gi_wp2_with fail
      have hbD : Below (w1.alloc (.cells #[.int .i64 (n : Int), .int .u64 r2] 61)).heap.size (w1.alloc (.cells #[.int .i64 (n : Int), .int .u64 r2] 61)) (w1.alloc (.cells #[.int .i64 (n : Int), .int .u64 r2] 61)).drew := (Below.refl _ _).drew
      have HJ3 := hid (HJ.out pre _ _ none HJ2.out (grown_of_below hbD) (fun r e => by cases e))
      refine wpIn_region_any (by kernel_rfl) ?_
      change wpAnyIn _ _ _ _ _ _ _ _ _ (w1.alloc (.cells #[.int .i64 (n : Int), .int .u64 r2] 61)).drew
      have HG3 : Hid (Bg (w1.alloc (.cells #[.int .i64 (n : Int), .int .u64 r2] 61)).drew X 0 0) := HG2.out
      have HC3 : Hid ((w1.alloc (.cells #[.int .i64 (n : Int), .int .u64 r2] 61)).drew.heap[Bc]? = _) := HC2.out
      have HR3 := hid (HR2.out.later hbD)
      have HT3 : Hid (Bg (w1.alloc (.cells #[.int .i64 (n : Int), .int .u64 r2] 61)).drew w1.heap.size (n : Int) r2) := HT2.out
      clear hbD HJ2 HG2 HC2 HR2 HT2 ct0 ct1 cg0
      obtain ⟨Y, hYe⟩ : ∃ Y, Y = w1.heap.size := ⟨_, rfl⟩
      rw [← hYe] at HT3 ⊢
      clear hYe
      generalize (w1.alloc (.cells #[.int .i64 (n : Int), .int .u64 r2] 61)).drew = w2 at *
      have hs1 : (n : Int) ≤ ((len - st : Nat) : Int) := by omega
      have hs2 : (n : Int) ≤ ((cap - st : Nat) : Int) := by omega
      have hs3 : (0 : Int) ≤ (n : Int) := by omega
      have hs4 : n ≤ cap - st := by omega
      refine InO.take (i := 0) (d := 23) (v := ?v0) rfl rfl rfl (by as_aux_lemma => kernel_rfl) (by as_aux_lemma => kernel_rfl) (by as_aux_lemma => kernel_rfl) (fun _ _ _ h => h) (by rfl) ?h0 ?g0 ?_
      case h0 => intro w; go_simp; try with_reducible rfl
      case g0 => intro w; go_simp; try rfl
      simp only [List.setIfInBounds_toArray, List.set_cons_zero, List.set_cons_succ]
      refine InO.take (i := 1) (d := 24) (v := ?v1) rfl rfl rfl (by as_aux_lemma => kernel_rfl) (by as_aux_lemma => kernel_rfl) (by as_aux_lemma => kernel_rfl) (fun _ _ _ h => h) (by rfl) ?h1 ?g1 ?_
      case h1 => intro w; go_simp; try with_reducible rfl
      case g1 => intro w; go_simp; try rfl
      simp only [List.setIfInBounds_toArray, List.set_cons_zero, List.set_cons_succ]
      refine InO.take (i := 2) (d := 25) (v := ?v2) rfl rfl rfl (by as_aux_lemma => kernel_rfl) (by as_aux_lemma => kernel_rfl) (by as_aux_lemma => kernel_rfl) (fun _ _ _ h => h) (by rfl) ?h2 ?g2 ?_
      case h2 => intro w; go_simp; try with_reducible rfl
      case g2 => intro w; go_simp; try rfl
      simp only [List.setIfInBounds_toArray, List.set_cons_zero, List.set_cons_succ]
      refine InO.take (i := 3) (d := 26) (v := ?v3) rfl rfl rfl (by as_aux_lemma => kernel_rfl) (by as_aux_lemma => kernel_rfl) (by as_aux_lemma => kernel_rfl) (fun _ _ _ h => h) (by rfl) ?h3 ?g3 ?_
      case h3 => intro w; go_simp; try with_reducible rfl
      case g3 => intro w; go_simp; try rfl
      simp only [List.setIfInBounds_toArray, List.set_cons_zero, List.set_cons_succ]
      refine InO.take (i := 4) (d := 27) (v := ?v4) rfl rfl rfl (by as_aux_lemma => kernel_rfl) (by as_aux_lemma => kernel_rfl) (by as_aux_lemma => kernel_rfl) (fun _ _ _ h => h) (by rfl) ?h4 ?g4 ?_
      case h4 => intro w; go_simp; try with_reducible rfl
      case g4 => intro w; go_simp; try rfl
      simp only [List.setIfInBounds_toArray, List.set_cons_zero, List.set_cons_succ]
      have ct0 := Joins.cell_of_block HT3.out 0
      have ct1 := Joins.cell_of_block HT3.out 1
      simp only [List.getElem?_toArray, List.getElem?_cons_zero, List.getElem?_cons_succ] at ct0 ct1
      obtain ⟨fn, tmps, assign, body, hy, hRd⟩ := HY.out pre (st, n, (n : Int), r2) w2 HJ3.out (by have := HXL.out; rw [HX1.out, HX3.out] at this; simp at this; omega)
      unfold encP at hy
      dsimp only at hy
      refine wpAnyIn_ready (rs := [5]) (by as_aux_lemma => kernel_rfl) (by simp) (AllReadyIn.cons rfl (fun K hK => ?_) AllReadyIn.nil)
      go_simp
      refine hK _ _ ?_
      clear hK K ct0 ct1
      refine wpAnyIn_ready (rs := [6]) (by as_aux_lemma => kernel_rfl) (by simp) (AllReadyIn.cons rfl (fun K hK => ?_) AllReadyIn.nil)
      go_simp
      refine hRd.mono ?_
      rintro e w3 (⟨rfl, hJ3, hk3⟩ | ⟨rfl, hJx3⟩)
      · dsimp only
        refine hK _ _ ?_
        clear hK K hRd hy
        have hG4 : Bg w3 X 0 0 := hk3.typ X _ 61 _ (.inl rfl) HG3.out
        have HC4 := hid (hk3.typ Bc _ 23 _ (.inr (.inr rfl)) HC3.out)
        have HR4 := hid (hk3.ri HR3.out (fun b' off' e => by have h1 := HA.out (by rw [← HL.out]; omega); rw [h1.1] at e; cases e; exact h1.2))
        have HJ4 := hid hJ3
        have HG4 := hid hG4
        clear hk3 hJ3 HG3 HC3 HR3 HJ3 HT3
        try simp only [List.setIfInBounds_toArray, List.set_cons_zero, List.set_cons_succ]
        refine wpAnyIn_ready (rs := [7]) (by as_aux_lemma => kernel_rfl) (by simp) (AllReadyIn.cons rfl (fun K hK => ?_) AllReadyIn.nil)
        go_simp
        refine hK _ _ ?_
        clear hK K
        refine wpAnyIn_done (by as_aux_lemma => kernel_rfl) ?_ _
        have fz0 := Joins.unfrozen_of_block hG4 0
        have fz1 := Joins.unfrozen_of_block hG4 1
        have cg0 := Joins.cell_of_block hG4 0
        have cg1 := Joins.cell_of_block hG4 1
        simp only [List.getElem?_toArray, List.getElem?_cons_zero, List.getElem?_cons_succ] at cg0 cg1
        have HSM := hid hG4.same
        unfold put2 at HSM
        clear hG4
        gi_wp2_with fail
        rw [HSM.out]
        refine ⟨⟨pre ++ [(st, n, (n : Int), r2)], partsF l m b f' (st + n) ((bs.drop st).drop n), st + n, f', _, by omega, by rw [Nat.sub_sub, Nat.sub_sub], fun h => ?_, by show _ ≤ _; have := HF.out; omega, by show _ = _; rw [HX1.out, HX3.out]; simp, by show _ = _; rw [List.drop_drop], HJ4.out, HG4.out, HC4.out, HR4.out⟩, by simp only [lenV]; omega⟩
        rw [if_neg (by omega), Nat.add_assoc]
        exact ⟨rfl, hgn⟩
      · dsimp only
        refine hK _ _ ?_
        clear hK K hRd hy
        try simp only [List.setIfInBounds_toArray, List.set_cons_zero, List.set_cons_succ]
        refine wpAnyIn_ready (rs := [7]) (by as_aux_lemma => kernel_rfl) (by simp) (AllReadyIn.cons rfl (fun K hK => ?_) AllReadyIn.nil)
        go_simp
        refine hK _ _ ?_
        clear hK K
        refine wpAnyIn_done (by as_aux_lemma => kernel_rfl) ?_ _
        gi_wp2_with fail
        refine bodyPost_ret (results_none rfl _ _ _) rfl ?_
        exact ⟨⟨_, rfl⟩, .inr ⟨pre ++ [(st, n, (n : Int), r2)], ⟨partsF l m b f' (st + n) ((bs.drop st).drop n), by rw [HX1.out, HX3.out]; simp⟩, hJx3⟩⟩
    · have hse : st = len := by omega
      subst hse
      have hz0 : ¬ (0 : Int) < ((st - st : Nat) : Int) := by omega
      have hnil : rest = [] := by
        rw [HX2.out, show bs.drop st = [] from by rw [HL.out, List.drop_length]]
        cases f <;> rfl
      subst hnil
      have hJe := HJp.out
      gi_wp2_with fail
      go_end0
      refine ⟨⟨_, rfl⟩, .inl ?_⟩
      first
        | exact ⟨_, rfl, by rw [HX1.out, List.append_nil]; exact hJe⟩
        | (rw [HX1.out, List.append_nil]; exact hJe)
end Go.Proofs.Ytcapkkldjgmhfaa
/-
  All chunks of a row: the contract of roll's Cuts.
-/
namespace Go.Proofs.Ytcapkkldjgmhfaa
open Go.RowKit Go.Shelf
attribute [local go_sem] Oper.semAt_some

/-- How many bytes each chunk has. -/
def cutsL (l m b : Int) (bs : List Int) : List Int := (partsF l m b bs.length 0 bs).map fun x => (x.2.1 : Int)
def cutO (l m b : Int) (bs : List Int) : List Int × Int := if chkC l m b ≠ 0 then ([], 80) else if 1048576 < bs.length then ([], 2) else (cutsL l m b bs, 0)
def CutPost (l m b : Int) (bs : List Int) (w : World) (e : Ending) (w' : World) : Prop :=
  ∃ v, e = .returned (.tuple #[v, .int .i64 (cutO l m b bs).2]) ∧ w'.ownsRow w.heap.size 3 1 v (cutO l m b bs).1.length ((cutO l m b bs).1.map (Value.int .i64)) ∧ Below w.heap.size w w'
theorem Try.info3c : (Try.prog.info? 3).map (fun i => (i.zero, i.size, i.bytes)) = some (some (.int .i64 0), 1, 8) := by kernel_rfl
theorem nil_own (w : World) (base e : Nat) : w.ownsRow base e 1 (.slice none 0 0) 0 [] := ⟨rfl, .inl ⟨rfl, rfl⟩⟩

theorem app_typ {W w1 : World} {B n₀ k : Nat} {v v' : Value} {xs : List Value} {tmp : Obj} (hv : Boxed W B 35 v) (hrow : W.ownsRow n₀ 3 1 v k xs) (hgrow : (W.alloc tmp).grownBy w1 v.ownBlock) (i : Nat) (cs : Array Value) (t : TypeId) (fr : Nat × Nat) (ht : t = 61 ∨ t = 25 ∨ t = 23) (hi : W.heap[i]? = some (.cells cs t fr)) : (w1.setCell ⟨B, 0, none⟩ v').heap[i]? = some (.cells cs t fr) := by
  have hlt := (Array.getElem?_eq_some_iff.1 hi).1
  have hB : i ≠ B := by
    rintro rfl
    have h1 := (show W.heap[i]? = _ from hv).symm.trans hi
    injection h1 with h1
    injection h1 with h1 h2 h3
    rw [← h2] at ht
    simp at ht
  have hne : some i ≠ v.ownBlock := by
    rcases hrow.2 with ⟨rfl, _⟩ | ⟨g, cap, cur, rfl, _, hgb, _⟩
    · simp [Value.ownBlock]
    · intro e'
      obtain rfl : i = g := by simpa [Value.ownBlock] using e'
      have h1 := hi.symm.trans hgb
      injection h1 with h1
      injection h1 with h1 h2 h3
      rw [h2] at ht
      simp at ht
  refine (Below.heap_setCell w1 ⟨B, 0, none⟩ v' i hB).trans ?_
  exact (hgrow.block i (by simp; omega) hne).trans (heap_old W tmp hi)
set_option maxHeartbeats 6400000 in
set_option maxRecDepth 100000 in
theorem cuts_bad (l m b : Int) (a : Option Addr) (cap : Nat) (bs : List Int) (w : World) (hc : chkC l m b ≠ 0) :
    Calls Try.prog 19 #[.agg #[.int .i64 l, .int .i64 m, .int .i64 b], .slice a bs.length cap] w (CutPost l m b bs w) := by
  have hO : cutO l m b bs = ([], 80) := by unfold cutO; rw [if_pos hc]
  have h80 : chkC l m b = 80 := by rcases chkC_or l m b with h | h; exact absurd h hc; exact h
  unfold CutPost
  rw [hO]
  have e0 := heap_new w (.cells #[.int .i64 l, .int .i64 m, .int .i64 b] 23)
  have HCK := hid (check_word l m b (w.alloc (.cells #[.int .i64 l, .int .i64 m, .int .i64 b] 23)))
  rw [h80] at HCK
  have HB := hid (bel_alloc w (.cells #[.int .i64 l, .int .i64 m, .int .i64 b] 23))
  generalize bs.length = len
  clear hO h80 hc e0
  go_enter Try.func19, Try.ntmps19
  go_wp2_with fail
  refine HCK.out.mono ?_
  rintro _ w1 ⟨rfl, hb1⟩
  have HB1 := hid (Bn HB.out hb1)
  clear hb1 HCK HB
  go_wp2_with fail
  go_ret2
  exact ⟨_, rfl, nil_own _ _ _, HB1.out⟩
set_option maxHeartbeats 6400000 in
set_option maxRecDepth 100000 in
theorem cuts_long (l m b : Int) (a : Option Addr) (cap : Nat) (bs : List Int) (w : World) (hc : chkC l m b = 0) (hl : 1048576 < bs.length) :
    Calls Try.prog 19 #[.agg #[.int .i64 l, .int .i64 m, .int .i64 b], .slice a bs.length cap] w (CutPost l m b bs w) := by
  have hO : cutO l m b bs = ([], 2) := by unfold cutO; rw [if_neg (by simp [hc]), if_pos hl]
  unfold CutPost
  rw [hO]
  have HCK := hid (check_word l m b (w.alloc (.cells #[.int .i64 l, .int .i64 m, .int .i64 b] 23)))
  rw [hc] at HCK
  have HB := hid (bel_alloc w (.cells #[.int .i64 l, .int .i64 m, .int .i64 b] 23))
  have hlz : (1048576 : Int) < (bs.length : Int) := by omega
  generalize bs.length = len at *
  clear hO hc
  go_enter Try.func19, Try.ntmps19
  go_wp2_with fail
  refine HCK.out.mono ?_
  rintro _ w1 ⟨rfl, hb1⟩
  have HB1 := hid (Bn HB.out hb1)
  clear hb1 HCK HB
  go_wp2_with fail
  go_ret2
  exact ⟨_, rfl, nil_own _ _ _, HB1.out⟩
set_option maxHeartbeats 6400000 in
set_option maxRecDepth 100000 in
theorem cuts_good (l m b : Int) (a : Option Addr) (cap : Nat) (bs : List Int) (w : World) (hr : Ri w .u8 a cap bs) (hc : chkC l m b = 0) (hl : bs.length ≤ 1048576) :
    Calls Try.prog 19 #[.agg #[.int .i64 l, .int .i64 m, .int .i64 b], .slice a bs.length cap] w (CutPost l m b bs w) := by
  have hO : cutO l m b bs = (cutsL l m b bs, 0) := by unfold cutO; rw [if_neg (by simp [hc]), if_neg (by omega)]
  unfold CutPost
  rw [hO]
  unfold cutsL
  have HCK := hid (check_word l m b (w.alloc (.cells #[.int .i64 l, .int .i64 m, .int .i64 b] 23)))
  rw [hc] at HCK
  have e0 := heap_new w (.cells #[.int .i64 l, .int .i64 m, .int .i64 b] 23)
  have HB := hid (bel_alloc w (.cells #[.int .i64 l, .int .i64 m, .int .i64 b] 23))
  have HR := hid hr
  have HC := hid hc
  have hlz : ¬ (1048576 : Int) < (bs.length : Int) := by omega
  obtain ⟨gb, off, hgo⟩ : ∃ gb off, 0 < bs.length → a = some ⟨gb, off, none⟩ ∧ gb < w.heap.size := by
    by_cases h0 : 0 < bs.length
    · obtain ⟨gb, off, e, hb, _⟩ := hr.cells h0
      exact ⟨gb, off, fun _ => ⟨e, hb⟩⟩
    · exact ⟨0, 0, fun h => absurd h h0⟩
  have HGO := hid hgo
  obtain ⟨xs, hxs⟩ : ∃ xs, xs = partsF l m b bs.length 0 bs := ⟨_, rfl⟩
  have HXS := hid hxs
  rw [← hxs]
  clear hO hc hgo hxs hr
  obtain ⟨len, hln⟩ : ∃ n, n = bs.length := ⟨_, rfl⟩
  have HL := hid hln
  rw [← hln] at hlz hl ⊢
  clear hln
  have HE0 := hid e0
  clear e0
  refine (callsIn_wide (n := 10)).1 ?_
  refine callsIn_of_wp_marks Try.func19 rfl trivial ?_ rfl
  simp only [Try.ntmps19, List.size_toArray, List.length_cons, List.length_nil, Nat.reduceAdd, Nat.reduceSub, Array.replicate_succ, Array.replicate_zero, List.push_toArray, List.append_toArray, List.nil_append, List.cons_append]
  gi_wp2_with fail
  refine ⟨trivial, ?_⟩
  refine (callsIn_wide.2 HCK.out).mono ?_
  rintro _ w1 ⟨rfl, hb1⟩
  have HB1 := hid (Bn HB.out hb1)
  have hE1 := (hb1.block w.heap.size (Array.getElem?_eq_some_iff.1 HE0.out).1).trans HE0.out
  have HE1 := hid (heap_old w1 (.cells #[.slice none 0 0] 35) hE1)
  have hc0 := Joins.cell_of_block HE1.out 0
  have hc1 := Joins.cell_of_block HE1.out 1
  have hc2 := Joins.cell_of_block HE1.out 2
  simp only [List.getElem?_toArray, List.getElem?_cons_zero, List.getElem?_cons_succ] at hc0 hc1 hc2
  have HB2 := hid (Bn HB1.out (bel_alloc w1 (.cells #[.slice none 0 0] 35)))
  have HBX := hid (Boxed.new w1 35 (.slice none 0 0))
  clear hb1 HCK HB HE0 hE1
  gi_wp2_with fail
  refine ⟨trivial, ?_⟩
  refine (callsIn_wide.2 (parts_word l m b 0 0 a len cap _)).mono ?_
  rintro _ w4 ⟨rfl, hw4⟩
  have HBX2 := hid (((HBX.out.alloc (.cells #[.int .i64 l, .int .i64 m, .int .i64 b] 23)).alloc (.cells #[.int .i64 0, .int .u64 0] 61)).alloc (.cells #[.slice a len cap] 25))
  have hsz2 : (w1.alloc (.cells #[.slice none 0 0] 35)).heap.size = w1.heap.size + 1 := World.size_alloc _ _
  have HB4 := hid (Bn (Bn (Bn HB2.out (bel_alloc _ (.cells #[.int .i64 l, .int .i64 m, .int .i64 b] 23))) (bel_alloc _ (.cells #[.int .i64 0, .int .u64 0] 61))) (bel_alloc _ (.cells #[.slice a len cap] 25)))
  have e1 := heap_new (w1.alloc (.cells #[.slice none 0 0] 35)) (.cells #[.int .i64 l, .int .i64 m, .int .i64 b] 23)
  have e2 := heap_new ((w1.alloc (.cells #[.slice none 0 0] 35)).alloc (.cells #[.int .i64 l, .int .i64 m, .int .i64 b] 23)) (.cells #[.int .i64 0, .int .u64 0] 61)
  have e3 := heap_new (((w1.alloc (.cells #[.slice none 0 0] 35)).alloc (.cells #[.int .i64 l, .int .i64 m, .int .i64 b] 23)).alloc (.cells #[.int .i64 0, .int .u64 0] 61)) (.cells #[.slice a len cap] 25)
  have HP1 := hid (heap_old _ (.cells #[.slice a len cap] 25) (heap_old _ (.cells #[.int .i64 0, .int .u64 0] 61) e1))
  have HP2 := hid (heap_old _ (.cells #[.slice a len cap] 25) e2)
  have HP3 := hid e3
  simp only [World.size_alloc] at HP1 HP2 HP3 hw4 ⊢
  clear hc0 hc1 hc2 e1 e2 e3 hsz2 HE1 HB2 HBX
  subst hw4
  generalize (((w1.alloc (.cells #[.slice none 0 0] 35)).alloc (.cells #[.int .i64 l, .int .i64 m, .int .i64 b] 23)).alloc (.cells #[.int .i64 0, .int .u64 0] 61)).alloc (.cells #[.slice a len cap] 25) = W4 at *
  have hb1s := HB1.out.size
  obtain ⟨Bx, hBxe⟩ : ∃ B, B = w1.heap.size := ⟨_, rfl⟩
  rw [← hBxe] at HP1 HP2 HP3 HBX2 ⊢
  have hBx : w.heap.size ≤ Bx := by omega
  clear hBxe hb1s HB1
  have hn0 := HB4.out.size
  have hSQ := parts_stops l m b a cap bs w.heap.size (Bx + 1 + 1) (Bx + 1 + 1 + 1) (Bx + 1) gb off W4 HC.out (HR.out.later HB4.out) hn0 HGO.out HP2.out (by rw [← HL.out]; exact HP3.out) HP1.out
  rw [← HXS.out, ← HL.out] at hSQ
  have HSQ := hid hSQ
  clear hSQ
  gi_wp2_with fail
  refine wpIn_rangeFunc_ownG rfl (by omega) (gf := 36) (lb := #[.pointer (some ⟨Bx + 1 + 1, 0, none⟩), .pointer (some ⟨Bx + 1 + 1 + 1, 0, none⟩), .pointer (some ⟨Bx + 1, 0, none⟩)]) rfl trivial (enters_of Try.func36 (by kernel_rfl) rfl) HSQ.out (fun h k => h.trans k) (Kq.put hn0) (Below.refl _ _) (fun _ => rfl)
    (fun pre W => (∃ v, Boxed W Bx 35 v ∧ W.ownsRow w.heap.size 3 1 v pre.length (pre.map fun x => Value.int .i64 (x.2.1 : Int)) ∧ True) ∧ Below w.heap.size w W)
    (fun _ _ _ => False)
    (OwnFrom.and (Own.from (holdsRow_own w.heap.size Bx 35 3 1 (fun pre : List Pt => pre.length) (fun pre => pre.map fun x => Value.int .i64 (x.2.1 : Int)) (fun _ _ => True)) _) (ownFrom_below (Nat.le_refl _) hn0))
    (fun _ _ _ _ _ hs _ _ => hs)
    ⟨⟨_, HBX2.out, nil_own _ _ _, trivial⟩, HB4.out⟩
    (fun x => { tmps := #[.agg #[.int .i64 l, .int .i64 m, .int .i64 b], .slice a len cap, .pointer (some ⟨w.heap.size, 0, none⟩), undef, .slice none 0 0, .int .i64 0, .int .i64 0, .pointer (some ⟨Bx, 0, none⟩), .slice (some ⟨gb, off + x.1, none⟩) x.2.1 x.2.1, .agg #[.int .i64 l, .int .i64 m, .int .i64 b], .int .i64 0, .int .i64 0, .bool false, undef, .slice a len cap, .int .i64 (len : Int), .bool (decide ((1048576 : Int) < (len : Int))), .agg #[.int .i64 l, .int .i64 m, .int .i64 b], .agg #[.int .i64 0, .int .u64 0], .slice a len cap, .func (.func 36) #[] #[.pointer (some ⟨Bx + 1 + 1, 0, none⟩), .pointer (some ⟨Bx + 1 + 1 + 1, 0, none⟩), .pointer (some ⟨Bx + 1, 0, none⟩)], .slice (some ⟨gb, off + x.1, none⟩) x.2.1 x.2.1, .agg #[.int .i64 x.2.2.1, .int .u64 x.2.2.2], undef, undef, undef, undef, undef, undef], defers := [] }) ?assign ?body ?done ?stop
  case assign =>
    intro l x W K hK
    unfold encP
    gi_wp2
    exact hK
  case body =>
    rintro ll pre x W ⟨⟨v, hv, hrow, _⟩, hB⟩ hlen
    obtain ⟨i0, hi, hz0, hz1, hz2⟩ := info_parts Try.info3c
    have hcv := hv.cell
    gi_wp2_with (gi_at_builtin; refine wpListIn_append_own _ rfl _ _ 35 rfl w.heap.size 3 i0 (.int .i64 0) 1 8 Try.underlying35 hi hz0 hz1 hz2 rfl (by decide) _ _ _ rfl (hrow.alloc _) ⟨W.heap.size, 0, none⟩ 1 1 [.int .i64 (x.2.1 : Int)] rfl rfl (cell_one_new _ _ _) (by simp [Value.oneCell']) (by unfold maxLen; omega) (by omega) (by have := hB.size; simp; omega) ?_; intro v' w1 hown' hgrow _; obtain ⟨g', cap', rfl⟩ := ownsRow_succ hown'; have hty := app_typ (v' := .slice (some ⟨g', 0, none⟩) (pre.length + 1) cap') hv hrow hgrow; obtain ⟨hv1, hv2, hr2, hk2, hb2⟩ := hv.appended (by decide) hrow hB.size hBx hown' hgrow; have hc1 := hv1.cell; have hf1 := hv1.frozen)
    refine ⟨hk2.from _, ⟨hb2.size, fun i hi => hb2.block i hi, fun i cs t fr ht h => hty i cs t fr ht h⟩, ⟨_, hv2, ?_, trivial⟩, hB.trans hb2⟩
    rw [List.length_append, List.map_append]
    exact hr2
  case done =>
    rintro D ys W hD rfl ⟨⟨v, hv, hrow, _⟩, hb⟩ hK
    have hcv := hv.cell
    gi_wp2_with fail
    refine ⟨by simp, .inl ⟨_, _, rfl, run_takeDeferred hK, ?_⟩⟩
    refine ⟨_, results_tmp2 rfl _ _ _, v, rfl, ?_, hb.trans (belowK_b (w := w) (Nat.le_refl _) W D _ _ (by omega) hK rfl rfl)⟩
    rw [List.length_map, List.map_map]
    exact ownsRow_putObj hrow _ hK rfl
  case stop =>
    rintro D c pre W _ _ h _
    exact h.elim
end Go.Proofs.Ytcapkkldjgmhfaa
/-
  The document's Cuts and Next, the code's Next.
-/
namespace Go.Proofs.Ytcapkkldjgmhfaa
open Go.RowKit

theorem cuts_word (l m b : Int) (a : Option Addr) (cap : Nat) (bs : List Int) (w : World) (hr : Ri w .u8 a cap bs) :
    Calls Try.prog 19 #[.agg #[.int .i64 l, .int .i64 m, .int .i64 b], .slice a bs.length cap] w (CutPost l m b bs w) := by
  by_cases hc : chkC l m b = 0
  · by_cases hl : 1048576 < bs.length
    · exact cuts_long l m b a cap bs w hc hl
    · exact cuts_good l m b a cap bs w hr hc (by omega)
  · exact cuts_bad l m b a cap bs w hc
set_option maxHeartbeats 6400000 in
set_option maxRecDepth 100000 in
theorem cuts_refbad (l m b : Int) (a : Option Addr) (cap : Nat) (bs : List Int) (w : World) (hc : chkC l m b ≠ 0) :
    Calls Try.prog 20 #[.agg #[.int .i64 l, .int .i64 m, .int .i64 b], .slice a bs.length cap] w (CutPost l m b bs w) := by
  have hO : cutO l m b bs = ([], 80) := by unfold cutO; rw [if_pos hc]
  have h80 : chkC l m b = 80 := by rcases chkC_or l m b with h | h; exact absurd h hc; exact h
  unfold CutPost
  rw [hO]
  have HCK := hid (check_ref l m b (w.alloc (.cells #[.int .i64 l, .int .i64 m, .int .i64 b] 23)))
  rw [h80] at HCK
  have HB := hid (bel_alloc w (.cells #[.int .i64 l, .int .i64 m, .int .i64 b] 23))
  generalize bs.length = len
  clear hO h80 hc
  go_enter Try.func20, Try.ntmps20
  go_wp2_with fail
  refine HCK.out.mono ?_
  rintro _ w1 ⟨rfl, hb1⟩
  have HB1 := hid (Bn HB.out hb1)
  clear hb1 HCK HB
  go_wp2_with fail
  go_ret2
  exact ⟨_, rfl, nil_own _ _ _, HB1.out⟩
set_option maxHeartbeats 6400000 in
set_option maxRecDepth 100000 in
theorem cuts_reflong (l m b : Int) (a : Option Addr) (cap : Nat) (bs : List Int) (w : World) (hc : chkC l m b = 0) (hl : 1048576 < bs.length) :
    Calls Try.prog 20 #[.agg #[.int .i64 l, .int .i64 m, .int .i64 b], .slice a bs.length cap] w (CutPost l m b bs w) := by
  have hO : cutO l m b bs = ([], 2) := by unfold cutO; rw [if_neg (by simp [hc]), if_pos hl]
  unfold CutPost
  rw [hO]
  have HCK := hid (check_ref l m b (w.alloc (.cells #[.int .i64 l, .int .i64 m, .int .i64 b] 23)))
  rw [hc] at HCK
  have HB := hid (bel_alloc w (.cells #[.int .i64 l, .int .i64 m, .int .i64 b] 23))
  have hlz : (1048576 : Int) < (bs.length : Int) := by omega
  generalize bs.length = len at *
  clear hO hc
  go_enter Try.func20, Try.ntmps20
  go_wp2_with fail
  refine HCK.out.mono ?_
  rintro _ w1 ⟨rfl, hb1⟩
  have HB1 := hid (Bn HB.out hb1)
  clear hb1 HCK HB
  go_wp2_with fail
  go_ret2
  exact ⟨_, rfl, nil_own _ _ _, HB1.out⟩
/-- What the loop keeps: the rest of the row, the lengths so far. -/
def RcI (l m b : Int) (a : Option Addr) (len cap : Nat) (bs xs : List Int) (w : World) (x v : Value) (wr : World) : Prop :=
  ∃ (st f : Nat) (aa : Option Addr) (acc : List Int) (ln cp : Nat), x = .slice aa ln cp ∧ ln = len - st ∧ cp = cap - st ∧ st ≤ len ∧ acc.length ≤ 1048576 ∧ wr.ownsRow w.heap.size 3 1 v acc.length (acc.map (Value.int .i64)) ∧ Below w.heap.size w wr ∧ (st < len → ∃ gb off, a = some ⟨gb, off, none⟩ ∧ aa = some ⟨gb, off + st, none⟩) ∧ len - st ≤ f ∧ xs = acc ++ (partsF l m b f st (bs.drop st)).map (fun x => (x.2.1 : Int)) ∧ wr.heap[w.heap.size]? = some (.cells #[.int .i64 l, .int .i64 m, .int .i64 b] 23 (0, 0))
set_option maxHeartbeats 6400000 in
set_option maxRecDepth 100000 in
theorem cuts_refgood (l m b : Int) (a : Option Addr) (cap : Nat) (bs : List Int) (w : World) (hr : Ri w .u8 a cap bs) (hc : chkC l m b = 0) (hl : bs.length ≤ 1048576) :
    Calls Try.prog 20 #[.agg #[.int .i64 l, .int .i64 m, .int .i64 b], .slice a bs.length cap] w (CutPost l m b bs w) := by
  have hO : cutO l m b bs = (cutsL l m b bs, 0) := by unfold cutO; rw [if_neg (by simp [hc]), if_neg (by omega)]
  unfold CutPost
  rw [hO]
  have HCK := hid (check_ref l m b (w.alloc (.cells #[.int .i64 l, .int .i64 m, .int .i64 b] 23)))
  rw [hc] at HCK
  have e0 := heap_new w (.cells #[.int .i64 l, .int .i64 m, .int .i64 b] 23)
  have HE0 := hid e0
  have HB := hid (bel_alloc w (.cells #[.int .i64 l, .int .i64 m, .int .i64 b] 23))
  have HR := hid hr
  have HC := hid hc
  have hroom := hr.room
  have hmost := hr.most
  unfold maxLen at hmost
  have hlz : ¬ (1048576 : Int) < (bs.length : Int) := by omega
  obtain ⟨i0, hi, hz0, hz1, hz2⟩ := info_parts Try.info3c
  obtain ⟨xs, hxs⟩ : ∃ xs, xs = cutsL l m b bs := ⟨_, rfl⟩
  have HXS := hid hxs
  have HXL : Hid (xs.length ≤ bs.length) := by show _ ≤ _; rw [hxs, cutsL, List.length_map]; exact parts_len l m b _ _ _
  rw [← hxs]
  clear hO hc hxs hr e0
  obtain ⟨len, hln⟩ : ∃ n, n = bs.length := ⟨_, rfl⟩
  have HL := hid hln
  rw [← hln] at hlz hl HXL hroom ⊢
  clear hln
  go_enter Try.func20, Try.ntmps20
  go_wp2_with fail
  refine HCK.out.mono ?_
  rintro _ w1 ⟨rfl, hb1⟩
  have HB1 := hid (Bn HB.out hb1)
  have HE1 := hid ((hb1.block w.heap.size (Array.getElem?_eq_some_iff.1 HE0.out).1).trans HE0.out)
  clear hb1 HCK HB HE0
  go_wp2_with fail
  go_loopw [1, 6] (fun x v wr => RcI l m b a len cap bs xs w x v wr) (fun x _ _ => lenV x)
  case atStart =>
    refine ⟨0, len, a, [], len, cap, rfl, rfl, rfl, Nat.zero_le _, by simp, nil_own _ _ _, HB1.out, fun h => ?_, Nat.sub_le _ _, ?_, HE1.out⟩
    · obtain ⟨gb, off, e, _⟩ := HR.out.cells (by rw [← HL.out]; exact h)
      exact ⟨gb, off, e, e⟩
    · rw [HXS.out, cutsL, HL.out]; simp
  case round =>
    clear HB1 HE1
    obtain ⟨st, f, aa, acc, ln, cp, rfl, hln, hcp', hst, hal, hown, hbel, hAA, hF, hX, hE⟩ := hrel
    subst hln hcp'
    have HAA := hid hAA
    have HF := hid hF
    have HX := hid hX
    have HE := hid hE
    clear hAA hF hX hE
    have hsz := hbel.size
    by_cases hlt : st < len
    · obtain ⟨gb, off, ha, rfl⟩ := HAA.out hlt
      have hd := drop_at bs st (by rw [← HL.out]; exact hlt)
      have hdl : (bs.drop st).length = len - st := by rw [List.length_drop, HL.out]
      have HNX := hid (next_ref l m b (some ⟨gb, off + st, none⟩) (cap - st) (bs.drop st) wr ((HR.out.later hbel).dropR st gb off (by rw [← HL.out]; exact hlt) ha) HC.out)
      rw [hdl] at HNX
      unfold nextL at HNX
      have hcn := with_cnt l m b (bs.drop st) 0 0
      have hcp := hcn.2.2 (by rw [hd]; simp)
      rw [hdl] at hcn
      obtain ⟨f', rfl⟩ : ∃ f', f = f' + 1 := ⟨f - 1, by have := HF.out; omega⟩
      obtain ⟨n, hn⟩ : ∃ n, n = (withL l m b 0 0 (bs.drop st)).1.toNat := ⟨_, rfl⟩
      have HX3 : Hid (xs = (acc ++ [(n : Int)]) ++ (partsF l m b f' (st + n) ((bs.drop st).drop n)).map fun x => (x.2.1 : Int)) := by
        show _ = _
        rw [HX.out, hn, hd, partsF]
        simp
      have hnz : (withL l m b 0 0 (bs.drop st)).1 = (n : Int) := by omega
      rw [hnz] at HNX
      have hn1 : 1 ≤ n := by omega
      have hn2 : n ≤ len - st := by omega
      have hal2 : acc.length + 1 ≤ 1048576 := by have h1 := HXL.out; rw [HX3.out] at h1; simp at h1; omega
      generalize (withL l m b 0 0 (bs.drop st)).2 = r2 at *
      generalize endB l m b (n : Int) r2 = okb at *
      have cb0 := Joins.cell_of_block HE.out 0
      have cb1 := Joins.cell_of_block HE.out 1
      have cb2 := Joins.cell_of_block HE.out 2
      simp only [List.getElem?_toArray, List.getElem?_cons_zero, List.getElem?_cons_succ] at cb0 cb1 cb2
      have hpos : (0 : Int) < ((len - st : Nat) : Int) := by omega
      clear hd hdl hcn hcp hn hnz
      go_wp2_with fail
      refine HNX.out.mono ?_
      rintro _ w2 ⟨rfl, hb2⟩
      have hown2 := hown.kept (grown_of_below hb2) (by cases u6.ownBlock <;> simp)
      have hbel2 := Bn hbel hb2
      have hsz2 := hbel2.size
      have HE2 := hid ((hb2.block w.heap.size (Array.getElem?_eq_some_iff.1 HE.out).1).trans HE.out)
      clear HNX hb2 hown hbel cb0 cb1 cb2 HE
      have hs1 : (n : Int) ≤ ((len - st : Nat) : Int) := by omega
      go_wp2_with (at_builtin; refine wpList_append_own _ rfl _ _ 35 rfl w.heap.size 3 i0 (.int .i64 0) 1 8 Try.underlying35 hi hz0 hz1 hz2 rfl (by decide) _ _ _ rfl (hown2.alloc _) ⟨w2.heap.size, 0, none⟩ 1 1 [.int .i64 (n : Int)] rfl rfl ?c1 ?c2 ?c3 ?c4 ?c5 ?_)
      case c1 =>
        intro j u hj
        match j, hj with
        | 0, hj => simp at hj; subst hj; simp [Addr.add]
      case c2 => intro u hu; simp at hu; subst hu; rfl
      case c3 => unfold maxLen; omega
      case c4 => omega
      case c5 => simp; omega
      intro v1 w3 hown3 hgrow _
      have HB3 := hid ((hbel2.alloc hsz2 _).grown hgrow (by simp; omega) (fun j hj => (hown2.lt j hj).1))
      have HO3 : Hid (w3.ownsRow w.heap.size 3 1 v1 (acc ++ [(n : Int)]).length ((acc ++ [(n : Int)]).map (Value.int .i64))) := by
        show World.ownsRow _ _ _ _ _ _ _
        simpa using hown3
      have hneB : some w.heap.size ≠ u6.ownBlock := by
        rcases hown2.2 with ⟨rfl, _⟩ | ⟨g, cp, cur, rfl, _, hgb, _⟩
        · simp [Value.ownBlock]
        · intro e'
          obtain rfl : w.heap.size = g := by simpa [Value.ownBlock] using e'
          have h1 := HE2.out.symm.trans hgb
          injection h1 with h1
          injection h1 with h1 h2 h3
          simp at h2
      have HE3 := hid ((hgrow.block w.heap.size (by have := (Array.getElem?_eq_some_iff.1 HE2.out).1; simp; omega) hneB).trans (heap_old w2 _ HE2.out))
      clear hown2 hown3 hgrow hbel2 HE2 hneB
      go_wp2_with fail
      · refine ⟨⟨st + n, f', _, acc ++ [(n : Int)], _, _, rfl, by omega, by omega, by omega, by simp; omega, HO3.out, HB3.out, fun h => by omega, by have := HF.out; omega, by rw [HX3.out, List.drop_drop], HE3.out⟩, by simp only [lenV]; omega⟩
      · refine ⟨⟨st + n, f', _, acc ++ [(n : Int)], _, _, rfl, by omega, by omega, by omega, by simp; omega, HO3.out, HB3.out, fun h => ⟨gb, off, by first | exact ha | rfl, by rw [Nat.add_assoc]⟩, by have := HF.out; omega, by rw [HX3.out, List.drop_drop], HE3.out⟩, by simp only [lenV]; omega⟩
    · have hse : st = len := by omega
      subst hse
      have hz : ¬ (0 : Int) < ((st - st : Nat) : Int) := by omega
      have hnil : xs = acc := by
        rw [HX.out, show bs.drop st = [] from by rw [HL.out, List.drop_length]]
        cases f <;> simp [partsF]
      subst hnil
      go_wp2_with fail
      go_ret2
      exact ⟨u6, rfl, hown, hbel⟩
theorem cuts_ref (l m b : Int) (a : Option Addr) (cap : Nat) (bs : List Int) (w : World) (hr : Ri w .u8 a cap bs) :
    Calls Try.prog 20 #[.agg #[.int .i64 l, .int .i64 m, .int .i64 b], .slice a bs.length cap] w (CutPost l m b bs w) := by
  by_cases hc : chkC l m b = 0
  · by_cases hl : 1048576 < bs.length
    · exact cuts_reflong l m b a cap bs w hc hl
    · exact cuts_refgood l m b a cap bs w hr hc (by omega)
  · exact cuts_refbad l m b a cap bs w hc
end Go.Proofs.Ytcapkkldjgmhfaa
