/-
  The document's cutter: Write, Close.
-/
import Derived.Test.YtcapkkldjgmhfaaPart07
import Derived.Test.YtcapkkldjgmhfaaPart02
namespace Go.Proofs.Ytcapkkldjgmhfaa
open Go.RowKit

/-- The document's cutter, its settings and the slice that is left. -/
def Rb (W : World) (g : Nat) (l m b : Int) (v : Value) : Prop := W.heap[g]? = some (.cells #[.int .i64 l, .int .i64 m, .int .i64 b, v] 46 (0, 0))
theorem Rb.cells {W : World} {g : Nat} {l m b : Int} {v : Value} (k : Rb W g l m b v) : W.cell? ⟨g, 0, none⟩ = some (.int .i64 l) ∧ W.cell? ⟨g, 1, none⟩ = some (.int .i64 m) ∧ W.cell? ⟨g, 2, none⟩ = some (.int .i64 b) ∧ W.cell? ⟨g, 3, none⟩ = some v :=
  ⟨Joins.cell_of_block k 0, Joins.cell_of_block k 1, Joins.cell_of_block k 2, Joins.cell_of_block k 3⟩
theorem Rb.lt {W : World} {g : Nat} {l m b : Int} {v : Value} (k : Rb W g l m b v) : g < W.heap.size := (Array.getElem?_eq_some_iff.1 k).1
theorem Rb.put {W : World} {g : Nat} {l m b : Int} {v : Value} (k : Rb W g l m b v) (v' : Value) : Rb (W.setCell ⟨g, 3, none⟩ v') g l m b v' := by
  unfold Rb
  rw [Joins.block_setCell k _]
  simp
theorem Rb.unfrozen {W : World} {g : Nat} {l m b : Int} {v : Value} (k : Rb W g l m b v) (i : Nat) : W.frozen? ⟨g, i, none⟩ = false := Joins.unfrozen_of_block k i
theorem Ri.blk {w W : World} {a : Option Addr} {cap : Nat} {zs : List Int} (hr : Ri w .u8 a cap zs) (hg : ∀ b off, 0 < zs.length → a = some ⟨b, off, none⟩ → W.heap[b]? = w.heap[b]? ∧ b < W.heap.size) : Ri W .u8 a cap zs := by
  refine ⟨hr.room, hr.most, fun h0 => ?_, hr.fits⟩
  obtain ⟨b, off, ha, hbw, hc⟩ := hr.cells h0
  refine ⟨b, off, ha, (hg b off h0 ha).2, fun j hj => ?_⟩
  have e := hc j hj
  rw [← e]
  unfold World.cell?
  rw [(hg b off h0 ha).1]
theorem Ri.none (W : World) (a : Option Addr) (cap : Nat) (h : cap ≤ maxLen) : Ri W .u8 a cap [] := ⟨Nat.zero_le _, h, fun h => absurd h (Nat.lt_irrefl _), fun j => by simpa using wf_zero _⟩
/-- Behind the document's Write: what it told, what is left; the rows lie in blocks of its own. -/
def RwPost (g : Nat) (l m b : Int) (T : List Int) (w : World) (e : Ending) (w' : World) : Prop :=
  ∃ v a cap, e = .returned v ∧ Chs w' w.heap.size v (docW l m b T.length T).1 ∧ Rb w' g l m b (.slice a (docW l m b T.length T).2.length cap) ∧ Ri w' .u8 a cap (docW l m b T.length T).2 ∧ (∀ b' off, 0 < (docW l m b T.length T).2.length → a = some ⟨b', off, none⟩ → w.heap.size ≤ b' ∧ ∃ cs, w'.heap[b']? = some (.cells cs 5 (0, 0))) ∧ But1 g w w'
def RwI (g gq cT : Nat) (cur : Array Value) (l m b : Int) (T : List Int) (w : World) (v : Value) (wr : World) : Prop :=
  ∃ (st f : Nat) (aa : Option Addr) (L : List (List Int)), st ≤ T.length ∧ T.length - st ≤ f ∧ Rb wr g l m b (.slice aa (T.length - st) (cT - st)) ∧ (st < T.length → aa = some ⟨gq, st, none⟩) ∧ Chs wr w.heap.size v L ∧ L.length ≤ st ∧
    docW l m b T.length T = (L ++ (docW l m b f (T.drop st)).1, (docW l m b f (T.drop st)).2) ∧ (0 < T.length → wr.heap[gq]? = some (.cells cur 5 (0, 0)) ∧ w.heap.size ≤ gq) ∧ But1 g w wr
def leftN (g : Nat) (W : World) : Nat := match W.cell? ⟨g, 3, none⟩ with | some (.slice _ n _) => n | _ => 0
theorem leftN_eq {W : World} {g : Nat} {l m b : Int} {a : Option Addr} {n c : Nat} (k : Rb W g l m b (.slice a n c)) : leftN g W = n := by
  unfold leftN
  rw [k.cells.2.2.2]
set_option maxHeartbeats 6400000 in
set_option maxRecDepth 100000 in
theorem rwrite_ref (g : Nat) (l m b : Int) (aP : Option Addr) (cP : Nat) (P : List Int) (a : Option Addr) (cap : Nat) (bs : List Int) (w : World) (hc : chkC l m b = 0) (k : Rb w g l m b (.slice aP P.length cP)) (hp : Ri w .u8 aP cP P) (hr : Ri w .u8 a cap bs)
    (hl : P.length + bs.length ≤ 1048576) :
    Calls Try.prog 27 #[.pointer (some ⟨g, 0, none⟩), .slice a bs.length cap] w (RwPost g l m b (P ++ bs) w) := by
  unfold RwPost
  obtain ⟨_, _, _, c3⟩ := k.cells
  obtain ⟨T, hT⟩ : ∃ T, T = P ++ bs := ⟨_, rfl⟩
  have HT := hid hT
  rw [← hT]
  clear hT
  have hb0 := bel_alloc w (.cells #[] 5)
  have c3' := (hb0.cell (p := ⟨g, 3, none⟩) k.lt).trans c3
  have HK := hid k
  have HB0 := hid hb0
  have HC := hid hc
  have hpa := hp.later hb0
  have HR := hid hr
  have HFT : Hid (∀ j, (Lit.int .u8 ((P ++ bs).getD j 0)).wf = true) := fun j => by
    have := (fits_mem (L := P ++ bs)).2 (fun z hz => by rcases List.mem_append.1 hz with h | h; exact fits_mem.1 (fun j => wf_u8 (hp.fits j)) z h; exact fits_mem.1 (fun j => wf_u8 (hr.fits j)) z h) j
    exact wf_mk_u8 this.1 this.2
  have hsz0 : w.heap.size ≤ (w.alloc (.cells #[] 5)).heap.size := hb0.size
  have ho0 := new_own w w.heap.size (Nat.le_refl _)
  have hbdP : ([] : List Int).length + P.length ≤ 10000000 := by simp; omega
  have HPL : Hid (P.length + bs.length ≤ 1048576) := hl
  clear hc k hp hr hb0 c3
  go_enter Try.func27, Try.ntmps27
  go_wp2_with (at_builtin; refine app_any _ rfl _ _ rfl w.heap.size _ [] rfl ho0 aP cP P rfl hpa hbdP hsz0 ?_)
  intro v1 w1 ho1 hg1
  have hb1 : Below w.heap.size w w1 := HB0.out.grown hg1 hsz0 (fun j e => by simp [Value.ownBlock] at e; omega)
  have hr1 := HR.out.later hb1
  have hsz1 := hb1.size
  have hbd1 : P.length + bs.length ≤ 10000000 := by have := HPL.out; omega
  clear hg1 hpa c3' ho0 hbdP HB0 hsz0
  go_wp2_with (at_builtin; refine app_any _ rfl _ _ rfl w.heap.size _ P rfl ho1 a cap bs rfl hr1 hbd1 hsz1 ?_)
  intro v2 w2 ho2 hg2
  have hb2 : Below w.heap.size w w2 := hb1.grown hg2 hsz1 (fun j e => by
    rcases ho1.2 with ⟨rfl, _⟩ | ⟨g9, cap9, cur9, rfl, hb9, _, _⟩
    · simp [Value.ownBlock] at e
    · obtain rfl : g9 = j := by simpa [Value.ownBlock] using e
      exact hb9)
  have hk2 : Rb w2 g l m b (.slice aP P.length cP) := (hb2.block g HK.out.lt).trans HK.out
  rw [← List.length_append, ← List.map_append, ← HT.out] at ho2
  rw [← HT.out] at HFT
  have HTL : Hid (T.length ≤ 1048576) := by show _ ≤ _; rw [HT.out, List.length_append]; exact HPL.out
  obtain ⟨gq, cur, hq⟩ : ∃ gq cur, 0 < T.length → v2.ownBlock = some gq ∧ w.heap.size ≤ gq ∧ w2.heap[gq]? = some (.cells cur 5 (0, 0)) ∧ ∃ c9, v2 = .slice (some ⟨gq, 0, none⟩) T.length c9 := by
    rcases ho2.2 with ⟨rfl, h0⟩ | ⟨g9, cap9, cur9, rfl, hb9, hgb9, _⟩
    · exact ⟨0, #[], fun h => by omega⟩
    · exact ⟨g9, cur9, fun _ => ⟨rfl, hb9, hgb9, _, rfl⟩⟩
  obtain ⟨aT, cT, rfl, rT⟩ := Ri.own ho2 HFT.out
  have HQ := hid hq
  have HRT := hid rT
  have HB2 := hid hb2
  have c3 := hk2.cells.2.2.2
  have f3 := hk2.unfrozen 3
  have HB3 : Hid (But1 g w (w2.setCell ⟨g, 3, none⟩ (.slice aT T.length cT))) := (But1.of_below hb2).set _
  have HK3 := hid (hk2.put (.slice aT T.length cT))
  have HQ3 : Hid (0 < T.length → (w2.setCell ⟨g, 3, none⟩ (.slice aT T.length cT)).heap[gq]? = some (.cells cur 5 (0, 0)) ∧ w.heap.size ≤ gq) := fun h => ⟨(Below.heap_setCell w2 ⟨g, 3, none⟩ _ gq (by have h1 := (hq h).2.1; have h2 := HK.out.lt; show gq ≠ g; omega)).trans (hq h).2.2.1, (hq h).2.1⟩
  have HA3 : Hid (0 < T.length → aT = some ⟨gq, 0, none⟩) := fun h => by
    obtain ⟨_, _, _, c9, e9⟩ := hq h
    cases e9
    rfl
  obtain ⟨tl, htl⟩ : ∃ n, n = T.length := ⟨_, rfl⟩
  have HTE := hid htl
  clear hg2 ho1 ho2 hr1 hb1 hb2 hk2 hq rT HT HB2 hl hsz1 hbd1
  rw [← htl] at HB3 HK3 HQ3 ⊢
  clear htl
  go_wp2_with fail
  go_loopw [5] (fun v wr => RwI g gq cT cur l m b T w v wr) (fun _ wr => leftN g wr)
  case atStart =>
    refine ⟨0, T.length, aT, [], Nat.zero_le _, Nat.sub_le _ _, ?_, HA3.out, ⟨[], nil_own _ _ _, fun i hi => absurd hi (Nat.not_lt_zero _)⟩, Nat.le_refl _, by rw [List.drop_zero, List.nil_append], by rw [← HTE.out]; exact HQ3.out, HB3.out⟩
    rw [Nat.sub_zero, Nat.sub_zero, ← HTE.out]
    exact HK3.out
  case round =>
    clear HK3 HB3 HQ3 c3 f3
    obtain ⟨st, f, aa, L, hst, hf, hrb, haa, hch, hLs, hD, hgq, hbt⟩ := hrel
    have HRB := hid hrb
    have HAA := hid haa
    have HCH := hid hch
    have HD := hid hD
    have HGQ := hid hgq
    have HBT := hid hbt
    have hmost := HRT.out.most
    have hroomT := HRT.out.room
    have HRI : Hid (Ri wr .u8 aa (cT - st) (T.drop st)) := by
      by_cases hlt : st < T.length
      · have h1 := HQ.out (by omega)
        have h2 : Ri wr .u8 aT cT T := HRT.out.blk (fun b' off' h0 e => by
          rw [HA3.out (by omega)] at e
          cases e
          have h3 := (hgq (by omega)).1
          exact ⟨h3.trans h1.2.2.1.symm, (Array.getElem?_eq_some_iff.1 h3).1⟩)
        have h4 := h2.dropR st gq 0 hlt (HA3.out (by omega))
        rw [Nat.zero_add] at h4
        rw [haa hlt]
        exact h4
      · rw [List.drop_eq_nil_of_le (by omega)]
        exact Ri.none _ _ _ (by omega)
    have hdl : (T.drop st).length = T.length - st := List.length_drop ..
    have HDL := hid hdl
    have hrbD : Rb wr.drew g l m b (.slice aa (T.length - st) (cT - st)) := hrb
    clear hrb haa hch hD hgq hbt
    go_wp2_with fail
    refine wp_region_held_drew (S := fun W => Rb W g l m b (.slice aa (T.length - st) (cT - st))) (by kernel_rfl) hrbD (fun hS => ?_)
    have hbD : Below wr.heap.size wr wr.drew := (Below.refl _ _).drew
    have HND := hid (next_ref l m b aa (cT - st) (T.drop st) wr.drew (HRI.out.later hbD) HC.out)
    rw [hdl] at HND
    have HBD := hid hbD
    clear hbD hrbD
    generalize wr.drew = wD at *
    refine Ord.take (i := 0) (d := 20) (v := ?vb0) rfl rfl (by as_aux_lemma => kernel_rfl) (by as_aux_lemma => kernel_rfl) (by as_aux_lemma => kernel_rfl) (fun _ _ _ h => h) (by rfl) ?hb0 (by assumption) ?_
    case hb0 => intro w hSw; go_simp; try with_reducible rfl
    simp only [List.setIfInBounds_toArray, List.set_cons_zero, List.set_cons_succ]
    refine Ord.take (i := 1) (d := 21) (v := ?vb1) rfl rfl (by as_aux_lemma => kernel_rfl) (by as_aux_lemma => kernel_rfl) (by as_aux_lemma => kernel_rfl) (fun _ _ _ h => h) (by rfl) ?hb1 (by assumption) ?_
    case hb1 => intro w hSw; go_simp; try with_reducible rfl
    simp only [List.setIfInBounds_toArray, List.set_cons_zero, List.set_cons_succ]
    refine Ord.take (i := 2) (d := 22) (v := ?vb2) rfl rfl (by as_aux_lemma => kernel_rfl) (by as_aux_lemma => kernel_rfl) (by as_aux_lemma => kernel_rfl) (fun _ _ _ h => h) (by rfl) ?hb2 (by assumption) ?_
    case hb2 => intro w hSw; go_simp; try with_reducible rfl
    simp only [List.setIfInBounds_toArray, List.set_cons_zero, List.set_cons_succ]
    refine Ord.take (i := 3) (d := 23) (v := .agg #[.int .i64 l, .int .i64 m, .int .i64 b]) rfl rfl (by as_aux_lemma => kernel_rfl) (by as_aux_lemma => kernel_rfl) (by as_aux_lemma => kernel_rfl) (fun _ _ _ h => h) (by rfl) ?hb3 (by assumption) ?_
    case hb3 => intro w hSw; obtain ⟨q0, q1, q2, q3⟩ := hSw.cells; go_simp; try with_reducible rfl
    simp only [List.setIfInBounds_toArray, List.set_cons_zero, List.set_cons_succ]
    refine Ord.take (i := 4) (d := 24) (v := ?vb4) rfl rfl (by as_aux_lemma => kernel_rfl) (by as_aux_lemma => kernel_rfl) (by as_aux_lemma => kernel_rfl) (fun _ _ _ h => h) (by rfl) ?hb4 (by assumption) ?_
    case hb4 => intro w hSw; go_simp; try with_reducible rfl
    simp only [List.setIfInBounds_toArray, List.set_cons_zero, List.set_cons_succ]
    refine Ord.take (i := 5) (d := 25) (v := ?vb5) rfl rfl (by as_aux_lemma => kernel_rfl) (by as_aux_lemma => kernel_rfl) (by as_aux_lemma => kernel_rfl) (fun _ _ _ h => h) (by rfl) ?hb5 (by assumption) ?_
    case hb5 => intro w hSw; go_simp; try with_reducible rfl
    simp only [List.setIfInBounds_toArray, List.set_cons_zero, List.set_cons_succ]
    refine Ord.take (i := 6) (d := 26) (v := ?vb6) rfl rfl (by as_aux_lemma => kernel_rfl) (by as_aux_lemma => kernel_rfl) (by as_aux_lemma => kernel_rfl) (fun _ _ _ h => h) (by rfl) ?hb6 (by assumption) ?_
    case hb6 => intro w hSw; go_simp; try with_reducible rfl
    simp only [List.setIfInBounds_toArray, List.set_cons_zero, List.set_cons_succ]
    refine Ord.take (i := 7) (d := 27) (v := .slice aa (T.length - st) (cT - st)) rfl rfl (by as_aux_lemma => kernel_rfl) (by as_aux_lemma => kernel_rfl) (by as_aux_lemma => kernel_rfl) (fun _ _ _ h => h) (by rfl) ?hb7 (by assumption) ?_
    case hb7 => intro w hSw; obtain ⟨q0, q1, q2, q3⟩ := hSw.cells; go_simp; try with_reducible rfl
    simp only [List.setIfInBounds_toArray, List.set_cons_zero, List.set_cons_succ]
    refine wpAnyH_ready (rs := [8]) (by as_aux_lemma => kernel_rfl) (by simp) (AllReadyH.cons rfl (fun K hK => ?_) AllReadyH.nil)
    rw [if_pos (by rfl)]
    go_simp
    refine HND.out.mono ?_
    rintro _ wA ⟨rfl, hbA⟩
    dsimp only
    have hSA : Rb wA g l m b (.slice aa (T.length - st) (cT - st)) := (hbA.block g hS.lt).trans hS
    have HBA := hid (Bn HBD.out hbA)
    clear hbA hS HND HBD
    refine hK.out _ _ hSA (fun _ => ?_)
    clear hK K
    try simp only [List.setIfInBounds_toArray, List.set_cons_zero, List.set_cons_succ]
    refine Ord.take (i := 9) (d := 19) (v := ?vc9) rfl rfl (by as_aux_lemma => kernel_rfl) (by as_aux_lemma => kernel_rfl) (by as_aux_lemma => kernel_rfl) (fun _ _ _ h => h) (by rfl) ?hc9 (by assumption) ?_
    case hc9 => intro w hSw; go_simp; try with_reducible rfl
    simp only [List.setIfInBounds_toArray, List.set_cons_zero, List.set_cons_succ]
    refine Ord.take (i := 10) (d := 29) (v := ?vc10) rfl rfl (by as_aux_lemma => kernel_rfl) (by as_aux_lemma => kernel_rfl) (by as_aux_lemma => kernel_rfl) (fun _ _ _ h => h) (by rfl) ?hc10 (by assumption) ?_
    case hc10 => intro w hSw; go_simp; try with_reducible rfl
    simp only [List.setIfInBounds_toArray, List.set_cons_zero, List.set_cons_succ]
    refine Ord.take (i := 11) (d := 30) (v := ?vc11) rfl rfl (by as_aux_lemma => kernel_rfl) (by as_aux_lemma => kernel_rfl) (by as_aux_lemma => kernel_rfl) (fun _ _ _ h => h) (by rfl) ?hc11 (by assumption) ?_
    case hc11 => intro w hSw; go_simp; try with_reducible rfl
    simp only [List.setIfInBounds_toArray, List.set_cons_zero, List.set_cons_succ]
    refine Ord.take (i := 12) (d := 6) (v := ?vc12) rfl rfl (by as_aux_lemma => kernel_rfl) (by as_aux_lemma => kernel_rfl) (by as_aux_lemma => kernel_rfl) (fun _ _ _ h => h) (by rfl) ?hc12 (by assumption) ?_
    case hc12 => intro w hSw; go_simp; try with_reducible rfl
    simp only [List.setIfInBounds_toArray, List.set_cons_zero, List.set_cons_succ]
    refine Ord.take (i := 13) (d := 7) (v := ?vc13) rfl rfl (by as_aux_lemma => kernel_rfl) (by as_aux_lemma => kernel_rfl) (by as_aux_lemma => kernel_rfl) (fun _ _ _ h => h) (by rfl) ?hc13 (by assumption) ?_
    case hc13 => intro w hSw; go_simp; try with_reducible rfl
    simp only [List.setIfInBounds_toArray, List.set_cons_zero, List.set_cons_succ]
    refine wpAnyH_done (by as_aux_lemma => kernel_rfl) ?_ _
    have HSA := hid hSA
    clear hSA
    obtain ⟨n, hn⟩ : ∃ n : Nat, (nextL l m b (T.drop st)).1 = (n : Int) := ⟨(nextL l m b (T.drop st)).1.toNat, by have := (with_cnt l m b (T.drop st) 0 0).1; show (withL l m b 0 0 (T.drop st)).1 = _; unfold nextL; omega⟩
    have HN := hid hn
    have hnc := with_cnt l m b (T.drop st) 0 0
    rw [show (withL l m b 0 0 (T.drop st)).1 = (n : Int) from hn, hdl] at hnc
    rw [hn]
    by_cases hok : (nextL l m b (T.drop st)).2 = true
    · have HOK := hid hok
      rw [hok]
      have hlt : st < T.length := by
        rcases Nat.lt_or_ge st T.length with h | h
        · exact h
        · rw [List.drop_eq_nil_of_le h, next_nil HC.out] at hok
          cases hok
      have hn1 : 1 ≤ n := by
        have h1 := hnc.2.2 (by intro e; rw [e] at hdl; simp at hdl; omega)
        omega
      have hn2 : n ≤ T.length - st := by have := hnc.2.1; omega
      obtain ⟨Z, hZ⟩ : ∃ Z, Z = (T.drop st).take n := ⟨_, rfl⟩
      have hZl : n = Z.length := by rw [hZ, List.length_take, hdl]; omega
      have HZ := hid hZ
      have hszA : w.heap.size ≤ wA.heap.size := Nat.le_trans HBT.out.bel.size HBA.out.size
      have hb0 := bel_alloc wA (.cells #[] 5)
      have hrZ : Ri (wA.alloc (.cells #[] 5)) .u8 aa (cT - st) Z := by rw [hZ]; exact (HRI.out.later (Bn HBA.out hb0)).take n
      clear hn hok hZ hnc
      subst hZl
      obtain rfl := HAA.out hlt
      have c3' := (hb0.cell (p := ⟨g, 3, none⟩) HSA.out.lt).trans HSA.out.cells.2.2.2
      have ho0 := new_own wA w.heap.size hszA
      have hbdZ : ([] : List Int).length + Z.length ≤ 10000000 := by have := HTL.out; simp; omega
      have hszB : w.heap.size ≤ (wA.alloc (.cells #[] 5)).heap.size := Nat.le_trans hszA hb0.size
      have hs1 : (Z.length : Int) ≤ ((T.length - st : Nat) : Int) := by omega
      have hs2 : (Z.length : Int) ≤ ((cT - st : Nat) : Int) := by omega
      have hs3 : (0 : Int) ≤ (Z.length : Int) := by omega
      have hs4 : Z.length ≤ cT - st := by omega
      have HB0 := hid hb0
      clear hb0 hdl
      go_wp2_with (at_builtin; refine app_any _ rfl _ _ rfl w.heap.size _ [] rfl ho0 (some ⟨gq, st, none⟩) (cT - st) Z rfl hrZ hbdZ hszB ?_)
      intro y wB hoB hgB
      have hbB : Below wA.heap.size wA wB := ((Below.refl wA.heap.size wA).alloc (Nat.le_refl _) (.cells #[] 5)).grown hgB (by simp) (fun j e => by simp [Value.ownBlock] at e; omega)
      obtain ⟨ay, ny, cy, rfl⟩ : ∃ ay ny cy, y = Value.slice ay ny cy := by
        rcases hoB.2 with ⟨rfl, _⟩ | ⟨gg, cp, cur9, rfl, _⟩
        · exact ⟨_, _, _, rfl⟩
        · exact ⟨_, _, _, rfl⟩
      have hWB := Bn HBA.out hbB
      obtain ⟨xs, hrow, hch⟩ : Chs wB w.heap.size u5 L := HCH.out.typ (fun i cs t _ hi => (hWB.block i (Array.getElem?_eq_some_iff.1 hi).1).trans hi)
      have hszB2 : w.heap.size ≤ wB.heap.size := Nat.le_trans hszA hbB.size
      obtain ⟨i0, hi, hz0, hz1, hz2⟩ := info_parts Try.info25c
      have hL1 : L.length + 1 ≤ maxLen := by have := HTL.out; unfold maxLen; omega
      have hL2 : (L.length + 1) * 24 ≤ 140737488355328 := by have := HTL.out; omega
      have hrbB : Rb wB g l m b (.slice (some ⟨gq, st, none⟩) (T.length - st) (cT - st)) := (hbB.block g HSA.out.lt).trans HSA.out
      have hqB : wB.heap[gq]? = some (.cells cur 5 (0, 0)) := (hWB.block gq (Array.getElem?_eq_some_iff.1 (HGQ.out (by omega)).1).1).trans (HGQ.out (by omega)).1
      have HQB := hid hqB
      have HRBB := hid hrbB
      have HWB := hid hWB
      clear hgB hbB hWB hrbB hqB c3' ho0 hbdZ hszB hrZ
      go_wp2_with (at_builtin; refine wpList_append_own _ rfl _ _ 39 rfl w.heap.size 25 i0 (.slice none 0 0) 1 24 Try.underlying39 hi hz0 hz1 hz2 rfl (by decide) u5 L.length xs rfl (hrow.alloc _) ⟨wB.heap.size, 0, none⟩ 1 1 [.slice ay ny cy] rfl rfl (cell_one_new _ _ _) (by simp [Value.oneCell']) hL1 hL2 (by simp; omega) ?_)
      intro v' wC hown' hgrow _
      obtain ⟨hchC, htC, hbC⟩ := Chs.push (z := Z) hszB2 hrow hch hoB hown' hgrow
      have hrbC : Rb wC g l m b (.slice (some ⟨gq, st, none⟩) (T.length - st) (cT - st)) := htC g _ 46 _ (by decide) HRBB.out
      have HQC := hid (htC gq _ 5 _ (by decide) HQB.out)
      have HCC := hid hchC
      have HRC := hid hrbC
      have hgn : g < wr.heap.size := HRB.out.lt
      have HTC : Hid (But1 g w wC) := ⟨HBT.out.bel.trans ((HWB.out.mono (Nat.zero_le _)).trans (hbC.mono (Nat.zero_le _))), fun i hi hne => (hbC.block i hi).trans ((HWB.out.block i (Nat.lt_of_lt_of_le hi HBT.out.bel.size)).trans (HBT.out.same i hi hne))⟩
      have c3C := hrbC.cells.2.2.2
      have f3C := hrbC.unfrozen 3
      clear hown' hgrow hchC htC hbC hrow hch hoB hrbC HRBB HQB HSA hi hz0 hz1 hz2
      go_wp2_with fail
      obtain ⟨f', rfl⟩ : ∃ f', f = f' + 1 := ⟨f - 1, by omega⟩
      have hgg : 0 < T.length → gq ≠ g := fun h => by have h1 := (HGQ.out h).2; have h2 := HK.out.lt; omega
      have hZt : (T.drop st).take Z.length = Z := HZ.out.symm
      refine ⟨⟨st + Z.length, f', _, L ++ [Z], by omega, by omega, by rw [← Nat.sub_sub, ← Nat.sub_sub]; exact HRC.out.put _, fun h => by rw [if_neg (by omega)], HCC.out.typ (fun i cs t e hi => (Below.heap_setCell wC ⟨g, 3, none⟩ _ i (by rintro rfl; have h1 := (show wC.heap[i]? = _ from HRC.out); rw [hi] at h1; cases h1; rcases e with h | h <;> cases h)).trans hi), by rw [List.length_append, List.length_singleton]; omega, ?doc, fun h => ⟨(Below.heap_setCell wC ⟨g, 3, none⟩ _ gq (hgg h)).trans HQC.out, (HGQ.out h).2⟩, HTC.out.set _⟩, ?meas⟩
      case doc =>
        rw [HD.out, docW, if_pos HOK.out, HN.out, Int.toNat_natCast, hZt, List.drop_drop, List.append_assoc, List.singleton_append]
      case meas =>
        rw [leftN_eq (HRC.out.put _), leftN_eq HRB.out]
        omega
    · have hok' : (nextL l m b (T.drop st)).2 = false := by simpa using hok
      have HOK := hid hok'
      rw [hok']
      clear hn hok hok'
      go_wp2_with fail
      go_ret
      have hD2 : docW l m b T.length T = (L, T.drop st) := by rw [HD.out, docW_no HOK.out, List.append_nil]
      rw [hD2]
      refine ⟨u5, aa, cT - st, rfl, HCH.out.typ (fun i cs t _ hi => (HBA.out.block i (Array.getElem?_eq_some_iff.1 hi).1).trans hi), by dsimp only; rw [HDL.out]; exact HSA.out, HRI.out.later HBA.out, fun b' off h0 e => ?_, HBT.out.trans (But1.of_below HBA.out)⟩
      dsimp only at h0
      rw [HDL.out] at h0
      rw [HAA.out (by omega)] at e
      cases e
      have h1 := HGQ.out (by omega)
      exact ⟨h1.2, cur, (HBA.out.block gq (Array.getElem?_eq_some_iff.1 h1.1).1).trans h1.1⟩
end Go.Proofs.Ytcapkkldjgmhfaa
/-
  However bytes are cut when they come: the document's Write of all of them; its chunks and the document's Split.
-/
namespace Go.Proofs.Ytcapkkldjgmhfaa
open Go.RowKit

theorem with_pre {l m b : Int} : ∀ (T U : List Int) (s h : Int), endB l m b s h = false → endB l m b (withL l m b s h T).1 (withL l m b s h T).2 = true → withL l m b s h (T ++ U) = withL l m b s h T
  | [], _, s, h, h0, h1 => by
    rw [withL] at h1
    rw [h0] at h1
    cases h1
  | x :: r, U, s, h, _, h1 => by
    rw [List.cons_append, withL, withL]
    rw [withL] at h1
    split
    · rfl
    · rename_i he
      rw [if_neg he] at h1
      exact with_pre r U _ _ (by simpa using he) h1
theorem next_pre {l m b : Int} (hc : chkC l m b = 0) {T : List Int} (U : List Int) (h : (nextL l m b T).2 = true) : nextL l m b (T ++ U) = nextL l m b T := by
  unfold nextL at h ⊢
  rw [with_pre T U 0 0 (end_zero hc 0) h]
theorem next_cnt {l m b : Int} (hc : chkC l m b = 0) {T : List Int} (h : (nextL l m b T).2 = true) : 1 ≤ (nextL l m b T).1.toNat ∧ (nextL l m b T).1.toNat ≤ T.length := by
  have h1 := with_cnt l m b T 0 0
  have hn : T ≠ [] := by
    rintro rfl
    rw [next_nil hc] at h
    cases h
  have h2 := h1.2.2 hn
  have e : (nextL l m b T).1 = (withL l m b 0 0 T).1 := rfl
  omega
/-- The document's Write of what comes, and then of more, is its Write of all. -/
theorem docW_app {l m b : Int} (hc : chkC l m b = 0) (U : List Int) : ∀ (f : Nat) (T : List Int) (f1 f2 : Nat), T.length ≤ f → (T ++ U).length ≤ f1 → (T ++ U).length ≤ f2 →
    docW l m b f1 (T ++ U) = ((docW l m b f T).1 ++ (docW l m b f2 ((docW l m b f T).2 ++ U)).1, (docW l m b f2 ((docW l m b f T).2 ++ U)).2)
  | 0, T, f1, f2, h, h1, h2 => by
    rw [docW]
    dsimp only
    rw [List.nil_append, docW_fuel hc f1 f2 (T ++ U) h1 h2]
  | f + 1, T, f1, f2, h, h1, h2 => by
    by_cases hk : (nextL l m b T).2 = true
    · obtain ⟨c1, c2⟩ := next_cnt hc hk
      have hp := next_pre hc U hk
      rw [List.length_append] at h1 h2
      obtain ⟨f1', rfl⟩ : ∃ k, f1 = k + 1 := ⟨f1 - 1, by omega⟩
      rw [docW, hp, if_pos hk, docW, if_pos hk]
      dsimp only
      have e1 : (T ++ U).take (nextL l m b T).1.toNat = T.take (nextL l m b T).1.toNat := List.take_append_of_le_length c2
      have e2 : (T ++ U).drop (nextL l m b T).1.toNat = T.drop (nextL l m b T).1.toNat ++ U := List.drop_append_of_le_length c2
      have ih := docW_app hc U f (T.drop (nextL l m b T).1.toNat) f1' f2 (by rw [List.length_drop]; omega) (by rw [List.length_append, List.length_drop]; omega) (by rw [List.length_append, List.length_drop]; omega)
      rw [e1, e2, ih]
      simp only [List.cons_append]
    · have hk' : (nextL l m b T).2 = false := by simpa using hk
      rw [docW_no hk']
      dsimp only
      rw [List.nil_append, docW_fuel hc f1 f2 (T ++ U) h1 h2]
/-- All chunks. -/
def splF (l m b : Int) : Nat → List Int → List (List Int)
  | 0, _ => []
  | f + 1, T => if T = [] then [] else T.take (nextL l m b T).1.toNat :: splF l m b f (T.drop (nextL l m b T).1.toNat)
theorem spl_doc {l m b : Int} (hc : chkC l m b = 0) : ∀ (f : Nat) (T : List Int), T.length ≤ f → splF l m b f T = (docW l m b f T).1 ++ (if (docW l m b f T).2 = [] then [] else [(docW l m b f T).2])
  | 0, T, h => by
    have : T = [] := List.length_eq_zero_iff.1 (by omega)
    subst this
    rfl
  | f + 1, T, h => by
    rw [splF]
    by_cases hT : T = []
    · subst hT
      rw [if_pos rfl, docW_no (next_nil hc)]
      rfl
    · rw [if_neg hT]
      by_cases hk : (nextL l m b T).2 = true
      · obtain ⟨c1, c2⟩ := next_cnt hc hk
        have ih := spl_doc hc f (T.drop (nextL l m b T).1.toNat) (by rw [List.length_drop]; omega)
        rw [docW, if_pos hk, ih]
        rfl
      · have hk' : (nextL l m b T).2 = false := by simpa using hk
        have h4 : ¬ (withL l m b 0 0 T).1 < 0 + (T.length : Int) := fun h => hk (with_end T 0 0 h)
        have e : (nextL l m b T).1 = (withL l m b 0 0 T).1 := rfl
        rw [docW_no hk', List.take_of_length_le (by omega), List.drop_eq_nil_of_le (by omega)]
        dsimp only
        rw [if_neg hT, List.nil_append]
        have e2 : splF l m b f [] = [] := by cases f <;> rfl
        rw [e2]
theorem spl_cuts {l m b : Int} : ∀ (f st : Nat) (T : List Int), (partsF l m b f st T).map (fun x => x.2.1) = (splF l m b f T).map List.length
  | 0, _, _ => rfl
  | f + 1, st, [] => rfl
  | f + 1, st, x :: r => by
    have h1 := with_cnt l m b (x :: r) 0 0
    have e : (nextL l m b (x :: r)).1 = (withL l m b 0 0 (x :: r)).1 := rfl
    have ih := spl_cuts (l := l) (m := m) (b := b) f (st + (withL l m b 0 0 (x :: r)).1.toNat) ((x :: r).drop (withL l m b 0 0 (x :: r)).1.toNat)
    rw [partsF, splF, if_neg (by simp), e, List.map_cons, List.map_cons, ih]
    dsimp only
    rw [List.length_take]
    congr 1
    omega
theorem rclose_ref (g : Nat) (l m b : Int) (v : Value) (w : World) (k : Rb w g l m b v) : Calls Try.prog 23 #[.pointer (some ⟨g, 0, none⟩)] w fun e w' => e = .returned v ∧ w' = w.setCell ⟨g, 3, none⟩ (.slice none 0 0) := by
  have c3 := k.cells.2.2.2
  have f3 := k.unfrozen 3
  clear k
  go_enter Try.func23, Try.ntmps23
  go_wp2_with fail
  go_ret
  exact ⟨rfl, rfl⟩
end Go.Proofs.Ytcapkkldjgmhfaa
/-
  The document's Split: all chunks of bytes.
-/
namespace Go.Proofs.Ytcapkkldjgmhfaa
open Go.RowKit

def SplI (l m b : Int) (a : Option Addr) (cap len : Nat) (bs : List Int) (X : List Int) (vX : Value) (w : World) (p v i : Value) (wr : World) : Prop :=
  ∃ (k st f : Nat) (aa : Option Addr) (L : List (List Int)), i = .int .i64 (k : Int) ∧ k ≤ X.length ∧ L.length = k ∧ st ≤ len ∧ len - st ≤ f ∧ p = .slice aa (len - st) (cap - st) ∧ (st < len → ∃ gb off, a = some ⟨gb, off, none⟩ ∧ aa = some ⟨gb, off + st, none⟩) ∧ Chs wr w.heap.size v L ∧
    splF l m b len bs = L ++ splF l m b f (bs.drop st) ∧ X.drop k = (splF l m b f (bs.drop st)).map (fun c => (c.length : Int)) ∧ wr.ownsRow w.heap.size 3 1 vX X.length (X.map (Value.int .i64)) ∧ Below w.heap.size w wr
def SplPost (l m b : Int) (bs : List Int) (w : World) (e : Ending) (w' : World) : Prop := ∃ v, e = .returned v ∧ Chs w' w.heap.size v (splF l m b bs.length bs) ∧ Below w.heap.size w w'
set_option maxHeartbeats 6400000 in
set_option maxRecDepth 100000 in
theorem split_ref (l m b : Int) (a : Option Addr) (cap : Nat) (bs : List Int) (w : World) (hr : Ri w .u8 a cap bs) (hc : chkC l m b = 0) (hl : bs.length ≤ 1048576) :
    Calls Try.prog 28 #[.agg #[.int .i64 l, .int .i64 m, .int .i64 b], .slice a bs.length cap] w (SplPost l m b bs w) := by
  unfold SplPost
  have hO : cutO l m b bs = (cutsL l m b bs, 0) := by unfold cutO; rw [if_neg (by simp [hc]), if_neg (by omega)]
  have hb0 := bel_alloc w (.cells #[.int .i64 l, .int .i64 m, .int .i64 b] 23)
  have e0 := heap_new w (.cells #[.int .i64 l, .int .i64 m, .int .i64 b] 23)
  have HCT := hid (cuts_ref l m b a cap bs _ (hr.later hb0))
  unfold CutPost at HCT
  have HFT := hid (cutO_fits l m b bs (by omega))
  rw [hO] at HCT HFT
  obtain ⟨X, hX⟩ : ∃ X, X = cutsL l m b bs := ⟨_, rfl⟩
  rw [← hX] at HCT HFT
  have HXE : Hid (X = (splF l m b bs.length bs).map (fun c => (c.length : Int))) := by
    show _ = _
    have h := congrArg (List.map (fun n : Nat => (n : Int))) (spl_cuts (l := l) (m := m) (b := b) bs.length 0 bs)
    rw [List.map_map, List.map_map] at h
    rw [hX, cutsL]
    exact h
  have HR := hid hr
  have HC := hid hc
  have HB0 := hid hb0
  have hroom := hr.room
  have hmost := hr.most
  unfold maxLen at hmost
  have cb0 := Joins.cell_of_block e0 0
  have cb1 := Joins.cell_of_block e0 1
  have cb2 := Joins.cell_of_block e0 2
  simp only [List.getElem?_toArray, List.getElem?_cons_zero, List.getElem?_cons_succ] at cb0 cb1 cb2
  obtain ⟨len, hln⟩ : ∃ n, n = bs.length := ⟨_, rfl⟩
  have HL := hid hln
  rw [← hln] at hroom hl HCT HXE ⊢
  clear hO hX hr hc hb0 e0 hln
  dsimp only at HCT HFT
  go_enter Try.func28, Try.ntmps28
  go_wp2_with fail
  refine HCT.out.mono ?_
  rintro _ w1 ⟨vX, rfl, hown, hb1⟩
  have HB1 := hid (Bn HB0.out hb1)
  have hown1 := own_mono hown HB0.out.size
  obtain ⟨aX, cX, rfl, _⟩ := Ri.own hown1 HFT.out
  have HO1 := hid hown1
  clear hown hown1 hb1 HCT HB0 cb0 cb1 cb2
  obtain ⟨nX, hnX⟩ : ∃ n, n = X.length := ⟨_, rfl⟩
  have HNX := hid hnX
  rw [← hnX]
  clear hnX
  go_wp2_with fail
  go_loopw [1, 5, 8] (fun p v i wr => SplI l m b a cap len bs X (.slice aX nX cX) w p v i wr) (fun _ _ i _ => nX - (intOf i).toNat)
  case atStart =>
    refine ⟨0, 0, len, a, [], rfl, Nat.zero_le _, rfl, Nat.zero_le _, Nat.sub_le _ _, rfl, fun h => ?_, ⟨[], nil_own _ _ _, fun i hi => absurd hi (Nat.not_lt_zero _)⟩, by rw [List.drop_zero, List.nil_append], by rw [List.drop_zero, List.drop_zero]; exact HXE.out, by rw [HNX.out]; exact HO1.out, HB1.out⟩
    obtain ⟨gb, off, e, _⟩ := HR.out.cells (by rw [← HL.out]; exact h)
    exact ⟨gb, off, e, e⟩
  case round =>
    clear HB1 HO1
    obtain ⟨k, st, f, aa, L, rfl, hk, hLk, hst, hf, rfl, haa, hch, hsp, hxd, hoX, hbel⟩ := hrel
    rw [← HNX.out] at hk
    have HLK := hid hLk
    clear hLk
    have HSP := hid hsp
    have HXD := hid hxd
    have HCH := hid hch
    have HOX := hid hoX
    have HBE := hid hbel
    have HAA := hid haa
    clear hsp hxd hch hoX hbel haa
    by_cases hlt : k < nX
    · have hltz : (k : Int) < (nX : Int) := by omega
      have hk0 : (0 : Int) ≤ (k : Int) := by omega
      have hst2 : st < len := by
        rcases Nat.lt_or_ge st len with h | h
        · exact h
        · have h1 := HXD.out
          have e2 : splF l m b f [] = [] := by cases f <;> rfl
          have hdn : bs.drop st = [] := List.drop_eq_nil_of_le (by rw [← HL.out]; exact h)
          rw [hdn, e2, List.map_nil] at h1
          have h2 := congrArg List.length h1
          rw [List.length_drop, ← HNX.out, List.length_nil] at h2
          omega
      obtain ⟨f', rfl⟩ : ∃ f', f = f' + 1 := ⟨f - 1, by omega⟩
      have hdl : (bs.drop st).length = len - st := by rw [List.length_drop, HL.out]
      have hTn : bs.drop st ≠ [] := by intro e; rw [e] at hdl; simp at hdl; omega
      obtain ⟨n, hn⟩ : ∃ n, n = (nextL l m b (bs.drop st)).1.toNat := ⟨_, rfl⟩
      have hnc := with_cnt l m b (bs.drop st) 0 0
      have hn1 : 1 ≤ n := by have h1 := hnc.2.2 hTn; have e : (nextL l m b (bs.drop st)).1 = (withL l m b 0 0 (bs.drop st)).1 := rfl; omega
      have hn2 : n ≤ len - st := by have h1 := hnc.2.1; rw [hdl] at h1; have e : (nextL l m b (bs.drop st)).1 = (withL l m b 0 0 (bs.drop st)).1 := rfl; omega
      have hsf : splF l m b (f' + 1) (bs.drop st) = (bs.drop st).take n :: splF l m b f' (bs.drop (st + n)) := by rw [splF, if_neg hTn, ← hn, List.drop_drop]
      obtain ⟨Z, hZ⟩ : ∃ Z, Z = (bs.drop st).take n := ⟨_, rfl⟩
      have hZl : n = Z.length := by rw [hZ, List.length_take, hdl]; omega
      rw [← hZ] at hsf
      have HSF := hid hsf
      have hxk : X.drop k = (Z.length : Int) :: (splF l m b f' (bs.drop (st + n))).map (fun c => (c.length : Int)) := by rw [HXD.out, hsf]; rfl
      have hXk : X.getD k 0 = (Z.length : Int) := by
        have h1 := drop_at X k (by rw [← HNX.out]; exact hlt)
        rw [hxk] at h1
        injection h1 with h1 _
        exact h1.symm
      obtain ⟨gb, off, ha, rfl⟩ := HAA.out hst2
      have hb0 := bel_alloc wr (.cells #[] 5)
      have hrZ : Ri (wr.alloc (.cells #[] 5)) .u8 (some ⟨gb, off + st, none⟩) (cap - st) Z := by rw [hZ]; exact (((HR.out.later HBE.out).dropR st gb off (by rw [← HL.out]; exact hst2) ha).take n).later hb0
      have HAE := hid ha
      clear ha
      have HZX := hid hxk
      have HXK := hid hXk
      clear hnc hn hZ hTn hdl hsf hxk hXk
      subst hZl
      obtain ⟨a9, c9, e9, rX⟩ := Ri.own HOX.out HFT.out
      have hox := HOX.out
      rw [← HNX.out] at e9
      obtain ⟨ra, rb⟩ : a9 = aX ∧ c9 = cX := by injection e9 with e1 e2 e3; exact ⟨e1.symm, e3.symm⟩
      subst ra rb
      obtain ⟨gX, oX, rfl, hgX, hcX⟩ := rX.cells (by rw [← HNX.out]; omega)
      have x1 := hcX k (by rw [← HNX.out]; exact hlt)
      rw [HXK.out] at x1
      have x2 := (hb0.cell (p := ⟨gX, oX + k, none⟩) hgX).trans x1
      have ho0 := new_own wr w.heap.size HBE.out.size
      have hbdZ : ([] : List Int).length + Z.length ≤ 10000000 := by simp; omega
      have hszB : w.heap.size ≤ (wr.alloc (.cells #[] 5)).heap.size := Nat.le_trans HBE.out.size hb0.size
      have hs1 : (Z.length : Int) ≤ ((len - st : Nat) : Int) := by omega
      have hs2 : (Z.length : Int) ≤ ((cap - st : Nat) : Int) := by omega
      have hs3 : (0 : Int) ≤ (Z.length : Int) := by omega
      have hs4 : Z.length ≤ cap - st := by omega
      have HB0 := hid hb0
      clear hb0 e9 hcX rX x1 hox
      go_wp2_with (at_builtin; refine app_any _ rfl _ _ rfl w.heap.size _ [] rfl ho0 (some ⟨gb, off + st, none⟩) (cap - st) Z rfl hrZ hbdZ hszB ?_)
      intro y wB hoB hgB
      have hbB : Below wr.heap.size wr wB := ((Below.refl wr.heap.size wr).alloc (Nat.le_refl _) (.cells #[] 5)).grown hgB (by simp) (fun j e => by simp [Value.ownBlock] at e; omega)
      obtain ⟨ay, ny, cy, rfl⟩ : ∃ ay ny cy, y = Value.slice ay ny cy := by
        rcases hoB.2 with ⟨rfl, _⟩ | ⟨gg, cp, cur9, rfl, _⟩
        · exact ⟨_, _, _, rfl⟩
        · exact ⟨_, _, _, rfl⟩
      obtain ⟨xs, hrow, hch⟩ : Chs wB w.heap.size u5 L := HCH.out.typ (fun i cs t _ hi => (hbB.block i (Array.getElem?_eq_some_iff.1 hi).1).trans hi)
      have hoXB := own_typ HOX.out (fun i cs hi => (hbB.block i (Array.getElem?_eq_some_iff.1 hi).1).trans hi)
      have hszB2 : w.heap.size ≤ wB.heap.size := Nat.le_trans HBE.out.size hbB.size
      obtain ⟨i0, hi, hz0, hz1, hz2⟩ := info_parts Try.info25c
      have hkl : L.length ≤ 1048576 := by
        have h1 := congrArg List.length HXE.out
        have h2 := parts_len l m b len 0 bs
        have h3 := congrArg List.length (spl_cuts (l := l) (m := m) (b := b) len 0 bs)
        rw [List.length_map] at h1
        rw [List.length_map, List.length_map] at h3
        rw [← HNX.out] at h1
        rw [← HL.out] at h2
        have h4 := HLK.out
        omega
      have hL1 : L.length + 1 ≤ maxLen := by unfold maxLen; omega
      have hL2 : (L.length + 1) * 24 ≤ 140737488355328 := by omega
      have HBB := hid (HBE.out.trans (hbB.mono HBE.out.size))
      clear hgB hbB x2 ho0 hbdZ hszB hrZ
      go_wp2_with (at_builtin; refine wpList_append_own _ rfl _ _ 39 rfl w.heap.size 25 i0 (.slice none 0 0) 1 24 Try.underlying39 hi hz0 hz1 hz2 rfl (by decide) u5 L.length xs rfl (hrow.alloc _) ⟨wB.heap.size, 0, none⟩ 1 1 [.slice ay ny cy] rfl rfl (cell_one_new _ _ _) (by simp [Value.oneCell']) hL1 hL2 (by simp; omega) ?_)
      intro v' wC hown' hgrow _
      obtain ⟨hchC, htC, hbC⟩ := Chs.push (z := Z) hszB2 hrow hch hoB hown' hgrow
      have HOC := hid (own_typ hoXB (fun i cs hi => htC i cs 3 (0, 0) (by decide) hi))
      have HCC := hid hchC
      have HBC := hid (HBB.out.trans hbC)
      obtain ⟨a9, c9, e9, rX⟩ := Ri.own HOC.out HFT.out
      have x3 : wC.cell? ⟨gX, oX + k, none⟩ = some (.int .i64 (Z.length : Int)) := by
        rw [← HNX.out] at e9
        injection e9 with e1 e2 e3
        subst e1
        obtain ⟨g8, o8, e8, _, hc8⟩ := rX.cells (by rw [← HNX.out]; omega)
        cases e8
        have h := hc8 k (by rw [← HNX.out]; exact hlt)
        rw [HXK.out] at h
        exact h
      have hkb : (k : Int) ≤ 1048576 := by have h4 := HLK.out; omega
      clear hown' hgrow hchC htC hbC hrow hch hoB hi hz0 hz1 hz2 e9 rX hoXB
      go_wp2_with fail
      refine ⟨⟨k + 1, st + Z.length, f', _, L ++ [Z], rfl, by rw [← HNX.out]; omega, by rw [List.length_append, List.length_singleton, HLK.out], by omega, by omega, by rw [Nat.sub_sub, Nat.sub_sub], fun h => ⟨gb, off, HAE.out, by rw [if_neg (by omega), Nat.add_assoc]⟩, HCC.out, by rw [HSP.out, HSF.out, List.append_assoc, List.singleton_append], ?_, HOC.out, HBC.out⟩, by simp only [intOf]; omega⟩
      have h1 := congrArg List.tail HZX.out
      rw [List.tail_drop] at h1
      exact h1
    · have hkl : k = nX := by omega
      have hz0 : ¬ (k : Int) < (nX : Int) := by omega
      have hnil : splF l m b f (bs.drop st) = [] := by
        have h1 := HXD.out
        rw [List.drop_eq_nil_of_le (by rw [← HNX.out]; omega)] at h1
        exact List.map_eq_nil_iff.1 h1.symm
      go_wp2_with fail
      go_ret
      exact ⟨u5, rfl, by rw [HSP.out, hnil, List.append_nil]; exact HCH.out, HBE.out⟩
end Go.Proofs.Ytcapkkldjgmhfaa
