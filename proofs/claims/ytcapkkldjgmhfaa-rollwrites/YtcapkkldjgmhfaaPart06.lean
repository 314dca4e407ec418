/-
  Write puts bytes behind what is left, and tells the chunks that end: its contract.
-/
import Derived.Test.YtcapkkldjgmhfaaPart05
import Derived.Test.YtcapkkldjgmhfaaPart00
namespace Go.Proofs.Ytcapkkldjgmhfaa
open Go.RowKit Go.Shelf
attribute [local go_sem] Oper.semAt_some

/-- Behind a Write. -/
def wrO (l m b s h : Int) (R bs : List Int) : Ws := (partsH l m b bs.length s h 0 bs).foldl (wrS l m b bs) (R, s, h, [])
def WriPost (g : Nat) (l m b s h : Int) (R bs : List Int) (w : World) (e : Ending) (w' : World) : Prop :=
  ∃ v, e = .returned (.tuple #[v, .int .i64 0]) ∧ Chs w' w.heap.size v (wrO l m b s h R bs).2.2.2 ∧ Cu w' g l m b (wrO l m b s h R bs).2.1 (wrO l m b s h R bs).2.2.1 (wrO l m b s h R bs).1 ∧ But1 g w w'
set_option maxHeartbeats 6400000 in
set_option maxRecDepth 100000 in
theorem write_ok (g : Nat) (l m b s0 h0 : Int) (R : List Int) (a : Option Addr) (cap : Nat) (bs : List Int) (w : World) (hc : chkC l m b = 0) (k : Cu w g l m b s0 h0 R) (hr : Ri w .u8 a cap bs) (hga : ∀ b' off, 0 < bs.length → a = some ⟨b', off, none⟩ → b' ≠ g)
    (hs0 : 0 ≤ s0) (hs1 : s0 < m) (hh0 : 0 ≤ h0) (hh1 : h0 < 18446744073709551616) (hbl : bs.length ≤ 1048576) :
    Calls Try.prog 25 #[.pointer (some ⟨g, 0, none⟩), .slice a bs.length cap] w (WriPost g l m b s0 h0 R bs w) := by
  unfold WriPost wrO
  have hb0 := bel_alloc w (.cells #[.pointer (some ⟨g, 0, none⟩)] 41)
  have e0 := heap_new w (.cells #[.pointer (some ⟨g, 0, none⟩)] 41)
  have hk0 := k.later (hb0.block g k.lt)
  have HM := hid (made_ok g l m b s0 h0 R _ hk0 hc)
  have HK := hid k
  have HB0 := hid hb0
  have HE0 := hid e0
  have HR := hid hr
  have HC := hid hc
  obtain ⟨gb, off, hgo⟩ : ∃ gb off, 0 < bs.length → a = some ⟨gb, off, none⟩ ∧ gb < w.heap.size ∧ gb ≠ g := by
    by_cases h0 : 0 < bs.length
    · obtain ⟨gb, off, e, hb, _⟩ := hr.cells h0
      exact ⟨gb, off, fun _ => ⟨e, hb, hga gb off h0 e⟩⟩
    · exact ⟨0, 0, fun h => absurd h h0⟩
  have HGO := hid hgo
  obtain ⟨xs, hxs⟩ : ∃ xs, xs = partsH l m b bs.length s0 h0 0 bs := ⟨_, rfl⟩
  have HXS := hid hxs
  have HOK := hid (okp_H hc bs s0 h0 hs0 hs1 hh0 hh1 bs.length R [])
  rw [← hxs] at HOK ⊢
  clear hc hgo hxs hr hb0 e0 hk0 k hga
  obtain ⟨len, hln⟩ : ∃ n, n = bs.length := ⟨_, rfl⟩
  have HL := hid hln
  rw [← hln]
  clear hln
  refine (callsIn_wide (n := 10)).1 ?_
  refine callsIn_of_wp_marks Try.func25 rfl trivial ?_ rfl
  simp only [Try.ntmps25, List.size_toArray, List.length_cons, List.length_nil, Nat.reduceAdd, Nat.reduceSub, Array.replicate_succ, Array.replicate_zero, List.push_toArray, List.append_toArray, List.nil_append, List.cons_append]
  gi_wp2_with fail
  refine ⟨trivial, ?_⟩
  refine (callsIn_wide.2 HM.out).mono ?_
  rintro _ w1 ⟨rfl, hb1⟩
  have HB1 := hid (Bn HB0.out hb1)
  have hE1 := (hb1.block w.heap.size (Array.getElem?_eq_some_iff.1 HE0.out).1).trans HE0.out
  have HBK := hid (heap_old w1 (.cells #[.slice none 0 0] 39) hE1)
  have HBL := hid (heap_new w1 (.cells #[.slice none 0 0] 39))
  have HB2 := hid (Bn HB1.out (bel_alloc w1 (.cells #[.slice none 0 0] 39)))
  have HN1 : Hid (w.heap.size ≤ w1.heap.size) := HB1.out.size
  clear HM HB0 HE0 hb1 hE1 HB1
  gi_wp2_with fail
  have HWI : Hid (Wi w g w.heap.size w1.heap.size l m b (w1.alloc (.cells #[.slice none 0 0] 39)) R s0 h0 []) :=
    ⟨HK.out.later (HB2.out.block g HK.out.lt), ⟨_, HBL.out, [], nil_own _ _ _, fun i hi => absurd hi (Nat.not_lt_zero _)⟩, HBK.out, fun i hi _ => HB2.out.block i hi, HB2.out.mono (Nat.zero_le _)⟩
  have HBD := hid (Bn HB2.out ((Below.refl _ _).drew))
  obtain ⟨Bl, hBl⟩ : ∃ B, B = w1.heap.size := ⟨_, rfl⟩
  obtain ⟨Bk, hBk⟩ : ∃ B, B = w.heap.size := ⟨_, rfl⟩
  have HLB : Hid (w.heap.size ≤ Bl) := by show _ ≤ _; rw [hBl]; exact HN1.out
  have HWD := hid (HWI.out.below ((Below.refl _ _).drew))
  rw [← hBl] at HWD ⊢
  rw [show Wi w g w.heap.size Bl = Wi w g Bk Bl from by rw [hBk]] at HWD
  rw [show Value.pointer (some ⟨w.heap.size, 0, none⟩) = Value.pointer (some ⟨Bk, 0, none⟩) from by rw [hBk]]
  clear HBK HBL HB2 HN1 HWI hBl hBk
  rename_i K1 hK1 K0 hK0
  refine Go.wpIn_mono (Q := Exit.then K0 (fun _ _ _ => False)) ?_ (fun e a' w' h => by cases e <;> first | exact h | exact h.elim)
  refine wpIn_wide.2 ?_
  refine wp_region_held_drew (S := fun W => Cu W g l m b s0 h0 R ∧ Boxed W Bk 41 (.pointer (some ⟨g, 0, none⟩))) (by kernel_rfl) ⟨HWD.out.cu, HWD.out.ptr⟩ (fun hS => ?_)
  generalize (w1.alloc (.cells #[.slice none 0 0] 39)).drew = wD at *
  refine Ord.take (i := 0) (d := 12) (v := .pointer (some ⟨g, 0, none⟩)) rfl rfl (by as_aux_lemma => kernel_rfl) (by as_aux_lemma => kernel_rfl) (by as_aux_lemma => kernel_rfl) (fun _ _ _ h => h) (by rfl) ?ha0 (by assumption) ?_
  case ha0 => intro w hSw; obtain ⟨⟨q0, q1, q2, q3, q4⟩, qb⟩ := And.intro hSw.1.cells hSw.2.cell; go_simp; try with_reducible rfl
  simp only [List.setIfInBounds_toArray, List.set_cons_zero, List.set_cons_succ]
  refine Ord.take (i := 1) (d := 13) (v := ?va1) rfl rfl (by as_aux_lemma => kernel_rfl) (by as_aux_lemma => kernel_rfl) (by as_aux_lemma => kernel_rfl) (fun _ _ _ h => h) (by rfl) ?ha1 (by assumption) ?_
  case ha1 => intro w hSw; go_simp; try with_reducible rfl
  simp only [List.setIfInBounds_toArray, List.set_cons_zero, List.set_cons_succ]
  refine Ord.take (i := 2) (d := 14) (v := ?va2) rfl rfl (by as_aux_lemma => kernel_rfl) (by as_aux_lemma => kernel_rfl) (by as_aux_lemma => kernel_rfl) (fun _ _ _ h => h) (by rfl) ?ha2 (by assumption) ?_
  case ha2 => intro w hSw; go_simp; try with_reducible rfl
  simp only [List.setIfInBounds_toArray, List.set_cons_zero, List.set_cons_succ]
  refine Ord.take (i := 3) (d := 15) (v := .agg #[.int .i64 l, .int .i64 m, .int .i64 b]) rfl rfl (by as_aux_lemma => kernel_rfl) (by as_aux_lemma => kernel_rfl) (by as_aux_lemma => kernel_rfl) (fun _ _ _ h => h) (by rfl) ?ha3 (by assumption) ?_
  case ha3 => intro w hSw; obtain ⟨⟨q0, q1, q2, q3, q4⟩, qb⟩ := And.intro hSw.1.cells hSw.2.cell; go_simp; try with_reducible rfl
  simp only [List.setIfInBounds_toArray, List.set_cons_zero, List.set_cons_succ]
  refine Ord.take (i := 4) (d := 16) (v := .pointer (some ⟨g, 0, none⟩)) rfl rfl (by as_aux_lemma => kernel_rfl) (by as_aux_lemma => kernel_rfl) (by as_aux_lemma => kernel_rfl) (fun _ _ _ h => h) (by rfl) ?ha4 (by assumption) ?_
  case ha4 => intro w hSw; obtain ⟨⟨q0, q1, q2, q3, q4⟩, qb⟩ := And.intro hSw.1.cells hSw.2.cell; go_simp; try with_reducible rfl
  simp only [List.setIfInBounds_toArray, List.set_cons_zero, List.set_cons_succ]
  refine Ord.take (i := 5) (d := 17) (v := ?va5) rfl rfl (by as_aux_lemma => kernel_rfl) (by as_aux_lemma => kernel_rfl) (by as_aux_lemma => kernel_rfl) (fun _ _ _ h => h) (by rfl) ?ha5 (by assumption) ?_
  case ha5 => intro w hSw; go_simp; try with_reducible rfl
  simp only [List.setIfInBounds_toArray, List.set_cons_zero, List.set_cons_succ]
  refine Ord.take (i := 6) (d := 18) (v := ?va6) rfl rfl (by as_aux_lemma => kernel_rfl) (by as_aux_lemma => kernel_rfl) (by as_aux_lemma => kernel_rfl) (fun _ _ _ h => h) (by rfl) ?ha6 (by assumption) ?_
  case ha6 => intro w hSw; go_simp; try with_reducible rfl
  simp only [List.setIfInBounds_toArray, List.set_cons_zero, List.set_cons_succ]
  refine Ord.take (i := 7) (d := 19) (v := .agg #[.int .i64 s0, .int .u64 h0]) rfl rfl (by as_aux_lemma => kernel_rfl) (by as_aux_lemma => kernel_rfl) (by as_aux_lemma => kernel_rfl) (fun _ _ _ h => h) (by rfl) ?ha7 (by assumption) ?_
  case ha7 => intro w hSw; obtain ⟨⟨q0, q1, q2, q3, q4⟩, qb⟩ := And.intro hSw.1.cells hSw.2.cell; go_simp; try with_reducible rfl
  simp only [List.setIfInBounds_toArray, List.set_cons_zero, List.set_cons_succ]
  refine Ord.take (i := 8) (d := 20) (v := ?va8) rfl rfl (by as_aux_lemma => kernel_rfl) (by as_aux_lemma => kernel_rfl) (by as_aux_lemma => kernel_rfl) (fun _ _ _ h => h) (by rfl) ?ha8 (by assumption) ?_
  case ha8 => intro w hSw; go_simp; try with_reducible rfl
  simp only [List.setIfInBounds_toArray, List.set_cons_zero, List.set_cons_succ]
  refine wpAnyH_ready (rs := [9]) (by as_aux_lemma => kernel_rfl) (by simp) (AllReadyH.cons rfl (fun K hK => ?_) AllReadyH.nil)
  rw [if_pos (by rfl)]
  go_simp
  refine (parts_word l m b s0 h0 a len cap wD).mono ?_
  rintro _ w4 ⟨rfl, hw4⟩
  dsimp only
  have hb4 : Below wD.heap.size wD w4 := by rw [hw4]; exact Bn (Bn (bel_alloc wD (.cells #[.int .i64 l, .int .i64 m, .int .i64 b] 23)) (bel_alloc _ (.cells #[.int .i64 s0, .int .u64 h0] 61))) (bel_alloc _ (.cells #[.slice a len cap] 25))
  have HP1 : Hid (w4.heap[wD.heap.size]? = some (.cells #[.int .i64 l, .int .i64 m, .int .i64 b] 23 (0, 0))) := by
    show _ = _
    rw [hw4]
    exact heap_old _ _ (heap_old _ _ (heap_new wD _))
  have HP2 : Hid (w4.heap[wD.heap.size + 1]? = some (.cells #[.int .i64 s0, .int .u64 h0] 61 (0, 0))) := by
    have e := heap_old _ (.cells #[.slice a len cap] 25) (heap_new (wD.alloc (.cells #[.int .i64 l, .int .i64 m, .int .i64 b] 23)) (.cells #[.int .i64 s0, .int .u64 h0] 61))
    simp only [World.size_alloc] at e
    show _ = _
    rw [hw4]
    exact e
  have HP3 : Hid (w4.heap[wD.heap.size + 1 + 1]? = some (.cells #[.slice a len cap] 25 (0, 0))) := by
    have e := heap_new ((wD.alloc (.cells #[.int .i64 l, .int .i64 m, .int .i64 b] 23)).alloc (.cells #[.int .i64 s0, .int .u64 h0] 61)) (.cells #[.slice a len cap] 25)
    simp only [World.size_alloc] at e
    show _ = _
    rw [hw4]
    exact e
  have HW4 := hid (HWD.out.below hb4)
  clear hw4 hb4 HWD HBD
  refine hK.out _ _ ⟨HW4.out.cu, HW4.out.ptr⟩ (fun _ => ?_)
  clear hK K hS
  obtain ⟨D, hD⟩ : ∃ D, D = wD.heap.size := ⟨_, rfl⟩
  rw [← hD] at HP1 HP2 HP3 ⊢
  clear hD
  refine wpAnyH_done (by as_aux_lemma => kernel_rfl) ?_ _
  refine hK0 _ _ ?_
  clear hK0 K0
  have hri4 : Ri w4 .u8 a cap bs := HR.out.same HW4.out.bel.size (fun b' off' h0 e => by
    have h1 := HGO.out h0
    rw [h1.1] at e
    cases e
    exact HW4.out.old _ h1.2.1 h1.2.2)
  have hSQ := parts_tells l m b s0 h0 a cap bs w.heap.size (D + 1) (D + 1 + 1) D gb off w4 HC.out hri4 HW4.out.bel.size (fun h => ⟨(HGO.out h).1, (HGO.out h).2.1⟩) hs0 hs1 hh0 hh1 HP2.out (by rw [← HL.out]; exact HP3.out) HP1.out
  rw [← HXS.out] at hSQ
  have HSQ := hid hSQ
  have HZ4 : Hid (w.heap.size ≤ w4.heap.size) := HW4.out.bel.size
  clear hSQ hri4 HP1 HP2 HP3
  gi_wp2_with fail
  refine range_whole (gf := 36) (lb := #[.pointer (some ⟨D + 1, 0, none⟩), .pointer (some ⟨D + 1 + 1, 0, none⟩), .pointer (some ⟨D, 0, none⟩)]) rfl (enters_of Try.func36 (by kernel_rfl) rfl) HSQ.out (fun _ => rfl) (fun b' A B i ht hi hlt => ht.same i hlt (.inl hi)) (fun h k => h.trans k)
    (fun A r r' h => Kw.put A _ r r' h (fun h0 => by have h1 := (HGO.out h0).2.1; have h2 := HZ4.out; omega))
    (fun pre W => Wi w g Bk Bl l m b W (pre.foldl (wrS l m b bs) (R, s0, h0, [])).1 (pre.foldl (wrS l m b bs) (R, s0, h0, [])).2.1 (pre.foldl (wrS l m b bs) (R, s0, h0, [])).2.2.1 (pre.foldl (wrS l m b bs) (R, s0, h0, [])).2.2.2)
    (fun b' s A B hb' ht h => h.tq (by have h2 := HZ4.out; omega) ht) (fun s A o h => h.below (bel_alloc A o)) (fun s A r r' h k => k.put h rfl (by have h2 := HZ4.out; omega)) HW4.out ?round ?done
  case done =>
    intro W hW hD
    obtain ⟨v, hv, hch⟩ := hW.var
    have hcv := hv.cell
    have hp := fun o' => hW.put (o' := o') hD rfl HZ4.out
    gi_wp2_with fail
    refine ⟨by simp, .inl ⟨_, _, rfl, run_takeDeferred hD, ?_⟩⟩
    refine ⟨_, results_tmp2 rfl _ _ _, v, rfl, hch.typ (fun i cs t _ hi => (World.putObj_heap_other (by rintro rfl; rw [hi] at hD; cases hD)).trans hi), (hp _).cu, ⟨(hp _).bel, fun i hi hn => (hp _).old i hi hn⟩⟩
  case round =>
    rintro pre ⟨st, n, r1, r2⟩ A r hx hA hl hd
    obtain ⟨suf, hsuf⟩ := hx
    have hok0 := HOK.out
    rw [← hsuf, List.append_assoc] at hok0
    have hok := (Okp.app pre _ _ hok0).1
    have hll := fold_len l m b bs pre (R, s0, h0, [])
    have hpl := partsH_len l m b bs.length s0 h0 0 bs
    rw [← HXS.out, ← hsuf] at hpl
    simp only [List.length_append, List.length_cons, List.length_nil] at hpl hll
    replace hpl : pre.length ≤ bs.length := by omega
    clear hok0 hsuf suf HSQ HOK HXS HW4
    obtain ⟨S, hSe⟩ : ∃ S, S = pre.foldl (wrS l m b bs) (R, s0, h0, []) := ⟨_, rfl⟩
    rw [← hSe] at hok hA hll
    have HSE := hid hSe
    clear hSe
    obtain ⟨R1, s1, h1, L1⟩ := S
    dsimp only at hok hA hll
    have HLN : Hid (L1.length ≤ 1048576) := by show _ ≤ _; omega
    clear hll hpl
    obtain ⟨q1, q2, q3, q4, q5, q6, q7⟩ := hok
    have HA := hid hA
    have HLP := hid hl
    have HDF := hid hd
    have HB1 := hid (bel_alloc A (.cells #[.int .i64 r1, .int .u64 r2] 61))
    have HX1 : Hid (Bg (A.alloc (.cells #[.int .i64 r1, .int .u64 r2] 61)) A.heap.size r1 r2) := heap_new A _
    unfold encP
    clear hA hl hd
    gi_wp2_with fail
    have hl1 := heap_old A (.cells #[.int .i64 r1, .int .u64 r2] 61) HLP.out
    have hd1 := heap_old A (.cells #[.int .i64 r1, .int .u64 r2] 61) HDF.out
    have hA1 := HA.out.below HB1.out
    refine ⟨hl1, fun r' => ?_⟩
    have HWA := hid (hA1.put (o' := .loop r') hl1 rfl (by have h2 := HZ4.out; omega))
    have HL2 : Hid (((A.alloc (.cells #[.int .i64 r1, .int .u64 r2] 61)).putObj (w4.heap.size + 1) (.loop r')).heap[w4.heap.size + 1]? = some (.loop r')) := World.putObj_heap_same (Array.getElem?_eq_some_iff.1 hl1).1
    have HD2 : Hid (((A.alloc (.cells #[.int .i64 r1, .int .u64 r2] 61)).putObj (w4.heap.size + 1) (.loop r')).heap[w4.heap.size]? = some (.deferred (some []))) := (World.putObj_heap_other (by omega)).trans hd1
    have HX2 : Hid (Bg ((A.alloc (.cells #[.int .i64 r1, .int .u64 r2] 61)).putObj (w4.heap.size + 1) (.loop r')) A.heap.size r1 r2) := (World.putObj_heap_other (by rintro e; have h1 := (show _ = _ from HX1.out); rw [e, hl1] at h1; cases h1)).trans HX1.out
    have hz4A : w4.heap.size < A.heap.size := (Array.getElem?_eq_some_iff.1 HDF.out).1
    have HKW : Hid (Kw bs.length gb A ((A.alloc (.cells #[.int .i64 r1, .int .u64 r2] 61)).putObj (w4.heap.size + 1) (.loop r'))) := Kw.trans ((Kr.below (n₀ := w.heap.size) (g := g) HA.out.bel.size HB1.out).kw (fun h0 => (HGO.out h0).2)) (Kw.put _ _ r r' hl1 (fun h0 => by have h1 := (HGO.out h0).2.1; have h2 := HZ4.out; omega))
    obtain ⟨X, hX⟩ : ∃ X, X = A.heap.size := ⟨_, rfl⟩
    rw [← hX] at HX2 ⊢
    have HZX : Hid (w.heap.size ≤ X) := by show _ ≤ _; rw [hX]; exact HA.out.bel.size
    clear hX HB1 HX1 hl1 hd1 hA1 HLP HDF hz4A HA
    generalize (A.alloc (.cells #[.int .i64 r1, .int .u64 r2] 61)).putObj (w4.heap.size + 1) (.loop r') = A2 at *
    gi_wp2_with fail
    rename_i K0 hK0
    refine Go.wpIn_mono (Q := Exit.then K0 (fun _ _ _ => False)) ?_ (fun e a' w' h => by cases e <;> first | exact h | exact h.elim)
    have hDW : Below A2.heap.size A2 A2.drew := (Below.refl _ _).drew
    have HWD := hid (HWA.out.below hDW)
    have HXD : Hid (Bg A2.drew X r1 r2) := HX2.out
    have HLD : Hid (A2.drew.heap[w4.heap.size + 1]? = some (.loop r')) := HL2.out
    have HDD : Hid (A2.drew.heap[w4.heap.size]? = some (.deferred (some []))) := HD2.out
    have HKD : Hid (Kw bs.length gb A A2.drew) := HKW.out.trans ((Kr.below (n₀ := w.heap.size) (g := g) HWA.out.bel.size hDW).kw (fun h0 => (HGO.out h0).2))
    obtain ⟨sn, rfl⟩ : ∃ sn : Nat, s1 = (sn : Int) := ⟨s1.toNat, by omega⟩
    obtain ⟨k1, k2, k3, k4, k5⟩ := chkC_ok HC.out
    have hsn : sn + n ≤ 4096 := by omega
    have hsl : sn < 4096 := by omega
    have hsz : (sn : Int) ≤ 4096 := by omega
    have hsz0 : (0 : Int) ≤ (sn : Int) := by omega
    clear HWA HX2 HL2 HD2 HKW hDW k1 k2 k3 k4 k5
    refine round_held (S := fun W => (∃ R', Cu W g l m b (sn : Int) h1 R') ∧ Boxed W Bk 41 (.pointer (some ⟨g, 0, none⟩))) (by kernel_rfl) (by kernel_rfl) (fun _ _ h => h) ⟨⟨_, HWD.out.cu⟩, HWD.out.ptr⟩ (fun hS => ?_)
    generalize A2.drew = wD at *
    refine Ord.take (i := 0) (d := 24) (v := .pointer (some ⟨g, 0, none⟩)) rfl rfl (by as_aux_lemma => kernel_rfl) (by as_aux_lemma => kernel_rfl) (by as_aux_lemma => kernel_rfl) (fun _ _ _ h => h) (by rfl) ?hb0 (by assumption) ?_
    case hb0 => intro w hSw; obtain ⟨⟨Rz, hcu⟩, hpt⟩ := hSw; obtain ⟨q0, q1, q2, q3, q4⟩ := hcu.cells; have qb := hpt.cell; go_simp; try with_reducible rfl
    simp only [List.setIfInBounds_toArray, List.set_cons_zero, List.set_cons_succ]
    refine Ord.take (i := 1) (d := 25) (v := ?vb1) rfl rfl (by as_aux_lemma => kernel_rfl) (by as_aux_lemma => kernel_rfl) (by as_aux_lemma => kernel_rfl) (fun _ _ _ h => h) (by rfl) ?hb1 (by assumption) ?_
    case hb1 => intro w hSw; go_simp; try with_reducible rfl
    simp only [List.setIfInBounds_toArray, List.set_cons_zero, List.set_cons_succ]
    refine Ord.take (i := 2) (d := 26) (v := ?vb2) rfl rfl (by as_aux_lemma => kernel_rfl) (by as_aux_lemma => kernel_rfl) (by as_aux_lemma => kernel_rfl) (fun _ _ _ h => h) (by rfl) ?hb2 (by assumption) ?_
    case hb2 => intro w hSw; go_simp; try with_reducible rfl
    simp only [List.setIfInBounds_toArray, List.set_cons_zero, List.set_cons_succ]
    refine Ord.take (i := 3) (d := 27) (v := .pointer (some ⟨g, 0, none⟩)) rfl rfl (by as_aux_lemma => kernel_rfl) (by as_aux_lemma => kernel_rfl) (by as_aux_lemma => kernel_rfl) (fun _ _ _ h => h) (by rfl) ?hb3 (by assumption) ?_
    case hb3 => intro w hSw; obtain ⟨⟨Rz, hcu⟩, hpt⟩ := hSw; obtain ⟨q0, q1, q2, q3, q4⟩ := hcu.cells; have qb := hpt.cell; go_simp; try with_reducible rfl
    simp only [List.setIfInBounds_toArray, List.set_cons_zero, List.set_cons_succ]
    refine Ord.take (i := 4) (d := 28) (v := ?vb4) rfl rfl (by as_aux_lemma => kernel_rfl) (by as_aux_lemma => kernel_rfl) (by as_aux_lemma => kernel_rfl) (fun _ _ _ h => h) (by rfl) ?hb4 (by assumption) ?_
    case hb4 => intro w hSw; go_simp; try with_reducible rfl
    simp only [List.setIfInBounds_toArray, List.set_cons_zero, List.set_cons_succ]
    refine Ord.take (i := 5) (d := 29) (v := ?vb5) rfl rfl (by as_aux_lemma => kernel_rfl) (by as_aux_lemma => kernel_rfl) (by as_aux_lemma => kernel_rfl) (fun _ _ _ h => h) (by rfl) ?hb5 (by assumption) ?_
    case hb5 => intro w hSw; go_simp; try with_reducible rfl
    simp only [List.setIfInBounds_toArray, List.set_cons_zero, List.set_cons_succ]
    refine Ord.take (i := 6) (d := 30) (v := ?vb6) rfl rfl (by as_aux_lemma => kernel_rfl) (by as_aux_lemma => kernel_rfl) (by as_aux_lemma => kernel_rfl) (fun _ _ _ h => h) (by rfl) ?hb6 (by assumption) ?_
    case hb6 => intro w hSw; go_simp; try with_reducible rfl
    simp only [List.setIfInBounds_toArray, List.set_cons_zero, List.set_cons_succ]
    refine Ord.take (i := 7) (d := 31) (v := .int .i64 (sn : Int)) rfl rfl (by as_aux_lemma => kernel_rfl) (by as_aux_lemma => kernel_rfl) (by as_aux_lemma => kernel_rfl) (fun _ _ _ h => h) (by rfl) ?hb7 (by assumption) ?_
    case hb7 => intro w hSw; obtain ⟨⟨Rz, hcu⟩, hpt⟩ := hSw; obtain ⟨q0, q1, q2, q3, q4⟩ := hcu.cells; have qb := hpt.cell; go_simp; try with_reducible rfl
    simp only [List.setIfInBounds_toArray, List.set_cons_zero, List.set_cons_succ]
    refine Ord.take (i := 8) (d := 32) (v := .slice (some ⟨g, 5 + sn, none⟩) (4096 - sn) (4096 - sn)) rfl rfl (by as_aux_lemma => kernel_rfl) (by as_aux_lemma => kernel_rfl) (by as_aux_lemma => kernel_rfl) (fun _ _ _ h => h) (by rfl) ?hb8 (by assumption) ?_
    case hb8 => intro w hSw; go_simp; omega; try with_reducible rfl
    simp only [List.setIfInBounds_toArray, List.set_cons_zero, List.set_cons_succ]
    refine Ord.take (i := 9) (d := 33) (v := ?vb9) rfl rfl (by as_aux_lemma => kernel_rfl) (by as_aux_lemma => kernel_rfl) (by as_aux_lemma => kernel_rfl) (fun _ _ _ h => h) (by rfl) ?hb9 (by assumption) ?_
    case hb9 => intro w hSw; go_simp; try with_reducible rfl
    simp only [List.setIfInBounds_toArray, List.set_cons_zero, List.set_cons_succ]
    refine wpAnyH_ready (rs := [10]) (by as_aux_lemma => kernel_rfl) (by simp) (AllReadyH.cons rfl (fun K hK => ?_) AllReadyH.nil)
    rw [if_pos (by rfl)]
    have hyl : ((bs.drop st).take n).length = n := by rw [List.length_take, List.length_drop]; omega
    have hlen0 : 0 < bs.length := by omega
    have hri : Ri wD .u8 a cap bs := HR.out.same HWD.out.bel.size (fun b' off' h0 e => by
      have h1 := HGO.out h0
      rw [h1.1] at e
      cases e
      exact HWD.out.old _ h1.2.1 h1.2.2)
    obtain ⟨wc, hcp, hcu, hbt⟩ := copy_cu HWD.out.cu sn gb (off + st) n _ (hri.part gb off st n (HGO.out hlen0).1 q3 q7) (by omega) (by omega)
    rw [hyl] at hcp
    have HWC := hid (HWD.out.but hbt hcu)
    have hkr : Kr w.heap.size g wD wc := Kr.but HWD.out.bel.size HWD.out.cu hbt
    have HXC : Hid (Bg wc X r1 r2) := hkr.typ X _ 61 _ (.inl rfl) HXD.out
    have HLC := hid (hkr.oth _ _ HLD.out rfl)
    have HDC := hid (hkr.oth _ _ HDD.out rfl)
    have HKC := hid (HKD.out.trans (hkr.kw (fun h0 => (HGO.out h0).2)))
    clear hri hcu hbt hkr HXD HLD HDD HKD HWD hyl hS
    go_simp
    refine hK.out _ _ ⟨⟨_, HWC.out.cu⟩, HWC.out.ptr⟩ (fun _ => ?_)
    clear hK K hcp
    try simp only [List.setIfInBounds_toArray, List.set_cons_zero, List.set_cons_succ]
    refine wpAnyH_done (by as_aux_lemma => kernel_rfl) ?_ _
    refine hK0 _ _ ?_
    clear hK0 K0
    obtain ⟨R2, hR2⟩ : ∃ R2, R2 = putL R1 sn ((bs.drop st).take n) := ⟨_, rfl⟩
    rw [← hR2] at HWC
    have HR2 := hid hR2
    clear hR2
    have qb := HWC.out.ptr.cell
    have ct0 := Joins.cell_of_block HXC.out 0
    have ct1 := Joins.cell_of_block HXC.out 1
    simp only [List.getElem?_toArray, List.getElem?_cons_zero, List.getElem?_cons_succ] at ct0 ct1
    obtain ⟨_, _, _, d3, d4⟩ := HWC.out.cu.cells
    have f3 := HWC.out.cu.unfrozen 3
    have f4 := HWC.out.cu.unfrozen 4
    have hbt := ((But1.of_below (g := g) (Below.refl wc.heap.size wc)).set (i := 3) (.int .i64 r1)).set (i := 4) (.int .u64 r2)
    have HWP := hid (HWC.out.but hbt (HWC.out.cu.put r1 r2))
    have hkr : Kr w.heap.size g wc ((wc.setCell ⟨g, 3, none⟩ (.int .i64 r1)).setCell ⟨g, 4, none⟩ (.int .u64 r2)) := Kr.but HWC.out.bel.size HWC.out.cu hbt
    have HXP : Hid (Bg ((wc.setCell ⟨g, 3, none⟩ (.int .i64 r1)).setCell ⟨g, 4, none⟩ (.int .u64 r2)) X r1 r2) := hkr.typ X _ 61 _ (.inl rfl) HXC.out
    have HLP := hid (hkr.oth _ _ HLC.out rfl)
    have HDP := hid (hkr.oth _ _ HDC.out rfl)
    have HKP := hid (HKC.out.trans (hkr.kw (fun h0 => (HGO.out h0).2)))
    clear hbt hkr HXC HLC HDC HKC HWC
    gi_wp2_with fail
    clear qb ct0 ct1 d3 d4 f3 f4
    generalize (wc.setCell ⟨g, 3, none⟩ (.int .i64 r1)).setCell ⟨g, 4, none⟩ (.int .u64 r2) = wp at *
    rename_i K0 hK0
    refine Go.wpIn_mono (Q := Exit.then K0 (fun _ _ _ => False)) ?_ (fun e a' w' h => by cases e <;> first | exact h | exact h.elim)
    have hDW : Below wp.heap.size wp wp.drew := (Below.refl _ _).drew
    have HWD := hid (HWP.out.below hDW)
    have HXD : Hid (Bg wp.drew X r1 r2) := HXP.out
    have HLD : Hid (wp.drew.heap[w4.heap.size + 1]? = some (.loop r')) := HLP.out
    have HDD : Hid (wp.drew.heap[w4.heap.size]? = some (.deferred (some []))) := HDP.out
    have HKD : Hid (Kw bs.length gb A wp.drew) := HKP.out.trans ((Kr.below (n₀ := w.heap.size) (g := g) HWP.out.bel.size hDW).kw (fun h0 => (HGO.out h0).2))
    clear HWP HXP HLP HDP HKP hDW
    refine round_held (S := fun W => Cu W g l m b r1 r2 R2 ∧ Boxed W Bk 41 (.pointer (some ⟨g, 0, none⟩)) ∧ Bg W X r1 r2) (by kernel_rfl) (by kernel_rfl) (fun _ _ h => h) ⟨HWD.out.cu, HWD.out.ptr, HXD.out⟩ (fun hS => ?_)
    generalize wp.drew = wE at *
    refine Ord.take (i := 0) (d := 39) (v := .agg #[.int .i64 r1, .int .u64 r2]) rfl rfl (by as_aux_lemma => kernel_rfl) (by as_aux_lemma => kernel_rfl) (by as_aux_lemma => kernel_rfl) (fun _ _ _ h => h) (by rfl) ?hc0 (by assumption) ?_
    case hc0 => intro w hSw; obtain ⟨hcu, hpt, hbg⟩ := hSw; obtain ⟨q0, q1, q2, q3, q4⟩ := hcu.cells; have qb := hpt.cell; have ct0 := Joins.cell_of_block hbg 0; have ct1 := Joins.cell_of_block hbg 1; simp only [List.getElem?_toArray, List.getElem?_cons_zero, List.getElem?_cons_succ] at ct0 ct1; go_simp; try with_reducible rfl
    simp only [List.setIfInBounds_toArray, List.set_cons_zero, List.set_cons_succ]
    refine Ord.take (i := 1) (d := 40) (v := .pointer (some ⟨g, 0, none⟩)) rfl rfl (by as_aux_lemma => kernel_rfl) (by as_aux_lemma => kernel_rfl) (by as_aux_lemma => kernel_rfl) (fun _ _ _ h => h) (by rfl) ?hc1 (by assumption) ?_
    case hc1 => intro w hSw; obtain ⟨hcu, hpt, hbg⟩ := hSw; obtain ⟨q0, q1, q2, q3, q4⟩ := hcu.cells; have qb := hpt.cell; have ct0 := Joins.cell_of_block hbg 0; have ct1 := Joins.cell_of_block hbg 1; simp only [List.getElem?_toArray, List.getElem?_cons_zero, List.getElem?_cons_succ] at ct0 ct1; go_simp; try with_reducible rfl
    simp only [List.setIfInBounds_toArray, List.set_cons_zero, List.set_cons_succ]
    refine Ord.take (i := 2) (d := 41) (v := ?vc2) rfl rfl (by as_aux_lemma => kernel_rfl) (by as_aux_lemma => kernel_rfl) (by as_aux_lemma => kernel_rfl) (fun _ _ _ h => h) (by rfl) ?hc2 (by assumption) ?_
    case hc2 => intro w hSw; go_simp; try with_reducible rfl
    simp only [List.setIfInBounds_toArray, List.set_cons_zero, List.set_cons_succ]
    refine Ord.take (i := 3) (d := 42) (v := ?vc3) rfl rfl (by as_aux_lemma => kernel_rfl) (by as_aux_lemma => kernel_rfl) (by as_aux_lemma => kernel_rfl) (fun _ _ _ h => h) (by rfl) ?hc3 (by assumption) ?_
    case hc3 => intro w hSw; go_simp; try with_reducible rfl
    simp only [List.setIfInBounds_toArray, List.set_cons_zero, List.set_cons_succ]
    refine Ord.take (i := 4) (d := 43) (v := .agg #[.int .i64 l, .int .i64 m, .int .i64 b]) rfl rfl (by as_aux_lemma => kernel_rfl) (by as_aux_lemma => kernel_rfl) (by as_aux_lemma => kernel_rfl) (fun _ _ _ h => h) (by rfl) ?hc4 (by assumption) ?_
    case hc4 => intro w hSw; obtain ⟨hcu, hpt, hbg⟩ := hSw; obtain ⟨q0, q1, q2, q3, q4⟩ := hcu.cells; have qb := hpt.cell; have ct0 := Joins.cell_of_block hbg 0; have ct1 := Joins.cell_of_block hbg 1; simp only [List.getElem?_toArray, List.getElem?_cons_zero, List.getElem?_cons_succ] at ct0 ct1; go_simp; try with_reducible rfl
    simp only [List.setIfInBounds_toArray, List.set_cons_zero, List.set_cons_succ]
    refine wpAnyH_ready (rs := [5]) (by as_aux_lemma => kernel_rfl) (by simp) (AllReadyH.cons rfl (fun K hK => ?_) AllReadyH.nil)
    rw [if_pos (by rfl)]
    go_simp
    refine (ended_word l m b r1 r2 wE HC.out q5 q6).mono ?_
    rintro _ wf ⟨rfl, hbf⟩
    dsimp only
    have HWF := hid (HWD.out.below hbf)
    have hkr : Kr w.heap.size g wE wf := Kr.below HWD.out.bel.size hbf
    have HXF : Hid (Bg wf X r1 r2) := hkr.typ X _ 61 _ (.inl rfl) HXD.out
    have HLF := hid (hkr.oth _ _ HLD.out rfl)
    have HDF := hid (hkr.oth _ _ HDD.out rfl)
    have HKF := hid (HKD.out.trans (hkr.kw (fun h0 => (HGO.out h0).2)))
    clear hbf hkr HXD HLD HDD HKD HWD hS
    refine hK.out _ _ ⟨HWF.out.cu, HWF.out.ptr, HXF.out⟩ (fun _ => ?_)
    clear hK K
    try simp only [List.setIfInBounds_toArray, List.set_cons_zero, List.set_cons_succ]
    refine wpAnyH_done (by as_aux_lemma => kernel_rfl) ?_ _
    refine hK0 _ _ ?_
    clear hK0 K0
    by_cases he : endB l m b r1 r2 = true
    · rw [he]
      obtain ⟨rn, rfl⟩ : ∃ rn : Nat, r1 = (rn : Int) := ⟨r1.toNat, by omega⟩
      obtain ⟨k1, k2, k3, k4, k5⟩ := chkC_ok HC.out
      have hrn : rn ≤ 4096 := by omega
      have HE := hid he
      clear he k1 k2 k3 k4 k5
      gi_wp2_with fail
      refine Go.wpIn_mono (Q := fun e _ B => e = .normal ∧ B.heap[w4.heap.size + 1]? = some (.loop r') ∧ B.heap[w4.heap.size]? = some (.deferred (some [])) ∧ Kw bs.length gb A B ∧ Wi w g Bk Bl l m b B R2 0 0 (L1 ++ [R2.take rn])) ?_ ?fin
      case fin =>
        rintro e a' B ⟨rfl, h1, h2, h3, h4⟩
        refine ⟨h1, h2, h3, ?_⟩
        dsimp only
        rw [fold_yes HSE.out HR2.out HE.out]
        exact h4
      have hDW : Below wf.heap.size wf wf.drew := (Below.refl _ _).drew
      have HWD := hid (HWF.out.below hDW)
      have HLD : Hid (wf.drew.heap[w4.heap.size + 1]? = some (.loop r')) := HLF.out
      have HDD : Hid (wf.drew.heap[w4.heap.size]? = some (.deferred (some []))) := HDF.out
      have HKD : Hid (Kw bs.length gb A wf.drew) := HKF.out.trans ((Kr.below (n₀ := w.heap.size) (g := g) HWF.out.bel.size hDW).kw (fun h0 => (HGO.out h0).2))
      clear HWF HXF HLF HDF HKF hDW
      obtain ⟨v, hv, zs, hrow, hch⟩ := HWD.out.var
      have HROW := hid hrow
      have HCH := hid hch
      have HV := hid hv
      refine round_held (S := fun W => (∃ s9 h9, Cu W g l m b s9 h9 R2) ∧ Boxed W Bk 41 (.pointer (some ⟨g, 0, none⟩))) (by kernel_rfl) (by kernel_rfl) (fun _ _ h => by cases h.1) ⟨⟨_, _, HWD.out.cu⟩, HWD.out.ptr⟩ (fun hS => ?_)
      clear hrow hch hv
      generalize wf.drew = wG at *
      refine Ord.take (i := 1) (d := 46) (v := .pointer (some ⟨g, 0, none⟩)) rfl rfl (by as_aux_lemma => kernel_rfl) (by as_aux_lemma => kernel_rfl) (by as_aux_lemma => kernel_rfl) (fun _ _ _ h => by cases h.1) (by rfl) ?hd1 (by assumption) ?_
      case hd1 => intro w hSw; obtain ⟨⟨s9, h9, hcu⟩, hpt⟩ := hSw; have qb := hpt.cell; go_simp; try with_reducible rfl
      simp only [List.setIfInBounds_toArray, List.set_cons_zero, List.set_cons_succ]
      clear hS
      refine wpAnyH_ready (rs := [0, 2]) (by as_aux_lemma => kernel_rfl) (by simp) (AllReadyH.cons rfl (fun K hK => ?_) (AllReadyH.cons rfl (fun K hK => ?_) AllReadyH.nil))
      · rw [if_pos (by rfl)]
        have qv := (HV.out).cell
        go_simp
        clear qv
        refine hK.out _ _ ⟨⟨_, _, (HWD.out).cu⟩, (HWD.out).ptr⟩ (fun _ => ?_)
        clear hK K
        try simp only [List.setIfInBounds_toArray, List.set_cons_zero, List.set_cons_succ]
        refine wpAnyH_ready (rs := [2]) (by as_aux_lemma => kernel_rfl) (by simp) (AllReadyH.cons rfl (fun K hK => ?_) AllReadyH.nil)
        rw [if_pos (by rfl)]
        go_simp
        refine (cut_ok g l m b r2 rn R2 wG HWD.out.cu hrn).mono ?_
        rintro _ wH ⟨y, rfl, hown, hcu, hbt⟩
        dsimp only
        have HWH := hid (HWD.out.but hbt hcu)
        have hkr : Kr w.heap.size g wG wH := Kr.but HWD.out.bel.size HWD.out.cu hbt
        have HLH := hid (hkr.oth _ _ HLD.out rfl)
        have HDH := hid (hkr.oth _ _ HDD.out rfl)
        have HKH := hid (HKD.out.trans (hkr.kw (fun h0 => (HGO.out h0).2)))
        have HVH : Hid (Boxed wH Bl 39 v) := But1.typ HWD.out.cu hbt Bl _ 39 (by decide) HV.out
        have HRH := hid (own_typ HROW.out (fun i cs => But1.typ HWD.out.cu hbt i cs 25 (by decide)))
        have HCHH : Hid (∀ i, i < L1.length → wH.ownsRow w.heap.size 5 1 (zs.getD i (.slice none 0 0)) (L1.getD i []).length ((L1.getD i []).map (Value.int .u8))) := fun i hi => own_typ (HCH.out i hi) (fun i cs => But1.typ HWD.out.cu hbt i cs 5 (by decide))
        have hy0 := own_mono hown HWD.out.bel.size
        obtain ⟨ay, ny, cy, rfl⟩ : ∃ ay ny cy, y = Value.slice ay ny cy := by
          rcases hy0.2 with ⟨rfl, _⟩ | ⟨gg, cp, cur, rfl, _⟩
          · exact ⟨_, _, _, rfl⟩
          · exact ⟨_, _, _, rfl⟩
        have HY := hid hy0
        clear hown hcu hbt hkr HLD HDD HKD HWD HV HROW HCH hy0
        refine hK.out _ _ ⟨⟨_, _, HWH.out.cu⟩, HWH.out.ptr⟩ (fun _ => ?_)
        clear hK K
        try simp only [List.setIfInBounds_toArray, List.set_cons_zero, List.set_cons_succ]
        refine wpAnyH_ready (rs := [3]) (by as_aux_lemma => kernel_rfl) (by simp) (AllReadyH.cons rfl (fun K hK => ?_) AllReadyH.nil)
        rw [if_pos (by rfl)]
        go_simp
        have hbA := bel_alloc wH (.cells #[.slice ay ny cy] 25)
        refine hK.out _ _ ⟨⟨_, _, (HWH.out.below hbA).cu⟩, (HWH.out.below hbA).ptr⟩ (fun _ => ?_)
        clear hK K hbA
        try simp only [List.setIfInBounds_toArray, List.set_cons_zero, List.set_cons_succ]
        refine wpAnyH_ready (rs := [4]) (by as_aux_lemma => kernel_rfl) (by simp) (AllReadyH.cons rfl (fun K hK => ?_) AllReadyH.nil)
        rw [if_pos (by rfl)]
        obtain ⟨i0, hi, hz0, hz1, hz2⟩ := info_parts Try.info25c
        refine wp_append_own _ (.tmp 45) (.tmp 48) 39 rfl w.heap.size 25 i0 (.slice none 0 0) 1 24 Try.underlying39 hi hz0 hz1 hz2 rfl (by decide) v L1.length zs rfl (HRH.out.alloc _) ⟨wH.heap.size, 0, none⟩ 1 1 [.slice ay ny cy] rfl rfl (cell_one_new _ _ _) (by simp [Value.oneCell']) (by have := HLN.out; unfold maxLen; omega) (by have := HLN.out; omega) (by have := HWH.out.bel.size; simp; omega) ?_
        intro v' w9 hown' hgrow _
        have hzl : (R2.take rn).length = rn := by rw [List.length_take, HWH.out.cu.len]; omega
        obtain ⟨hW9, hK9⟩ := HWH.out.push (z := R2.take rn) HLB.out HVH.out HRH.out HCHH.out (by rw [hzl]; exact HY.out) hown' hgrow
        have hv9 := (HVH.out.appended (by decide) HRH.out HWH.out.bel.size HLB.out hown' hgrow).1
        have hgl : g ≠ Bl := by
          rintro rfl
          have h1 := HWH.out.cu.blk
          rw [show wH.heap[g]? = _ from HVH.out] at h1
          cases h1
        have hkl : Bk ≠ Bl := by
          rintro rfl
          have h1 := (show wH.heap[Bk]? = _ from HWH.out.ptr)
          rw [show wH.heap[Bk]? = _ from HVH.out] at h1
          cases h1
        have hcu9 : Cu w9 g l m b 0 0 R2 := hW9.cu.later (Below.heap_setCell w9 ⟨Bl, 0, none⟩ v' g hgl).symm
        have hpt9 : Boxed w9 Bk 41 (.pointer (some ⟨g, 0, none⟩)) := (Below.heap_setCell w9 ⟨Bl, 0, none⟩ v' Bk hkl).symm.trans hW9.ptr
        refine hK.out _ _ ⟨⟨_, _, hcu9⟩, hpt9⟩ (fun _ => ?_)
        clear hK K hcu9 hpt9 hgl hkl
        obtain ⟨g', cap', rfl⟩ := ownsRow_succ hown'
        have HW9 := hid hW9
        have HL9 := hid (hK9.oth _ _ HLH.out rfl)
        have HD9 := hid (hK9.oth _ _ HDH.out rfl)
        have HK9 := hid (HKH.out.trans (hK9.kw (fun h0 => (HGO.out h0).2)))
        have c9 := hv9.cell
        have f9 := hv9.frozen
        clear hW9 hK9 hown' hgrow hv9 HLH HDH HKH HVH HRH HCHH HY HWH hzl
        refine Ord.put (d := 49) rfl ?_
        try simp only [List.setIfInBounds_toArray, List.set_cons_zero, List.set_cons_succ]
        refine wpAnyH_ready (rs := [5]) (by as_aux_lemma => kernel_rfl) (by simp) (AllReadyH.cons rfl (fun K hK => ?_) AllReadyH.nil)
        rw [if_pos (by rfl)]
        go_simp
        refine hK.out _ _ ⟨⟨_, _, HW9.out.cu⟩, HW9.out.ptr⟩ (fun _ => ?_)
        clear hK K c9 f9
        refine wpAnyH_done (by as_aux_lemma => kernel_rfl) ?_ _
        exact ⟨rfl, HL9.out, HD9.out, HK9.out, HW9.out⟩
      · rw [if_pos (by rfl)]
        go_simp
        refine (cut_ok g l m b r2 rn R2 wG HWD.out.cu hrn).mono ?_
        rintro _ wH ⟨y, rfl, hown, hcu, hbt⟩
        dsimp only
        have HWH := hid (HWD.out.but hbt hcu)
        have hkr : Kr w.heap.size g wG wH := Kr.but HWD.out.bel.size HWD.out.cu hbt
        have HLH := hid (hkr.oth _ _ HLD.out rfl)
        have HDH := hid (hkr.oth _ _ HDD.out rfl)
        have HKH := hid (HKD.out.trans (hkr.kw (fun h0 => (HGO.out h0).2)))
        have HVH : Hid (Boxed wH Bl 39 v) := But1.typ HWD.out.cu hbt Bl _ 39 (by decide) HV.out
        have HRH := hid (own_typ HROW.out (fun i cs => But1.typ HWD.out.cu hbt i cs 25 (by decide)))
        have HCHH : Hid (∀ i, i < L1.length → wH.ownsRow w.heap.size 5 1 (zs.getD i (.slice none 0 0)) (L1.getD i []).length ((L1.getD i []).map (Value.int .u8))) := fun i hi => own_typ (HCH.out i hi) (fun i cs => But1.typ HWD.out.cu hbt i cs 5 (by decide))
        have hy0 := own_mono hown HWD.out.bel.size
        obtain ⟨ay, ny, cy, rfl⟩ : ∃ ay ny cy, y = Value.slice ay ny cy := by
          rcases hy0.2 with ⟨rfl, _⟩ | ⟨gg, cp, cur, rfl, _⟩
          · exact ⟨_, _, _, rfl⟩
          · exact ⟨_, _, _, rfl⟩
        have HY := hid hy0
        clear hown hcu hbt hkr HLD HDD HKD HWD HV HROW HCH hy0
        refine hK.out _ _ ⟨⟨_, _, HWH.out.cu⟩, HWH.out.ptr⟩ (fun _ => ?_)
        clear hK K
        try simp only [List.setIfInBounds_toArray, List.set_cons_zero, List.set_cons_succ]
        refine wpAnyH_ready (rs := [0, 3]) (by as_aux_lemma => kernel_rfl) (by simp) (AllReadyH.cons rfl (fun K hK => ?_) (AllReadyH.cons rfl (fun K hK => ?_) AllReadyH.nil))
        · rw [if_pos (by rfl)]
          have qv := (HVH.out).cell
          go_simp
          clear qv
          refine hK.out _ _ ⟨⟨_, _, (HWH.out).cu⟩, (HWH.out).ptr⟩ (fun _ => ?_)
          clear hK K
          try simp only [List.setIfInBounds_toArray, List.set_cons_zero, List.set_cons_succ]
          refine wpAnyH_ready (rs := [3]) (by as_aux_lemma => kernel_rfl) (by simp) (AllReadyH.cons rfl (fun K hK => ?_) AllReadyH.nil)
          rw [if_pos (by rfl)]
          go_simp
          have hbA := bel_alloc wH (.cells #[.slice ay ny cy] 25)
          refine hK.out _ _ ⟨⟨_, _, (HWH.out.below hbA).cu⟩, (HWH.out.below hbA).ptr⟩ (fun _ => ?_)
          clear hK K hbA
          try simp only [List.setIfInBounds_toArray, List.set_cons_zero, List.set_cons_succ]
          refine wpAnyH_ready (rs := [4]) (by as_aux_lemma => kernel_rfl) (by simp) (AllReadyH.cons rfl (fun K hK => ?_) AllReadyH.nil)
          rw [if_pos (by rfl)]
          obtain ⟨i0, hi, hz0, hz1, hz2⟩ := info_parts Try.info25c
          refine wp_append_own _ (.tmp 45) (.tmp 48) 39 rfl w.heap.size 25 i0 (.slice none 0 0) 1 24 Try.underlying39 hi hz0 hz1 hz2 rfl (by decide) v L1.length zs rfl (HRH.out.alloc _) ⟨wH.heap.size, 0, none⟩ 1 1 [.slice ay ny cy] rfl rfl (cell_one_new _ _ _) (by simp [Value.oneCell']) (by have := HLN.out; unfold maxLen; omega) (by have := HLN.out; omega) (by have := HWH.out.bel.size; simp; omega) ?_
          intro v' w9 hown' hgrow _
          have hzl : (R2.take rn).length = rn := by rw [List.length_take, HWH.out.cu.len]; omega
          obtain ⟨hW9, hK9⟩ := HWH.out.push (z := R2.take rn) HLB.out HVH.out HRH.out HCHH.out (by rw [hzl]; exact HY.out) hown' hgrow
          have hv9 := (HVH.out.appended (by decide) HRH.out HWH.out.bel.size HLB.out hown' hgrow).1
          have hgl : g ≠ Bl := by
            rintro rfl
            have h1 := HWH.out.cu.blk
            rw [show wH.heap[g]? = _ from HVH.out] at h1
            cases h1
          have hkl : Bk ≠ Bl := by
            rintro rfl
            have h1 := (show wH.heap[Bk]? = _ from HWH.out.ptr)
            rw [show wH.heap[Bk]? = _ from HVH.out] at h1
            cases h1
          have hcu9 : Cu w9 g l m b 0 0 R2 := hW9.cu.later (Below.heap_setCell w9 ⟨Bl, 0, none⟩ v' g hgl).symm
          have hpt9 : Boxed w9 Bk 41 (.pointer (some ⟨g, 0, none⟩)) := (Below.heap_setCell w9 ⟨Bl, 0, none⟩ v' Bk hkl).symm.trans hW9.ptr
          refine hK.out _ _ ⟨⟨_, _, hcu9⟩, hpt9⟩ (fun _ => ?_)
          clear hK K hcu9 hpt9 hgl hkl
          obtain ⟨g', cap', rfl⟩ := ownsRow_succ hown'
          have HW9 := hid hW9
          have HL9 := hid (hK9.oth _ _ HLH.out rfl)
          have HD9 := hid (hK9.oth _ _ HDH.out rfl)
          have HK9 := hid (HKH.out.trans (hK9.kw (fun h0 => (HGO.out h0).2)))
          have c9 := hv9.cell
          have f9 := hv9.frozen
          clear hW9 hK9 hown' hgrow hv9 HLH HDH HKH HVH HRH HCHH HY HWH hzl
          refine Ord.put (d := 49) rfl ?_
          try simp only [List.setIfInBounds_toArray, List.set_cons_zero, List.set_cons_succ]
          refine wpAnyH_ready (rs := [5]) (by as_aux_lemma => kernel_rfl) (by simp) (AllReadyH.cons rfl (fun K hK => ?_) AllReadyH.nil)
          rw [if_pos (by rfl)]
          go_simp
          refine hK.out _ _ ⟨⟨_, _, HW9.out.cu⟩, HW9.out.ptr⟩ (fun _ => ?_)
          clear hK K c9 f9
          refine wpAnyH_done (by as_aux_lemma => kernel_rfl) ?_ _
          exact ⟨rfl, HL9.out, HD9.out, HK9.out, HW9.out⟩
        · rw [if_pos (by rfl)]
          go_simp
          have hbA := bel_alloc wH (.cells #[.slice ay ny cy] 25)
          refine hK.out _ _ ⟨⟨_, _, (HWH.out.below hbA).cu⟩, (HWH.out.below hbA).ptr⟩ (fun _ => ?_)
          clear hK K hbA
          try simp only [List.setIfInBounds_toArray, List.set_cons_zero, List.set_cons_succ]
          refine wpAnyH_ready (rs := [0]) (by as_aux_lemma => kernel_rfl) (by simp) (AllReadyH.cons rfl (fun K hK => ?_) AllReadyH.nil)
          rw [if_pos (by rfl)]
          have qv := (HVH.out.alloc (.cells #[.slice ay ny cy] 25)).cell
          go_simp
          clear qv
          refine hK.out _ _ ⟨⟨_, _, (HWH.out.below (bel_alloc wH (.cells #[.slice ay ny cy] 25))).cu⟩, (HWH.out.below (bel_alloc wH (.cells #[.slice ay ny cy] 25))).ptr⟩ (fun _ => ?_)
          clear hK K
          try simp only [List.setIfInBounds_toArray, List.set_cons_zero, List.set_cons_succ]
          refine wpAnyH_ready (rs := [4]) (by as_aux_lemma => kernel_rfl) (by simp) (AllReadyH.cons rfl (fun K hK => ?_) AllReadyH.nil)
          rw [if_pos (by rfl)]
          obtain ⟨i0, hi, hz0, hz1, hz2⟩ := info_parts Try.info25c
          refine wp_append_own _ (.tmp 45) (.tmp 48) 39 rfl w.heap.size 25 i0 (.slice none 0 0) 1 24 Try.underlying39 hi hz0 hz1 hz2 rfl (by decide) v L1.length zs rfl (HRH.out.alloc _) ⟨wH.heap.size, 0, none⟩ 1 1 [.slice ay ny cy] rfl rfl (cell_one_new _ _ _) (by simp [Value.oneCell']) (by have := HLN.out; unfold maxLen; omega) (by have := HLN.out; omega) (by have := HWH.out.bel.size; simp; omega) ?_
          intro v' w9 hown' hgrow _
          have hzl : (R2.take rn).length = rn := by rw [List.length_take, HWH.out.cu.len]; omega
          obtain ⟨hW9, hK9⟩ := HWH.out.push (z := R2.take rn) HLB.out HVH.out HRH.out HCHH.out (by rw [hzl]; exact HY.out) hown' hgrow
          have hv9 := (HVH.out.appended (by decide) HRH.out HWH.out.bel.size HLB.out hown' hgrow).1
          have hgl : g ≠ Bl := by
            rintro rfl
            have h1 := HWH.out.cu.blk
            rw [show wH.heap[g]? = _ from HVH.out] at h1
            cases h1
          have hkl : Bk ≠ Bl := by
            rintro rfl
            have h1 := (show wH.heap[Bk]? = _ from HWH.out.ptr)
            rw [show wH.heap[Bk]? = _ from HVH.out] at h1
            cases h1
          have hcu9 : Cu w9 g l m b 0 0 R2 := hW9.cu.later (Below.heap_setCell w9 ⟨Bl, 0, none⟩ v' g hgl).symm
          have hpt9 : Boxed w9 Bk 41 (.pointer (some ⟨g, 0, none⟩)) := (Below.heap_setCell w9 ⟨Bl, 0, none⟩ v' Bk hkl).symm.trans hW9.ptr
          refine hK.out _ _ ⟨⟨_, _, hcu9⟩, hpt9⟩ (fun _ => ?_)
          clear hK K hcu9 hpt9 hgl hkl
          obtain ⟨g', cap', rfl⟩ := ownsRow_succ hown'
          have HW9 := hid hW9
          have HL9 := hid (hK9.oth _ _ HLH.out rfl)
          have HD9 := hid (hK9.oth _ _ HDH.out rfl)
          have HK9 := hid (HKH.out.trans (hK9.kw (fun h0 => (HGO.out h0).2)))
          have c9 := hv9.cell
          have f9 := hv9.frozen
          clear hW9 hK9 hown' hgrow hv9 HLH HDH HKH HVH HRH HCHH HY HWH hzl
          refine Ord.put (d := 49) rfl ?_
          try simp only [List.setIfInBounds_toArray, List.set_cons_zero, List.set_cons_succ]
          refine wpAnyH_ready (rs := [5]) (by as_aux_lemma => kernel_rfl) (by simp) (AllReadyH.cons rfl (fun K hK => ?_) AllReadyH.nil)
          rw [if_pos (by rfl)]
          go_simp
          refine hK.out _ _ ⟨⟨_, _, HW9.out.cu⟩, HW9.out.ptr⟩ (fun _ => ?_)
          clear hK K c9 f9
          refine wpAnyH_done (by as_aux_lemma => kernel_rfl) ?_ _
          exact ⟨rfl, HL9.out, HD9.out, HK9.out, HW9.out⟩

    · have he' : endB l m b r1 r2 = false := by simpa using he
      rw [he']
      gi_wp2_with fail
      refine ⟨HLF.out, HDF.out, HKF.out, ?_⟩
      dsimp only
      rw [fold_no HSE.out HR2.out he']
      exact HWF.out
end Go.Proofs.Ytcapkkldjgmhfaa
