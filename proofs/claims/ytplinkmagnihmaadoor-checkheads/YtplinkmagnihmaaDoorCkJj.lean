/-
  Whether records have a head: check's Has. Which sealed mark is the newest: the document's Newest. Which sealed mark is the newest: check's Newest. Which head is newer: cmp.Compare and cmp.Or of numbers, check's newer.
-/
import Derived.Test.YtplinkmagnihmaaDoorCkJa
import Derived.Test.YtplinkmagnihmaaDoorCkU
import Derived.Test.YtplinkmagnihmaaDoorCkJi
import Derived.Test.YtplinkmagnihmaaDoorCkJg
import Derived.Test.YtplinkmagnihmaaDoorCkJf
namespace Go.Proofs.YtplinkmagnihmaaDoor
open Go.ChangeShapes Go.WideShapes Go.ChangeAt Go.RowKit Go.Deep Go.Lib

def cmpI (a b : Int) : Int := if a < b then -1 else if b < a then 1 else 0
def orI : List Int → Int
  | [] => 0
  | x :: l => if x = 0 then orI l else x
theorem orI_step {l : List Int} {k : Nat} (hk : k < l.length) : orI (l.drop k) = if l.getD k 0 = 0 then orI (l.drop (k + 1)) else l.getD k 0 := by
  rw [show l.drop k = l.getD k 0 :: l.drop (k + 1) from by rw [List.drop_eq_getElem_cons hk]; simp [List.getD, List.getElem?_eq_getElem hk], orI]
set_option maxHeartbeats 1600000 in
set_option maxRecDepth 100000 in
theorem nanI_word (a : Int) (w : World) : Calls Tryd.prog 55 #[.int .i64 a] w fun e w' => e = .returned (.bool false) ∧ w' = w := by
  go_enter Tryd.func55, Tryd.ntmps55
  go_wp2
  go_ret
  exact ⟨by simp, rfl⟩
set_option maxHeartbeats 1600000 in
set_option maxRecDepth 100000 in
theorem cmpI_word (a b : Int) (w : World) : Calls Tryd.prog 39 #[.int .i64 a, .int .i64 b] w fun e w' => e = .returned (.int .i64 (cmpI a b)) ∧ w' = w := by
  unfold cmpI
  have HN := hid nanI_word
  go_enter Tryd.func39, Tryd.ntmps39
  go_wp2_with fail
  refine (HN.out _ _).mono ?_
  rintro _ w0 ⟨rfl, hw⟩
  obtain rfl := hw.symm
  clear hw
  go_wp2_with fail
  refine (HN.out _ _).mono ?_
  rintro _ w0 ⟨rfl, hw⟩
  obtain rfl := hw.symm
  clear hw
  by_cases h1 : a < b
  · go_wp2
    go_ret
    exact ⟨by simp_all, rfl⟩
  · by_cases h2 : b < a
    · go_wp2
      go_ret
      exact ⟨by simp_all, rfl⟩
    · go_wp2
      go_ret
      exact ⟨by simp_all, rfl⟩
set_option maxHeartbeats 1600000 in
set_option maxRecDepth 100000 in
theorem orI_word (g : Nat) (p q : Int) (w : World) (hb : w.heap[g]? = some (.cells #[.int .i64 p, .int .i64 q] 3)) : Calls Tryd.prog 38 #[.slice (some ⟨g, 0, none⟩) 2 2] w fun e w' => e = .returned (.int .i64 (orI [p, q])) ∧ w' = w := by
  have c0 : w.cell? ⟨g, 0, none⟩ = some (.int .i64 p) := (Joins.cell_of_block hb 0).trans rfl
  have c1 : w.cell? ⟨g, 0 + 1, none⟩ = some (.int .i64 q) := (Joins.cell_of_block hb 1).trans rfl
  have HC : Hid (∀ k, k < 2 → w.cell? ⟨g, k, none⟩ = some (.int .i64 (([p, q] : List Int).getD k 0))) := fun k hk => by
    rcases (show k = 0 ∨ k = 1 by omega) with rfl | rfl
    · exact c0
    · exact c1
  have HST := hid (fun k (hk : k < 2) => orI_step (l := [p, q]) (k := k) hk)
  have HLE : Hid (orI (([p, q] : List Int).drop 2) = 0) := rfl
  have HR : Hid (orI [p, q] = orI (([p, q] : List Int).drop 0)) := rfl
  obtain ⟨R, hR⟩ : ∃ R, R = orI [p, q] := ⟨_, rfl⟩
  rw [← hR] at HR ⊢
  generalize ([p, q] : List Int) = l at *
  clear hb c0 c1 hR
  go_enter Tryd.func38, Tryd.ntmps38
  go_wp2
  go_loopw [8] (fun x8 wr => ∃ k : Nat, k ≤ 2 ∧ x8 = .int .i64 (k : Int) ∧ wr = w ∧ Hid (R = orI (l.drop k))) (fun x8 _ => 2 - (RowKit.intOf x8).toNat)
  case atStart => exact ⟨0, by omega, rfl, rfl, HR⟩
  case round =>
    obtain ⟨k, hk, rfl, hwr, HK⟩ := hrel
    obtain rfl := hwr.symm
    clear hwr
    by_cases hlt : k < 2
    · have hc := HC.out k hlt
      have hkz : (k : Int) < 2 := by omega
      have HS := hid (HST.out k hlt)
      obtain ⟨z, hz⟩ : ∃ z, z = l.getD k 0 := ⟨_, rfl⟩
      rw [← hz] at hc HS
      clear hz
      by_cases h0 : z = 0
      · subst h0
        go_wp2
        go_round
        case rel => exact ⟨k + 1, by omega, by go_num, by first | trivial | rfl, by show _ = _; rw [HK.out, HS.out, if_pos rfl]⟩
        case measure => simp [RowKit.intOf]; omega
      · have HF : Hid (R = z) := by show _ = _; rw [HK.out, HS.out, if_neg h0]
        go_wp2
        go_ret
        exact ⟨by rw [HF.out]; try rfl, by first | trivial | rfl⟩
    · have hk2 : k = 2 := by omega
      subst hk2
      have HF : Hid (R = 0) := by show _ = _; rw [HK.out, HLE.out]
      go_wp2
      go_ret
      exact ⟨by rw [HF.out]; try rfl, by first | trivial | rfl⟩
def newB (x y : Hd) : Bool := decide (0 < orI [cmpI x.1 y.1, cmpI x.2.1 y.2.1])
set_option maxHeartbeats 6400000 in
set_option maxRecDepth 100000 in
theorem newer_word (x y : Hd) (w : World) : Calls Tryd.prog 26 #[.agg (hdV x).toArray, .agg (hdV y).toArray] w fun e w' => e = .returned (.bool (newB x y)) ∧ Below w.heap.size w w' := by
  have hB1 := bel_alc w (.cells (hdV x).toArray 27)
  have e1 := heap_alc w (.cells (hdV x).toArray 27)
  have hB2 := bel_alc (w.alloc (.cells (hdV x).toArray 27)) (.cells (hdV y).toArray 27)
  have e2 := heap_alc (w.alloc (.cells (hdV x).toArray 27)) (.cells (hdV y).toArray 27)
  have s1 : (w.alloc (.cells (hdV x).toArray 27)).heap.size = w.heap.size + 1 := by simp
  rw [s1] at e2
  have e1' := blk_later e1 hB2
  have HB := hid (Bn hB1 hB2)
  obtain ⟨W1, hW1⟩ : ∃ W1, W1 = (w.alloc (.cells (hdV x).toArray 27)).alloc (.cells (hdV y).toArray 27) := ⟨_, rfl⟩
  rw [← hW1] at HB e1' e2
  have HW1 := hid hW1
  have HX0 := hid (fun X (hX : Below W1.heap.size W1 X) => hd_seq (blk_range (blk_later e1' hX)))
  have HX1 := hid (fun X (hX : Below W1.heap.size W1 X) => hd_epoch (blk_range (blk_later e1' hX)))
  have HY0 := hid (fun X (hX : Below W1.heap.size W1 X) => hd_seq (blk_range (blk_later e2 hX)))
  have HY1 := hid (fun X (hX : Below W1.heap.size W1 X) => hd_epoch (blk_range (blk_later e2 hX)))
  have HC1 := hid (fun V => cmpI_word x.1 y.1 V)
  have HC2 := hid (fun V => cmpI_word x.2.1 y.2.1 V)
  unfold newB
  obtain ⟨x0, hx0⟩ : ∃ z, z = x.1 := ⟨_, rfl⟩
  obtain ⟨x1, hx1⟩ : ∃ z, z = x.2.1 := ⟨_, rfl⟩
  obtain ⟨y0, hy0⟩ : ∃ z, z = y.1 := ⟨_, rfl⟩
  obtain ⟨y1, hy1⟩ : ∃ z, z = y.2.1 := ⟨_, rfl⟩
  rw [← hx0, ← hy0, ← hx1, ← hy1]
  rw [← hx0, ← hy0] at HC1
  rw [← hx1, ← hy1] at HC2
  rw [← hx0] at HX0
  rw [← hx1] at HX1
  rw [← hy0] at HY0
  rw [← hy1] at HY1
  generalize cmpI x0 y0 = p at *
  generalize cmpI x1 y1 = q at *
  have HOR := hid (fun g V (h : V.heap[g]? = some (.cells #[.int .i64 p, .int .i64 q] 3)) => orI_word g p q V h)
  generalize orI [p, q] = r at *
  clear hB1 e1 hB2 e2 s1 e1' hW1 hx0 hx1 hy0 hy1
  go_enter Tryd.func26, Tryd.ntmps26
  go_wp2_with fail
  rw [← HW1.out]
  refine wp_region_held_drew (S := fun X => Below W1.heap.size W1 X) (by kernel_rfl) (Below.refl _ _).drew (fun hS_v0 => ?_)
  have hd_v0 : Below W1.heap.size W1 W1.drew := (Below.refl _ _).drew
  generalize W1.drew = v0 at *
  simp only [List.size_toArray, List.length_cons, List.length_nil, Nat.reduceAdd]
  clear hd_v0
  refine Ord.take (i := 0) (d := 5) (v := ?vR0) rfl rfl (by as_aux_lemma => kernel_rfl) (by as_aux_lemma => kernel_rfl) (by as_aux_lemma => kernel_rfl) (fun _ _ _ h => h) (by rfl) ?hR0 (by assumption) ?_
  case hR0 => intro wx hSw; go_simp; try with_reducible rfl
  try simp only [List.setIfInBounds_toArray, List.set_cons_zero, List.set_cons_succ]
  refine Ord.take (i := 1) (d := 6) (v := .int .i64 x0) rfl rfl (by as_aux_lemma => kernel_rfl) (by as_aux_lemma => kernel_rfl) (by as_aux_lemma => kernel_rfl) (fun _ _ _ h => h) (by rfl) ?hR1 (by assumption) ?_
  case hR1 => intro wx hSw; have hc := HX0.out _ hSw; go_simp; try with_reducible rfl
  try simp only [List.setIfInBounds_toArray, List.set_cons_zero, List.set_cons_succ]
  refine Ord.take (i := 2) (d := 7) (v := ?vR2) rfl rfl (by as_aux_lemma => kernel_rfl) (by as_aux_lemma => kernel_rfl) (by as_aux_lemma => kernel_rfl) (fun _ _ _ h => h) (by rfl) ?hR2 (by assumption) ?_
  case hR2 => intro wx hSw; go_simp; try with_reducible rfl
  try simp only [List.setIfInBounds_toArray, List.set_cons_zero, List.set_cons_succ]
  refine Ord.take (i := 3) (d := 8) (v := .int .i64 y0) rfl rfl (by as_aux_lemma => kernel_rfl) (by as_aux_lemma => kernel_rfl) (by as_aux_lemma => kernel_rfl) (fun _ _ _ h => h) (by rfl) ?hR3 (by assumption) ?_
  case hR3 => intro wx hSw; have hc := HY0.out _ hSw; go_simp; try with_reducible rfl
  try simp only [List.setIfInBounds_toArray, List.set_cons_zero, List.set_cons_succ]
  refine Ord.take (i := 5) (d := 10) (v := ?vR5) rfl rfl (by as_aux_lemma => kernel_rfl) (by as_aux_lemma => kernel_rfl) (by as_aux_lemma => kernel_rfl) (fun _ _ _ h => h) (by rfl) ?hR5 (by assumption) ?_
  case hR5 => intro wx hSw; go_simp; try with_reducible rfl
  try simp only [List.setIfInBounds_toArray, List.set_cons_zero, List.set_cons_succ]
  refine Ord.take (i := 6) (d := 11) (v := .int .i64 x1) rfl rfl (by as_aux_lemma => kernel_rfl) (by as_aux_lemma => kernel_rfl) (by as_aux_lemma => kernel_rfl) (fun _ _ _ h => h) (by rfl) ?hR6 (by assumption) ?_
  case hR6 => intro wx hSw; have hc := HX1.out _ hSw; go_simp; try with_reducible rfl
  try simp only [List.setIfInBounds_toArray, List.set_cons_zero, List.set_cons_succ]
  refine Ord.take (i := 7) (d := 12) (v := ?vR7) rfl rfl (by as_aux_lemma => kernel_rfl) (by as_aux_lemma => kernel_rfl) (by as_aux_lemma => kernel_rfl) (fun _ _ _ h => h) (by rfl) ?hR7 (by assumption) ?_
  case hR7 => intro wx hSw; go_simp; try with_reducible rfl
  try simp only [List.setIfInBounds_toArray, List.set_cons_zero, List.set_cons_succ]
  refine Ord.take (i := 8) (d := 13) (v := .int .i64 y1) rfl rfl (by as_aux_lemma => kernel_rfl) (by as_aux_lemma => kernel_rfl) (by as_aux_lemma => kernel_rfl) (fun _ _ _ h => h) (by rfl) ?hR8 (by assumption) ?_
  case hR8 => intro wx hSw; have hc := HY1.out _ hSw; go_simp; try with_reducible rfl
  try simp only [List.setIfInBounds_toArray, List.set_cons_zero, List.set_cons_succ]
  refine wpAnyH_ready (rs := [4]) (by as_aux_lemma => kernel_rfl) (by simp) (AllReadyH.cons rfl (fun K hK => ?_) AllReadyH.nil)
  go_simp
  go_simp
  refine (HC1.out v0).mono ?_
  rintro _ w0 ⟨rfl, hw⟩
  obtain rfl := hw.symm
  clear hw
  refine hK.out _ _ hS_v0 (fun _ => ?_)
  clear hK K
  try simp only [List.setIfInBounds_toArray, List.set_cons_zero, List.set_cons_succ]
  try simp only [List.setIfInBounds_toArray, List.set_cons_zero, List.set_cons_succ]
  refine wpAnyH_ready (rs := [9]) (by as_aux_lemma => kernel_rfl) (by simp) (AllReadyH.cons rfl (fun K hK => ?_) AllReadyH.nil)
  go_simp
  go_simp
  refine (HC2.out v0).mono ?_
  rintro _ w0 ⟨rfl, hw⟩
  obtain rfl := hw.symm
  clear hw
  refine hK.out _ _ hS_v0 (fun _ => ?_)
  clear hK K
  try simp only [List.setIfInBounds_toArray, List.set_cons_zero, List.set_cons_succ]
  try simp only [List.setIfInBounds_toArray, List.set_cons_zero, List.set_cons_succ]
  refine wpAnyH_ready (rs := [10]) (by as_aux_lemma => kernel_rfl) (by simp) (AllReadyH.cons rfl (fun K hK => ?_) AllReadyH.nil)
  go_simp
  try go_simp
  have hbA := bel_alc v0 (.cells #[.int .i64 p, .int .i64 q] 3)
  have hgA := heap_alc v0 (.cells #[.int .i64 p, .int .i64 q] 3)
  have hS_v1 : Below W1.heap.size W1 (v0.alloc (.cells #[.int .i64 p, .int .i64 q] 3)) := Bn hS_v0 hbA
  have HG1 := hid hgA
  refine hK.out _ _ hS_v1 (fun _ => ?_)
  clear hK K hbA hgA
  obtain ⟨g, hg⟩ : ∃ g, g = v0.heap.size := ⟨_, rfl⟩
  rw [← hg] at HG1 ⊢
  generalize v0.alloc (.cells #[.int .i64 p, .int .i64 q] 3) = v1 at *
  clear hg
  try simp only [List.setIfInBounds_toArray, List.set_cons_zero, List.set_cons_succ]
  try simp only [List.setIfInBounds_toArray, List.set_cons_zero, List.set_cons_succ]
  refine wpAnyH_ready (rs := [11]) (by as_aux_lemma => kernel_rfl) (by simp) (AllReadyH.cons rfl (fun K hK => ?_) AllReadyH.nil)
  go_simp
  go_simp
  refine (HOR.out g v1 HG1.out).mono ?_
  rintro _ w0 ⟨rfl, hw⟩
  obtain rfl := hw.symm
  clear hw
  refine hK.out _ _ hS_v1 (fun _ => ?_)
  clear hK K
  try simp only [List.setIfInBounds_toArray, List.set_cons_zero, List.set_cons_succ]
  try simp only [List.setIfInBounds_toArray, List.set_cons_zero, List.set_cons_succ]
  refine Ord.take (i := 12) (d := 17) (v := ?vR12) rfl rfl (by as_aux_lemma => kernel_rfl) (by as_aux_lemma => kernel_rfl) (by as_aux_lemma => kernel_rfl) (fun _ _ _ h => h) (by rfl) ?hR12 (by assumption) ?_
  case hR12 => intro wx hSw; go_simp; try with_reducible rfl
  try simp only [List.setIfInBounds_toArray, List.set_cons_zero, List.set_cons_succ]
  refine Ord.take (i := 13) (d := 4) (v := ?vR13) rfl rfl (by as_aux_lemma => kernel_rfl) (by as_aux_lemma => kernel_rfl) (by as_aux_lemma => kernel_rfl) (fun _ _ _ h => h) (by rfl) ?hR13 (by assumption) ?_
  case hR13 => intro wx hSw; go_simp; try with_reducible rfl
  try simp only [List.setIfInBounds_toArray, List.set_cons_zero, List.set_cons_succ]
  refine wpAnyH_done (by as_aux_lemma => kernel_rfl) ?_ _
  have HS9 := hid (Bn HB.out hS_v1)
  clear hS_v0 hS_v1
  go_wp2
  go_ret
  exact ⟨rfl, HS9.out⟩
end Go.Proofs.YtplinkmagnihmaaDoor
namespace Go.Proofs.YtplinkmagnihmaaDoor
open Go.ChangeShapes Go.WideShapes Go.ChangeAt Go.RowKit Go.Deep Go.Lib

/-- The newest sealed mark of the first n: its place, and whether there is one. -/
def nwS (key : List Nat) (ms : List Mrk) (s : Nat × Bool) (i : Nat) : Nat × Bool := if (sealedB key (ms.getD i mkZ) && (!s.2 || newB (ms.getD i mkZ).2.1 (ms.getD s.1 mkZ).2.1)) = true then (i, true) else s
def nwR (key : List Nat) (ms : List Mrk) : Nat → Nat × Bool
  | 0 => (0, false)
  | n + 1 => nwS key ms (nwR key ms n) n
theorem nw_lt (key : List Nat) (ms : List Mrk) : ∀ n, (nwR key ms n).1 = 0 ∨ (nwR key ms n).1 < n
  | 0 => .inl rfl
  | n + 1 => by
    rw [nwR]
    unfold nwS
    split
    · exact .inr (Nat.lt_succ_self n)
    · rcases nw_lt key ms n with h | h
      · exact .inl h
      · exact .inr (Nat.lt_succ_of_lt h)
theorem Tryd.zero45n : ∀ w, (zeroValue 45).run Tryd.prog w = .ok (.agg (mkV mkZ).toArray) w := fun w => by kernel_rfl
set_option maxHeartbeats 12800000 in
set_option maxRecDepth 100000 in
theorem newest_word (ka : Option Addr) (kc : Nat) (key : List Nat) (ma : Option Addr) (mc : Nat) (ms : List Mrk) (w : World) (hL : Sh.Laid w) (hk : Sh.Rd w (.slice ka key.length kc) ka kc key) (hkf : key.length ≤ 100000)
    (hm : Rw 67 mkV mkZ w ma mc ms) (hok : ∀ m ∈ ms, MOk m) :
    Calls Tryd.prog 11 #[.slice ka key.length kc, .slice ma ms.length mc] w fun e w' => e = .returned (.tuple #[.int .i64 ((nwR key ms ms.length).1 : Int), .bool (nwR key ms ms.length).2]) ∧ Below w.heap.size w w' := by
  have hroom := hm.room
  have hmost := hm.most
  unfold maxLen at hmost
  have HM := hid hm
  have HKR := hid hk
  have HLA := hid hL
  have HOK := hid hok
  have HGE := hid (fun i (hi : i < ms.length) => (show MOk (ms.getD i mkZ) from hok _ (by simp [List.getD, List.getElem?_eq_getElem hi])))
  have HLT := hid (fun n => nw_lt key ms n)
  have HST := hid (fun n => show nwR key ms (n + 1) = nwS key ms (nwR key ms n) n from rfl)
  have HN0 : Hid ((nwR key ms 0).1 = 0 ∧ (nwR key ms 0).2 = false) := ⟨rfl, rfl⟩
  have HSE := hid (fun V (m : Mrk) (hm : MOk m) (hV : Below w.heap.size w V) => sealed_word ka kc key m V (hL.later hV) (hk.later hV) hkf hm)
  obtain ⟨mn, hmn⟩ : ∃ n, n = ms.length := ⟨_, rfl⟩
  obtain ⟨kn, hkn⟩ : ∃ n, n = key.length := ⟨_, rfl⟩
  rw [← hkn] at HSE
  rw [← hmn] at hroom HGE
  rw [← hmn, ← hkn]
  have HMN := hid hmn
  obtain ⟨R, hR⟩ : ∃ R, R = nwR key ms mn := ⟨_, rfl⟩
  rw [← hR]
  have HRR := hid hR
  clear hk hL hm hok hmn hkn hkf hR
  go_enter Tryd.func11, Tryd.ntmps11
  go_wp2
  go_loopw [6, 7, 12] (fun x6 x7 x12 wr => ∃ (k at0 : Nat) (fd : Bool), k ≤ mn ∧ x12 = .int .i64 (k : Int) ∧ x6 = .int .i64 (at0 : Int) ∧ x7 = .bool fd ∧ Hid (nwR key ms k = (at0, fd)) ∧ Hid (Below w.heap.size w wr)) (fun _ _ x12 _ => mn - (RowKit.intOf x12).toNat)
  case atStart => exact ⟨0, 0, false, by omega, rfl, rfl, rfl, rfl, Below.refl _ _⟩
  case round =>
    obtain ⟨k, at0, fd, hk, rfl, rfl, rfl, HK, HB⟩ := hrel
    by_cases hlt : k < mn
    · have hkz : (k : Int) < (mn : Int) := by omega
      have hat : at0 < mn := by
        have := HLT.out k
        rw [HK.out] at this
        have h : at0 = 0 ∨ at0 < k := this
        omega
      have hatz : (at0 : Int) < (mn : Int) := by omega
      obtain ⟨b, off, rfl, hbw, hc⟩ := HM.out.cells (by rw [← HMN.out]; omega)
      have hck := hc k (by rw [← HMN.out]; exact hlt)
      have hca := hc at0 (by rw [← HMN.out]; exact hat)
      have HOM := hid (HGE.out k hlt)
      have HOA := hid (HGE.out at0 hat)
      have HSTK := hid (HST.out k)
      unfold nwS at HSTK
      obtain ⟨m, hmm⟩ : ∃ m, m = ms.getD k mkZ := ⟨_, rfl⟩
      obtain ⟨y, hyy⟩ : ∃ y, y = ms.getD at0 mkZ := ⟨_, rfl⟩
      have HST2 : Hid (nwR key ms (k + 1) = if (sealedB key m && (!fd || newB m.2.1 y.2.1)) = true then (k, true) else (at0, fd)) := by
        show _ = _
        rw [HSTK.out, HK.out, ← hmm, ← hyy]
      rw [← hmm] at hck HOM
      rw [← hyy] at hca HOA
      have hbw2 : b < wr.heap.size := Nat.lt_of_lt_of_le hbw HB.out.size
      have HRK : Hid (wr.rangeAt b (off + k * 67) (mkV m)) := range_later hck HB.out hbw
      have hca2 : wr.rangeAt b (off + at0 * 67) (mkV y) := range_later hca HB.out hbw
      have HML := hid (mkV_len HOM.out)
      have HHL := hid (hdV_len HOM.out.hd.len)
      have HYL := hid (hdV_len HOA.out.hd.len)
      obtain ⟨g, hg⟩ : ∃ g, g = wr.heap.size := ⟨_, rfl⟩
      have HGQ := hid hg
      clear hc hck hca hmm hyy HSTK hg
      go_wp2_with (first | refine wpList_load_P rfl 45 _ rfl b (off + k * 67) rfl (mkV m) _ HRK.out Tryd.underlying45 rfl (by rw [HML.out]; exact Tryd.size45) ?_ | refine wpList_alloc_W rfl 45 rfl (some 9) rfl _ Tryd.zero45n g HGQ.out ?_ | fail)
      intro V3 HG3 HBl3 HS3
      go_wp2_with (first | refine wpList_store_W rfl 45 _ _ rfl rfl g (mkV m).toArray rfl rfl 45 _ HG3.out (by rw [List.size_toArray, HML.out]; exact Tryd.size45) (by rw [List.size_toArray, List.size_toArray, HML.out, mkV_len mkZ_ok]) (all_oneCell_toArray (mkV_one _)) ?_ | fail)
      intro W1 HG4 HGR4 HS4
      have HB4 : Hid (Below wr.heap.size wr W1) := by
        show Below _ _ _
        rw [← HGQ.out]
        exact HBl3.out.trans (bel_grown HGR4.out (Nat.le_refl _) (by rw [HGQ.out]; exact HBl3.out.size))
      have HBW := hid (Bn HB.out HB4.out)
      have HR := hid (fun X (hX : Below W1.heap.size W1 X) => blk_range (blk_later HG4.out hX))
      have HRH := hid (fun X (hX : Below W1.heap.size W1 X) => mk_hd (HR.out X hX))
      have HYR := hid (fun X (hX : Below W1.heap.size W1 X) => mk_hd (range_later (range_later hca2 HB4.out hbw2) hX (Nat.lt_of_lt_of_le hbw2 HB4.out.size)))
      have HSL := hid (fun V (hV : Below W1.heap.size W1 V) => HSE.out V m HOM.out (Bn HBW.out hV))
      have HNW := hid (fun V => newer_word m.2.1 y.2.1 V)
      have HLN := HML
      clear HG3 HBl3 HS3 HGR4 HS4 HGQ HG4 HRK hca2 HB4
      go_wp2_with fail
      obtain ⟨sb, hsb⟩ : ∃ s, s = sealedB key m := ⟨_, rfl⟩
      rw [← hsb] at HST2 HSL
      obtain ⟨nb, hnb⟩ : ∃ s, s = newB m.2.1 y.2.1 := ⟨_, rfl⟩
      rw [← hnb] at HST2 HNW
      clear hsb hnb
      cases fd
      · have HQ : Hid (nwR key ms (k + 1) = if sb = true then (k, true) else (at0, false)) := by show _ = _; rw [HST2.out]; simp
        clear HST2
        cases sb
        · have HQ2 : Hid (nwR key ms (k + 1) = (at0, false)) := by show _ = _; rw [HQ.out]; rfl
          refine wp_region_held_drew (S := fun X => Below W1.heap.size W1 X) (by kernel_rfl) (Below.refl _ _).drew (fun hS_v0 => ?_)
          have hd_v0 : Below W1.heap.size W1 W1.drew := (Below.refl _ _).drew
          generalize W1.drew = v0 at *
          simp only [List.size_toArray, List.length_cons, List.length_nil, Nat.reduceAdd]
          clear hd_v0
          refine Ord.take (i := 0) (d := 17) (v := ?vA0) rfl rfl (by as_aux_lemma => kernel_rfl) (by as_aux_lemma => kernel_rfl) (by as_aux_lemma => kernel_rfl) (fun _ _ _ h => h) (by rfl) ?hA0 (by assumption) ?_
          case hA0 => intro wx hSw; go_simp; try with_reducible rfl
          try simp only [List.setIfInBounds_toArray, List.set_cons_zero, List.set_cons_succ]
          refine Ord.take (i := 1) (d := 18) (v := ?vA1) rfl rfl (by as_aux_lemma => kernel_rfl) (by as_aux_lemma => kernel_rfl) (by as_aux_lemma => kernel_rfl) (fun _ _ _ h => h) (by rfl) ?hA1 (by assumption) ?_
          case hA1 => intro wx hSw; go_simp; try with_reducible rfl
          try simp only [List.setIfInBounds_toArray, List.set_cons_zero, List.set_cons_succ]
          refine Ord.take (i := 2) (d := 19) (v := .bool true) rfl rfl (by as_aux_lemma => kernel_rfl) (by as_aux_lemma => kernel_rfl) (by as_aux_lemma => kernel_rfl) (fun _ _ _ h => h) (by rfl) ?hA2 (by assumption) ?_
          case hA2 => intro wx hSw; go_simp; try with_reducible rfl
          try simp only [List.setIfInBounds_toArray, List.set_cons_zero, List.set_cons_succ]
          refine Ord.skip (i := 3) (d := 20) rfl rfl (by as_aux_lemma => kernel_rfl) (by as_aux_lemma => kernel_rfl) (by as_aux_lemma => kernel_rfl) (fun _ _ _ h => h) (by rfl) (by assumption) ?_
          simp only [List.setIfInBounds_toArray, List.set_cons_zero, List.set_cons_succ]
          refine Ord.skip (i := 4) (d := 21) rfl rfl (by as_aux_lemma => kernel_rfl) (by as_aux_lemma => kernel_rfl) (by as_aux_lemma => kernel_rfl) (fun _ _ _ h => h) (by rfl) (by assumption) ?_
          simp only [List.setIfInBounds_toArray, List.set_cons_zero, List.set_cons_succ]
          refine Ord.skip (i := 5) (d := 22) rfl rfl (by as_aux_lemma => kernel_rfl) (by as_aux_lemma => kernel_rfl) (by as_aux_lemma => kernel_rfl) (fun _ _ _ h => h) (by rfl) (by assumption) ?_
          simp only [List.setIfInBounds_toArray, List.set_cons_zero, List.set_cons_succ]
          refine Ord.skip (i := 6) (d := 23) rfl rfl (by as_aux_lemma => kernel_rfl) (by as_aux_lemma => kernel_rfl) (by as_aux_lemma => kernel_rfl) (fun _ _ _ h => h) (by rfl) (by assumption) ?_
          simp only [List.setIfInBounds_toArray, List.set_cons_zero, List.set_cons_succ]
          refine Ord.skip (i := 7) (d := 24) rfl rfl (by as_aux_lemma => kernel_rfl) (by as_aux_lemma => kernel_rfl) (by as_aux_lemma => kernel_rfl) (fun _ _ _ h => h) (by rfl) (by assumption) ?_
          simp only [List.setIfInBounds_toArray, List.set_cons_zero, List.set_cons_succ]
          refine Ord.skip (i := 8) (d := 25) rfl rfl (by as_aux_lemma => kernel_rfl) (by as_aux_lemma => kernel_rfl) (by as_aux_lemma => kernel_rfl) (fun _ _ _ h => h) (by rfl) (by assumption) ?_
          simp only [List.setIfInBounds_toArray, List.set_cons_zero, List.set_cons_succ]
          refine Ord.skip (i := 9) (d := 26) rfl rfl (by as_aux_lemma => kernel_rfl) (by as_aux_lemma => kernel_rfl) (by as_aux_lemma => kernel_rfl) (fun _ _ _ h => h) (by rfl) (by assumption) ?_
          simp only [List.setIfInBounds_toArray, List.set_cons_zero, List.set_cons_succ]
          refine Ord.skip (i := 10) (d := 27) rfl rfl (by as_aux_lemma => kernel_rfl) (by as_aux_lemma => kernel_rfl) (by as_aux_lemma => kernel_rfl) (fun _ _ _ h => h) (by rfl) (by assumption) ?_
          simp only [List.setIfInBounds_toArray, List.set_cons_zero, List.set_cons_succ]
          refine Ord.take (i := 11) (d := 28) (v := .bool true) rfl rfl (by as_aux_lemma => kernel_rfl) (by as_aux_lemma => kernel_rfl) (by as_aux_lemma => kernel_rfl) (fun _ _ _ h => h) (by rfl) ?hA11 (by assumption) ?_
          case hA11 => intro wx hSw; go_simp; try with_reducible rfl
          try simp only [List.setIfInBounds_toArray, List.set_cons_zero, List.set_cons_succ]
          refine Ord.take (i := 12) (d := 29) (v := .bool true) rfl rfl (by as_aux_lemma => kernel_rfl) (by as_aux_lemma => kernel_rfl) (by as_aux_lemma => kernel_rfl) (fun _ _ _ h => h) (by rfl) ?hA12 (by assumption) ?_
          case hA12 => intro wx hSw; go_simp; try with_reducible rfl
          try simp only [List.setIfInBounds_toArray, List.set_cons_zero, List.set_cons_succ]
          refine Ord.take (i := 13) (d := 30) (v := ?vA13) rfl rfl (by as_aux_lemma => kernel_rfl) (by as_aux_lemma => kernel_rfl) (by as_aux_lemma => kernel_rfl) (fun _ _ _ h => h) (by rfl) ?hA13 (by assumption) ?_
          case hA13 => intro wx hSw; go_simp; try with_reducible rfl
          try simp only [List.setIfInBounds_toArray, List.set_cons_zero, List.set_cons_succ]
          refine Ord.take (i := 14) (d := 31) (v := .agg (mkV m).toArray) rfl rfl (by as_aux_lemma => kernel_rfl) (by as_aux_lemma => kernel_rfl) (by as_aux_lemma => kernel_rfl) (fun _ _ _ h => h) (by rfl) ?hA14 (by assumption) ?_
          case hA14 => intro wx hSw; exact exec_load 45 (.tmp 9) rfl g 0 rfl (run_loadVar_mid wx g 0 45 (mkV m) _ (HR.out _ hSw) Tryd.underlying45 rfl (by rw [HLN.out]; exact Tryd.size45))
          try simp only [List.setIfInBounds_toArray, List.set_cons_zero, List.set_cons_succ]
          refine wpAnyH_ready (rs := [15]) (by as_aux_lemma => kernel_rfl) (by simp) (AllReadyH.cons rfl (fun K hK => ?_) AllReadyH.nil)
          go_simp
          go_simp
          refine (HSL.out v0 hS_v0).mono ?_
          rintro _ v1 ⟨rfl, hb_v1⟩
          have hS_v1 : Below W1.heap.size W1 v1 := Bn hS_v0 hb_v1
          clear hb_v1
          refine hK.out _ _ hS_v1 (fun _ => ?_)
          clear hK K
          try simp only [List.setIfInBounds_toArray, List.set_cons_zero, List.set_cons_succ]
          try simp only [List.setIfInBounds_toArray, List.set_cons_zero, List.set_cons_succ]
          refine Ord.take (i := 16) (d := 33) (v := .bool false) rfl rfl (by as_aux_lemma => kernel_rfl) (by as_aux_lemma => kernel_rfl) (by as_aux_lemma => kernel_rfl) (fun _ _ _ h => h) (by rfl) ?hA16 (by assumption) ?_
          case hA16 => intro wx hSw; go_simp; try with_reducible rfl
          try simp only [List.setIfInBounds_toArray, List.set_cons_zero, List.set_cons_succ]
          refine wpAnyH_done (by as_aux_lemma => kernel_rfl) ?_ _
          have HB9 := hid (Bn HBW.out hS_v1)
          clear hS_v0 hS_v1
          go_wp2
          go_round
          case rel => exact ⟨k + 1, at0, false, by omega, by go_num, rfl, rfl, HQ2.out, HB9.out⟩
          case measure => simp [RowKit.intOf]; omega
        · have HQ2 : Hid (nwR key ms (k + 1) = (k, true)) := by show _ = _; rw [HQ.out]; rfl
          refine wp_region_held_drew (S := fun X => Below W1.heap.size W1 X) (by kernel_rfl) (Below.refl _ _).drew (fun hS_v0 => ?_)
          have hd_v0 : Below W1.heap.size W1 W1.drew := (Below.refl _ _).drew
          generalize W1.drew = v0 at *
          simp only [List.size_toArray, List.length_cons, List.length_nil, Nat.reduceAdd]
          clear hd_v0
          refine Ord.take (i := 0) (d := 17) (v := ?vB0) rfl rfl (by as_aux_lemma => kernel_rfl) (by as_aux_lemma => kernel_rfl) (by as_aux_lemma => kernel_rfl) (fun _ _ _ h => h) (by rfl) ?hB0 (by assumption) ?_
          case hB0 => intro wx hSw; go_simp; try with_reducible rfl
          try simp only [List.setIfInBounds_toArray, List.set_cons_zero, List.set_cons_succ]
          refine Ord.take (i := 1) (d := 18) (v := ?vB1) rfl rfl (by as_aux_lemma => kernel_rfl) (by as_aux_lemma => kernel_rfl) (by as_aux_lemma => kernel_rfl) (fun _ _ _ h => h) (by rfl) ?hB1 (by assumption) ?_
          case hB1 => intro wx hSw; go_simp; try with_reducible rfl
          try simp only [List.setIfInBounds_toArray, List.set_cons_zero, List.set_cons_succ]
          refine Ord.take (i := 2) (d := 19) (v := .bool true) rfl rfl (by as_aux_lemma => kernel_rfl) (by as_aux_lemma => kernel_rfl) (by as_aux_lemma => kernel_rfl) (fun _ _ _ h => h) (by rfl) ?hB2 (by assumption) ?_
          case hB2 => intro wx hSw; go_simp; try with_reducible rfl
          try simp only [List.setIfInBounds_toArray, List.set_cons_zero, List.set_cons_succ]
          refine Ord.skip (i := 3) (d := 20) rfl rfl (by as_aux_lemma => kernel_rfl) (by as_aux_lemma => kernel_rfl) (by as_aux_lemma => kernel_rfl) (fun _ _ _ h => h) (by rfl) (by assumption) ?_
          simp only [List.setIfInBounds_toArray, List.set_cons_zero, List.set_cons_succ]
          refine Ord.skip (i := 4) (d := 21) rfl rfl (by as_aux_lemma => kernel_rfl) (by as_aux_lemma => kernel_rfl) (by as_aux_lemma => kernel_rfl) (fun _ _ _ h => h) (by rfl) (by assumption) ?_
          simp only [List.setIfInBounds_toArray, List.set_cons_zero, List.set_cons_succ]
          refine Ord.skip (i := 5) (d := 22) rfl rfl (by as_aux_lemma => kernel_rfl) (by as_aux_lemma => kernel_rfl) (by as_aux_lemma => kernel_rfl) (fun _ _ _ h => h) (by rfl) (by assumption) ?_
          simp only [List.setIfInBounds_toArray, List.set_cons_zero, List.set_cons_succ]
          refine Ord.skip (i := 6) (d := 23) rfl rfl (by as_aux_lemma => kernel_rfl) (by as_aux_lemma => kernel_rfl) (by as_aux_lemma => kernel_rfl) (fun _ _ _ h => h) (by rfl) (by assumption) ?_
          simp only [List.setIfInBounds_toArray, List.set_cons_zero, List.set_cons_succ]
          refine Ord.skip (i := 7) (d := 24) rfl rfl (by as_aux_lemma => kernel_rfl) (by as_aux_lemma => kernel_rfl) (by as_aux_lemma => kernel_rfl) (fun _ _ _ h => h) (by rfl) (by assumption) ?_
          simp only [List.setIfInBounds_toArray, List.set_cons_zero, List.set_cons_succ]
          refine Ord.skip (i := 8) (d := 25) rfl rfl (by as_aux_lemma => kernel_rfl) (by as_aux_lemma => kernel_rfl) (by as_aux_lemma => kernel_rfl) (fun _ _ _ h => h) (by rfl) (by assumption) ?_
          simp only [List.setIfInBounds_toArray, List.set_cons_zero, List.set_cons_succ]
          refine Ord.skip (i := 9) (d := 26) rfl rfl (by as_aux_lemma => kernel_rfl) (by as_aux_lemma => kernel_rfl) (by as_aux_lemma => kernel_rfl) (fun _ _ _ h => h) (by rfl) (by assumption) ?_
          simp only [List.setIfInBounds_toArray, List.set_cons_zero, List.set_cons_succ]
          refine Ord.skip (i := 10) (d := 27) rfl rfl (by as_aux_lemma => kernel_rfl) (by as_aux_lemma => kernel_rfl) (by as_aux_lemma => kernel_rfl) (fun _ _ _ h => h) (by rfl) (by assumption) ?_
          simp only [List.setIfInBounds_toArray, List.set_cons_zero, List.set_cons_succ]
          refine Ord.take (i := 11) (d := 28) (v := .bool true) rfl rfl (by as_aux_lemma => kernel_rfl) (by as_aux_lemma => kernel_rfl) (by as_aux_lemma => kernel_rfl) (fun _ _ _ h => h) (by rfl) ?hB11 (by assumption) ?_
          case hB11 => intro wx hSw; go_simp; try with_reducible rfl
          try simp only [List.setIfInBounds_toArray, List.set_cons_zero, List.set_cons_succ]
          refine Ord.take (i := 12) (d := 29) (v := .bool true) rfl rfl (by as_aux_lemma => kernel_rfl) (by as_aux_lemma => kernel_rfl) (by as_aux_lemma => kernel_rfl) (fun _ _ _ h => h) (by rfl) ?hB12 (by assumption) ?_
          case hB12 => intro wx hSw; go_simp; try with_reducible rfl
          try simp only [List.setIfInBounds_toArray, List.set_cons_zero, List.set_cons_succ]
          refine Ord.take (i := 13) (d := 30) (v := ?vB13) rfl rfl (by as_aux_lemma => kernel_rfl) (by as_aux_lemma => kernel_rfl) (by as_aux_lemma => kernel_rfl) (fun _ _ _ h => h) (by rfl) ?hB13 (by assumption) ?_
          case hB13 => intro wx hSw; go_simp; try with_reducible rfl
          try simp only [List.setIfInBounds_toArray, List.set_cons_zero, List.set_cons_succ]
          refine Ord.take (i := 14) (d := 31) (v := .agg (mkV m).toArray) rfl rfl (by as_aux_lemma => kernel_rfl) (by as_aux_lemma => kernel_rfl) (by as_aux_lemma => kernel_rfl) (fun _ _ _ h => h) (by rfl) ?hB14 (by assumption) ?_
          case hB14 => intro wx hSw; exact exec_load 45 (.tmp 9) rfl g 0 rfl (run_loadVar_mid wx g 0 45 (mkV m) _ (HR.out _ hSw) Tryd.underlying45 rfl (by rw [HLN.out]; exact Tryd.size45))
          try simp only [List.setIfInBounds_toArray, List.set_cons_zero, List.set_cons_succ]
          refine wpAnyH_ready (rs := [15]) (by as_aux_lemma => kernel_rfl) (by simp) (AllReadyH.cons rfl (fun K hK => ?_) AllReadyH.nil)
          go_simp
          go_simp
          refine (HSL.out v0 hS_v0).mono ?_
          rintro _ v1 ⟨rfl, hb_v1⟩
          have hS_v1 : Below W1.heap.size W1 v1 := Bn hS_v0 hb_v1
          clear hb_v1
          refine hK.out _ _ hS_v1 (fun _ => ?_)
          clear hK K
          try simp only [List.setIfInBounds_toArray, List.set_cons_zero, List.set_cons_succ]
          try simp only [List.setIfInBounds_toArray, List.set_cons_zero, List.set_cons_succ]
          refine Ord.take (i := 16) (d := 33) (v := .bool true) rfl rfl (by as_aux_lemma => kernel_rfl) (by as_aux_lemma => kernel_rfl) (by as_aux_lemma => kernel_rfl) (fun _ _ _ h => h) (by rfl) ?hB16 (by assumption) ?_
          case hB16 => intro wx hSw; go_simp; try with_reducible rfl
          try simp only [List.setIfInBounds_toArray, List.set_cons_zero, List.set_cons_succ]
          refine wpAnyH_done (by as_aux_lemma => kernel_rfl) ?_ _
          have HB9 := hid (Bn HBW.out hS_v1)
          clear hS_v0 hS_v1
          go_wp2
          go_round
          case rel => exact ⟨k + 1, k, true, by omega, by go_num, rfl, rfl, HQ2.out, HB9.out⟩
          case measure => simp [RowKit.intOf]; omega
      · cases nb
        · have HQ2 : Hid (nwR key ms (k + 1) = (at0, true)) := by show _ = _; rw [HST2.out]; simp
          refine wp_region_held_drew (S := fun X => Below W1.heap.size W1 X) (by kernel_rfl) (Below.refl _ _).drew (fun hS_v0 => ?_)
          have hd_v0 : Below W1.heap.size W1 W1.drew := (Below.refl _ _).drew
          generalize W1.drew = v0 at *
          simp only [List.size_toArray, List.length_cons, List.length_nil, Nat.reduceAdd]
          clear hd_v0
          refine Ord.take (i := 0) (d := 17) (v := ?vC0) rfl rfl (by as_aux_lemma => kernel_rfl) (by as_aux_lemma => kernel_rfl) (by as_aux_lemma => kernel_rfl) (fun _ _ _ h => h) (by rfl) ?hC0 (by assumption) ?_
          case hC0 => intro wx hSw; go_simp; try with_reducible rfl
          try simp only [List.setIfInBounds_toArray, List.set_cons_zero, List.set_cons_succ]
          refine Ord.take (i := 1) (d := 18) (v := ?vC1) rfl rfl (by as_aux_lemma => kernel_rfl) (by as_aux_lemma => kernel_rfl) (by as_aux_lemma => kernel_rfl) (fun _ _ _ h => h) (by rfl) ?hC1 (by assumption) ?_
          case hC1 => intro wx hSw; go_simp; try with_reducible rfl
          try simp only [List.setIfInBounds_toArray, List.set_cons_zero, List.set_cons_succ]
          refine Ord.take (i := 2) (d := 19) (v := .bool false) rfl rfl (by as_aux_lemma => kernel_rfl) (by as_aux_lemma => kernel_rfl) (by as_aux_lemma => kernel_rfl) (fun _ _ _ h => h) (by rfl) ?hC2 (by assumption) ?_
          case hC2 => intro wx hSw; go_simp; try with_reducible rfl
          try simp only [List.setIfInBounds_toArray, List.set_cons_zero, List.set_cons_succ]
          refine Ord.take (i := 3) (d := 20) (v := ?vC3) rfl rfl (by as_aux_lemma => kernel_rfl) (by as_aux_lemma => kernel_rfl) (by as_aux_lemma => kernel_rfl) (fun _ _ _ h => h) (by rfl) ?hC3 (by assumption) ?_
          case hC3 => intro wx hSw; go_simp; try with_reducible rfl
          try simp only [List.setIfInBounds_toArray, List.set_cons_zero, List.set_cons_succ]
          refine Ord.take (i := 4) (d := 21) (v := .agg (hdV m.2.1).toArray) rfl rfl (by as_aux_lemma => kernel_rfl) (by as_aux_lemma => kernel_rfl) (by as_aux_lemma => kernel_rfl) (fun _ _ _ h => h) (by rfl) ?hC4 (by assumption) ?_
          case hC4 => intro wx hSw; exact exec_load 27 (.tmp 20) rfl g 1 rfl (run_loadVar_mid wx g 1 27 (hdV m.2.1) _ (HRH.out _ hSw) Tryd.underlying27 rfl (by rw [HHL.out]; exact Tryd.size27h))
          try simp only [List.setIfInBounds_toArray, List.set_cons_zero, List.set_cons_succ]
          refine Ord.take (i := 5) (d := 22) (v := ?vC5) rfl rfl (by as_aux_lemma => kernel_rfl) (by as_aux_lemma => kernel_rfl) (by as_aux_lemma => kernel_rfl) (fun _ _ _ h => h) (by rfl) ?hC5 (by assumption) ?_
          case hC5 => intro wx hSw; go_simp; try with_reducible rfl
          try simp only [List.setIfInBounds_toArray, List.set_cons_zero, List.set_cons_succ]
          refine Ord.take (i := 6) (d := 23) (v := ?vC6) rfl rfl (by as_aux_lemma => kernel_rfl) (by as_aux_lemma => kernel_rfl) (by as_aux_lemma => kernel_rfl) (fun _ _ _ h => h) (by rfl) ?hC6 (by assumption) ?_
          case hC6 => intro wx hSw; go_simp; try with_reducible rfl
          try simp only [List.setIfInBounds_toArray, List.set_cons_zero, List.set_cons_succ]
          refine Ord.take (i := 7) (d := 24) (v := ?vC7) rfl rfl (by as_aux_lemma => kernel_rfl) (by as_aux_lemma => kernel_rfl) (by as_aux_lemma => kernel_rfl) (fun _ _ _ h => h) (by rfl) ?hC7 (by assumption) ?_
          case hC7 => intro wx hSw; go_simp; try with_reducible rfl
          try simp only [List.setIfInBounds_toArray, List.set_cons_zero, List.set_cons_succ]
          refine Ord.take (i := 8) (d := 25) (v := ?vC8) rfl rfl (by as_aux_lemma => kernel_rfl) (by as_aux_lemma => kernel_rfl) (by as_aux_lemma => kernel_rfl) (fun _ _ _ h => h) (by rfl) ?hC8 (by assumption) ?_
          case hC8 => intro wx hSw; go_simp; try with_reducible rfl
          try simp only [List.setIfInBounds_toArray, List.set_cons_zero, List.set_cons_succ]
          refine Ord.take (i := 9) (d := 26) (v := .agg (hdV y.2.1).toArray) rfl rfl (by as_aux_lemma => kernel_rfl) (by as_aux_lemma => kernel_rfl) (by as_aux_lemma => kernel_rfl) (fun _ _ _ h => h) (by rfl) ?hC9 (by assumption) ?_
          case hC9 => intro wx hSw; exact exec_load 27 (.tmp 25) rfl b (off + at0 * 67 + 1) rfl (run_loadVar_mid wx b (off + at0 * 67 + 1) 27 (hdV y.2.1) _ (HYR.out _ hSw) Tryd.underlying27 rfl (by rw [HYL.out]; exact Tryd.size27h))
          try simp only [List.setIfInBounds_toArray, List.set_cons_zero, List.set_cons_succ]
          refine wpAnyH_ready (rs := [10]) (by as_aux_lemma => kernel_rfl) (by simp) (AllReadyH.cons rfl (fun K hK => ?_) AllReadyH.nil)
          go_simp
          go_simp
          refine (HNW.out v0).mono ?_
          rintro _ v1 ⟨rfl, hb_v1⟩
          have hS_v1 : Below W1.heap.size W1 v1 := Bn hS_v0 hb_v1
          clear hb_v1
          refine hK.out _ _ hS_v1 (fun _ => ?_)
          clear hK K
          try simp only [List.setIfInBounds_toArray, List.set_cons_zero, List.set_cons_succ]
          try simp only [List.setIfInBounds_toArray, List.set_cons_zero, List.set_cons_succ]
          refine Ord.take (i := 11) (d := 28) (v := .bool false) rfl rfl (by as_aux_lemma => kernel_rfl) (by as_aux_lemma => kernel_rfl) (by as_aux_lemma => kernel_rfl) (fun _ _ _ h => h) (by rfl) ?hC11 (by assumption) ?_
          case hC11 => intro wx hSw; go_simp; try with_reducible rfl
          try simp only [List.setIfInBounds_toArray, List.set_cons_zero, List.set_cons_succ]
          refine Ord.take (i := 12) (d := 29) (v := .bool false) rfl rfl (by as_aux_lemma => kernel_rfl) (by as_aux_lemma => kernel_rfl) (by as_aux_lemma => kernel_rfl) (fun _ _ _ h => h) (by rfl) ?hC12 (by assumption) ?_
          case hC12 => intro wx hSw; go_simp; try with_reducible rfl
          try simp only [List.setIfInBounds_toArray, List.set_cons_zero, List.set_cons_succ]
          refine Ord.skip (i := 13) (d := 30) rfl rfl (by as_aux_lemma => kernel_rfl) (by as_aux_lemma => kernel_rfl) (by as_aux_lemma => kernel_rfl) (fun _ _ _ h => h) (by rfl) (by assumption) ?_
          simp only [List.setIfInBounds_toArray, List.set_cons_zero, List.set_cons_succ]
          refine Ord.skip (i := 14) (d := 31) rfl rfl (by as_aux_lemma => kernel_rfl) (by as_aux_lemma => kernel_rfl) (by as_aux_lemma => kernel_rfl) (fun _ _ _ h => h) (by rfl) (by assumption) ?_
          simp only [List.setIfInBounds_toArray, List.set_cons_zero, List.set_cons_succ]
          refine Ord.skip (i := 15) (d := 32) rfl rfl (by as_aux_lemma => kernel_rfl) (by as_aux_lemma => kernel_rfl) (by as_aux_lemma => kernel_rfl) (fun _ _ _ h => h) (by rfl) (by assumption) ?_
          simp only [List.setIfInBounds_toArray, List.set_cons_zero, List.set_cons_succ]
          refine Ord.take (i := 16) (d := 33) (v := .bool false) rfl rfl (by as_aux_lemma => kernel_rfl) (by as_aux_lemma => kernel_rfl) (by as_aux_lemma => kernel_rfl) (fun _ _ _ h => h) (by rfl) ?hC16 (by assumption) ?_
          case hC16 => intro wx hSw; go_simp; try with_reducible rfl
          try simp only [List.setIfInBounds_toArray, List.set_cons_zero, List.set_cons_succ]
          refine wpAnyH_done (by as_aux_lemma => kernel_rfl) ?_ _
          have HB9 := hid (Bn HBW.out hS_v1)
          clear hS_v0 hS_v1
          go_wp2
          go_round
          case rel => exact ⟨k + 1, at0, true, by omega, by go_num, rfl, rfl, HQ2.out, HB9.out⟩
          case measure => simp [RowKit.intOf]; omega
        · have HQ : Hid (nwR key ms (k + 1) = if sb = true then (k, true) else (at0, true)) := by show _ = _; rw [HST2.out]; simp
          clear HST2
          cases sb
          · have HQ2 : Hid (nwR key ms (k + 1) = (at0, true)) := by show _ = _; rw [HQ.out]; rfl
            refine wp_region_held_drew (S := fun X => Below W1.heap.size W1 X) (by kernel_rfl) (Below.refl _ _).drew (fun hS_v0 => ?_)
            have hd_v0 : Below W1.heap.size W1 W1.drew := (Below.refl _ _).drew
            generalize W1.drew = v0 at *
            simp only [List.size_toArray, List.length_cons, List.length_nil, Nat.reduceAdd]
            clear hd_v0
            refine Ord.take (i := 0) (d := 17) (v := ?vD0) rfl rfl (by as_aux_lemma => kernel_rfl) (by as_aux_lemma => kernel_rfl) (by as_aux_lemma => kernel_rfl) (fun _ _ _ h => h) (by rfl) ?hD0 (by assumption) ?_
            case hD0 => intro wx hSw; go_simp; try with_reducible rfl
            try simp only [List.setIfInBounds_toArray, List.set_cons_zero, List.set_cons_succ]
            refine Ord.take (i := 1) (d := 18) (v := ?vD1) rfl rfl (by as_aux_lemma => kernel_rfl) (by as_aux_lemma => kernel_rfl) (by as_aux_lemma => kernel_rfl) (fun _ _ _ h => h) (by rfl) ?hD1 (by assumption) ?_
            case hD1 => intro wx hSw; go_simp; try with_reducible rfl
            try simp only [List.setIfInBounds_toArray, List.set_cons_zero, List.set_cons_succ]
            refine Ord.take (i := 2) (d := 19) (v := .bool false) rfl rfl (by as_aux_lemma => kernel_rfl) (by as_aux_lemma => kernel_rfl) (by as_aux_lemma => kernel_rfl) (fun _ _ _ h => h) (by rfl) ?hD2 (by assumption) ?_
            case hD2 => intro wx hSw; go_simp; try with_reducible rfl
            try simp only [List.setIfInBounds_toArray, List.set_cons_zero, List.set_cons_succ]
            refine Ord.take (i := 3) (d := 20) (v := ?vD3) rfl rfl (by as_aux_lemma => kernel_rfl) (by as_aux_lemma => kernel_rfl) (by as_aux_lemma => kernel_rfl) (fun _ _ _ h => h) (by rfl) ?hD3 (by assumption) ?_
            case hD3 => intro wx hSw; go_simp; try with_reducible rfl
            try simp only [List.setIfInBounds_toArray, List.set_cons_zero, List.set_cons_succ]
            refine Ord.take (i := 4) (d := 21) (v := .agg (hdV m.2.1).toArray) rfl rfl (by as_aux_lemma => kernel_rfl) (by as_aux_lemma => kernel_rfl) (by as_aux_lemma => kernel_rfl) (fun _ _ _ h => h) (by rfl) ?hD4 (by assumption) ?_
            case hD4 => intro wx hSw; exact exec_load 27 (.tmp 20) rfl g 1 rfl (run_loadVar_mid wx g 1 27 (hdV m.2.1) _ (HRH.out _ hSw) Tryd.underlying27 rfl (by rw [HHL.out]; exact Tryd.size27h))
            try simp only [List.setIfInBounds_toArray, List.set_cons_zero, List.set_cons_succ]
            refine Ord.take (i := 5) (d := 22) (v := ?vD5) rfl rfl (by as_aux_lemma => kernel_rfl) (by as_aux_lemma => kernel_rfl) (by as_aux_lemma => kernel_rfl) (fun _ _ _ h => h) (by rfl) ?hD5 (by assumption) ?_
            case hD5 => intro wx hSw; go_simp; try with_reducible rfl
            try simp only [List.setIfInBounds_toArray, List.set_cons_zero, List.set_cons_succ]
            refine Ord.take (i := 6) (d := 23) (v := ?vD6) rfl rfl (by as_aux_lemma => kernel_rfl) (by as_aux_lemma => kernel_rfl) (by as_aux_lemma => kernel_rfl) (fun _ _ _ h => h) (by rfl) ?hD6 (by assumption) ?_
            case hD6 => intro wx hSw; go_simp; try with_reducible rfl
            try simp only [List.setIfInBounds_toArray, List.set_cons_zero, List.set_cons_succ]
            refine Ord.take (i := 7) (d := 24) (v := ?vD7) rfl rfl (by as_aux_lemma => kernel_rfl) (by as_aux_lemma => kernel_rfl) (by as_aux_lemma => kernel_rfl) (fun _ _ _ h => h) (by rfl) ?hD7 (by assumption) ?_
            case hD7 => intro wx hSw; go_simp; try with_reducible rfl
            try simp only [List.setIfInBounds_toArray, List.set_cons_zero, List.set_cons_succ]
            refine Ord.take (i := 8) (d := 25) (v := ?vD8) rfl rfl (by as_aux_lemma => kernel_rfl) (by as_aux_lemma => kernel_rfl) (by as_aux_lemma => kernel_rfl) (fun _ _ _ h => h) (by rfl) ?hD8 (by assumption) ?_
            case hD8 => intro wx hSw; go_simp; try with_reducible rfl
            try simp only [List.setIfInBounds_toArray, List.set_cons_zero, List.set_cons_succ]
            refine Ord.take (i := 9) (d := 26) (v := .agg (hdV y.2.1).toArray) rfl rfl (by as_aux_lemma => kernel_rfl) (by as_aux_lemma => kernel_rfl) (by as_aux_lemma => kernel_rfl) (fun _ _ _ h => h) (by rfl) ?hD9 (by assumption) ?_
            case hD9 => intro wx hSw; exact exec_load 27 (.tmp 25) rfl b (off + at0 * 67 + 1) rfl (run_loadVar_mid wx b (off + at0 * 67 + 1) 27 (hdV y.2.1) _ (HYR.out _ hSw) Tryd.underlying27 rfl (by rw [HYL.out]; exact Tryd.size27h))
            try simp only [List.setIfInBounds_toArray, List.set_cons_zero, List.set_cons_succ]
            refine wpAnyH_ready (rs := [10]) (by as_aux_lemma => kernel_rfl) (by simp) (AllReadyH.cons rfl (fun K hK => ?_) AllReadyH.nil)
            go_simp
            go_simp
            refine (HNW.out v0).mono ?_
            rintro _ v1 ⟨rfl, hb_v1⟩
            have hS_v1 : Below W1.heap.size W1 v1 := Bn hS_v0 hb_v1
            clear hb_v1
            refine hK.out _ _ hS_v1 (fun _ => ?_)
            clear hK K
            try simp only [List.setIfInBounds_toArray, List.set_cons_zero, List.set_cons_succ]
            try simp only [List.setIfInBounds_toArray, List.set_cons_zero, List.set_cons_succ]
            refine Ord.take (i := 11) (d := 28) (v := .bool true) rfl rfl (by as_aux_lemma => kernel_rfl) (by as_aux_lemma => kernel_rfl) (by as_aux_lemma => kernel_rfl) (fun _ _ _ h => h) (by rfl) ?hD11 (by assumption) ?_
            case hD11 => intro wx hSw; go_simp; try with_reducible rfl
            try simp only [List.setIfInBounds_toArray, List.set_cons_zero, List.set_cons_succ]
            refine Ord.take (i := 12) (d := 29) (v := .bool true) rfl rfl (by as_aux_lemma => kernel_rfl) (by as_aux_lemma => kernel_rfl) (by as_aux_lemma => kernel_rfl) (fun _ _ _ h => h) (by rfl) ?hD12 (by assumption) ?_
            case hD12 => intro wx hSw; go_simp; try with_reducible rfl
            try simp only [List.setIfInBounds_toArray, List.set_cons_zero, List.set_cons_succ]
            refine Ord.take (i := 13) (d := 30) (v := ?vD13) rfl rfl (by as_aux_lemma => kernel_rfl) (by as_aux_lemma => kernel_rfl) (by as_aux_lemma => kernel_rfl) (fun _ _ _ h => h) (by rfl) ?hD13 (by assumption) ?_
            case hD13 => intro wx hSw; go_simp; try with_reducible rfl
            try simp only [List.setIfInBounds_toArray, List.set_cons_zero, List.set_cons_succ]
            refine Ord.take (i := 14) (d := 31) (v := .agg (mkV m).toArray) rfl rfl (by as_aux_lemma => kernel_rfl) (by as_aux_lemma => kernel_rfl) (by as_aux_lemma => kernel_rfl) (fun _ _ _ h => h) (by rfl) ?hD14 (by assumption) ?_
            case hD14 => intro wx hSw; exact exec_load 45 (.tmp 9) rfl g 0 rfl (run_loadVar_mid wx g 0 45 (mkV m) _ (HR.out _ hSw) Tryd.underlying45 rfl (by rw [HLN.out]; exact Tryd.size45))
            try simp only [List.setIfInBounds_toArray, List.set_cons_zero, List.set_cons_succ]
            refine wpAnyH_ready (rs := [15]) (by as_aux_lemma => kernel_rfl) (by simp) (AllReadyH.cons rfl (fun K hK => ?_) AllReadyH.nil)
            go_simp
            go_simp
            refine (HSL.out v1 hS_v1).mono ?_
            rintro _ v2 ⟨rfl, hb_v2⟩
            have hS_v2 : Below W1.heap.size W1 v2 := Bn hS_v1 hb_v2
            clear hb_v2
            refine hK.out _ _ hS_v2 (fun _ => ?_)
            clear hK K
            try simp only [List.setIfInBounds_toArray, List.set_cons_zero, List.set_cons_succ]
            try simp only [List.setIfInBounds_toArray, List.set_cons_zero, List.set_cons_succ]
            refine Ord.take (i := 16) (d := 33) (v := .bool false) rfl rfl (by as_aux_lemma => kernel_rfl) (by as_aux_lemma => kernel_rfl) (by as_aux_lemma => kernel_rfl) (fun _ _ _ h => h) (by rfl) ?hD16 (by assumption) ?_
            case hD16 => intro wx hSw; go_simp; try with_reducible rfl
            try simp only [List.setIfInBounds_toArray, List.set_cons_zero, List.set_cons_succ]
            refine wpAnyH_done (by as_aux_lemma => kernel_rfl) ?_ _
            have HB9 := hid (Bn HBW.out hS_v2)
            clear hS_v0 hS_v1 hS_v2
            go_wp2
            go_round
            case rel => exact ⟨k + 1, at0, true, by omega, by go_num, rfl, rfl, HQ2.out, HB9.out⟩
            case measure => simp [RowKit.intOf]; omega
          · have HQ2 : Hid (nwR key ms (k + 1) = (k, true)) := by show _ = _; rw [HQ.out]; rfl
            refine wp_region_held_drew (S := fun X => Below W1.heap.size W1 X) (by kernel_rfl) (Below.refl _ _).drew (fun hS_v0 => ?_)
            have hd_v0 : Below W1.heap.size W1 W1.drew := (Below.refl _ _).drew
            generalize W1.drew = v0 at *
            simp only [List.size_toArray, List.length_cons, List.length_nil, Nat.reduceAdd]
            clear hd_v0
            refine Ord.take (i := 0) (d := 17) (v := ?vE0) rfl rfl (by as_aux_lemma => kernel_rfl) (by as_aux_lemma => kernel_rfl) (by as_aux_lemma => kernel_rfl) (fun _ _ _ h => h) (by rfl) ?hE0 (by assumption) ?_
            case hE0 => intro wx hSw; go_simp; try with_reducible rfl
            try simp only [List.setIfInBounds_toArray, List.set_cons_zero, List.set_cons_succ]
            refine Ord.take (i := 1) (d := 18) (v := ?vE1) rfl rfl (by as_aux_lemma => kernel_rfl) (by as_aux_lemma => kernel_rfl) (by as_aux_lemma => kernel_rfl) (fun _ _ _ h => h) (by rfl) ?hE1 (by assumption) ?_
            case hE1 => intro wx hSw; go_simp; try with_reducible rfl
            try simp only [List.setIfInBounds_toArray, List.set_cons_zero, List.set_cons_succ]
            refine Ord.take (i := 2) (d := 19) (v := .bool false) rfl rfl (by as_aux_lemma => kernel_rfl) (by as_aux_lemma => kernel_rfl) (by as_aux_lemma => kernel_rfl) (fun _ _ _ h => h) (by rfl) ?hE2 (by assumption) ?_
            case hE2 => intro wx hSw; go_simp; try with_reducible rfl
            try simp only [List.setIfInBounds_toArray, List.set_cons_zero, List.set_cons_succ]
            refine Ord.take (i := 3) (d := 20) (v := ?vE3) rfl rfl (by as_aux_lemma => kernel_rfl) (by as_aux_lemma => kernel_rfl) (by as_aux_lemma => kernel_rfl) (fun _ _ _ h => h) (by rfl) ?hE3 (by assumption) ?_
            case hE3 => intro wx hSw; go_simp; try with_reducible rfl
            try simp only [List.setIfInBounds_toArray, List.set_cons_zero, List.set_cons_succ]
            refine Ord.take (i := 4) (d := 21) (v := .agg (hdV m.2.1).toArray) rfl rfl (by as_aux_lemma => kernel_rfl) (by as_aux_lemma => kernel_rfl) (by as_aux_lemma => kernel_rfl) (fun _ _ _ h => h) (by rfl) ?hE4 (by assumption) ?_
            case hE4 => intro wx hSw; exact exec_load 27 (.tmp 20) rfl g 1 rfl (run_loadVar_mid wx g 1 27 (hdV m.2.1) _ (HRH.out _ hSw) Tryd.underlying27 rfl (by rw [HHL.out]; exact Tryd.size27h))
            try simp only [List.setIfInBounds_toArray, List.set_cons_zero, List.set_cons_succ]
            refine Ord.take (i := 5) (d := 22) (v := ?vE5) rfl rfl (by as_aux_lemma => kernel_rfl) (by as_aux_lemma => kernel_rfl) (by as_aux_lemma => kernel_rfl) (fun _ _ _ h => h) (by rfl) ?hE5 (by assumption) ?_
            case hE5 => intro wx hSw; go_simp; try with_reducible rfl
            try simp only [List.setIfInBounds_toArray, List.set_cons_zero, List.set_cons_succ]
            refine Ord.take (i := 6) (d := 23) (v := ?vE6) rfl rfl (by as_aux_lemma => kernel_rfl) (by as_aux_lemma => kernel_rfl) (by as_aux_lemma => kernel_rfl) (fun _ _ _ h => h) (by rfl) ?hE6 (by assumption) ?_
            case hE6 => intro wx hSw; go_simp; try with_reducible rfl
            try simp only [List.setIfInBounds_toArray, List.set_cons_zero, List.set_cons_succ]
            refine Ord.take (i := 7) (d := 24) (v := ?vE7) rfl rfl (by as_aux_lemma => kernel_rfl) (by as_aux_lemma => kernel_rfl) (by as_aux_lemma => kernel_rfl) (fun _ _ _ h => h) (by rfl) ?hE7 (by assumption) ?_
            case hE7 => intro wx hSw; go_simp; try with_reducible rfl
            try simp only [List.setIfInBounds_toArray, List.set_cons_zero, List.set_cons_succ]
            refine Ord.take (i := 8) (d := 25) (v := ?vE8) rfl rfl (by as_aux_lemma => kernel_rfl) (by as_aux_lemma => kernel_rfl) (by as_aux_lemma => kernel_rfl) (fun _ _ _ h => h) (by rfl) ?hE8 (by assumption) ?_
            case hE8 => intro wx hSw; go_simp; try with_reducible rfl
            try simp only [List.setIfInBounds_toArray, List.set_cons_zero, List.set_cons_succ]
            refine Ord.take (i := 9) (d := 26) (v := .agg (hdV y.2.1).toArray) rfl rfl (by as_aux_lemma => kernel_rfl) (by as_aux_lemma => kernel_rfl) (by as_aux_lemma => kernel_rfl) (fun _ _ _ h => h) (by rfl) ?hE9 (by assumption) ?_
            case hE9 => intro wx hSw; exact exec_load 27 (.tmp 25) rfl b (off + at0 * 67 + 1) rfl (run_loadVar_mid wx b (off + at0 * 67 + 1) 27 (hdV y.2.1) _ (HYR.out _ hSw) Tryd.underlying27 rfl (by rw [HYL.out]; exact Tryd.size27h))
            try simp only [List.setIfInBounds_toArray, List.set_cons_zero, List.set_cons_succ]
            refine wpAnyH_ready (rs := [10]) (by as_aux_lemma => kernel_rfl) (by simp) (AllReadyH.cons rfl (fun K hK => ?_) AllReadyH.nil)
            go_simp
            go_simp
            refine (HNW.out v0).mono ?_
            rintro _ v1 ⟨rfl, hb_v1⟩
            have hS_v1 : Below W1.heap.size W1 v1 := Bn hS_v0 hb_v1
            clear hb_v1
            refine hK.out _ _ hS_v1 (fun _ => ?_)
            clear hK K
            try simp only [List.setIfInBounds_toArray, List.set_cons_zero, List.set_cons_succ]
            try simp only [List.setIfInBounds_toArray, List.set_cons_zero, List.set_cons_succ]
            refine Ord.take (i := 11) (d := 28) (v := .bool true) rfl rfl (by as_aux_lemma => kernel_rfl) (by as_aux_lemma => kernel_rfl) (by as_aux_lemma => kernel_rfl) (fun _ _ _ h => h) (by rfl) ?hE11 (by assumption) ?_
            case hE11 => intro wx hSw; go_simp; try with_reducible rfl
            try simp only [List.setIfInBounds_toArray, List.set_cons_zero, List.set_cons_succ]
            refine Ord.take (i := 12) (d := 29) (v := .bool true) rfl rfl (by as_aux_lemma => kernel_rfl) (by as_aux_lemma => kernel_rfl) (by as_aux_lemma => kernel_rfl) (fun _ _ _ h => h) (by rfl) ?hE12 (by assumption) ?_
            case hE12 => intro wx hSw; go_simp; try with_reducible rfl
            try simp only [List.setIfInBounds_toArray, List.set_cons_zero, List.set_cons_succ]
            refine Ord.take (i := 13) (d := 30) (v := ?vE13) rfl rfl (by as_aux_lemma => kernel_rfl) (by as_aux_lemma => kernel_rfl) (by as_aux_lemma => kernel_rfl) (fun _ _ _ h => h) (by rfl) ?hE13 (by assumption) ?_
            case hE13 => intro wx hSw; go_simp; try with_reducible rfl
            try simp only [List.setIfInBounds_toArray, List.set_cons_zero, List.set_cons_succ]
            refine Ord.take (i := 14) (d := 31) (v := .agg (mkV m).toArray) rfl rfl (by as_aux_lemma => kernel_rfl) (by as_aux_lemma => kernel_rfl) (by as_aux_lemma => kernel_rfl) (fun _ _ _ h => h) (by rfl) ?hE14 (by assumption) ?_
            case hE14 => intro wx hSw; exact exec_load 45 (.tmp 9) rfl g 0 rfl (run_loadVar_mid wx g 0 45 (mkV m) _ (HR.out _ hSw) Tryd.underlying45 rfl (by rw [HLN.out]; exact Tryd.size45))
            try simp only [List.setIfInBounds_toArray, List.set_cons_zero, List.set_cons_succ]
            refine wpAnyH_ready (rs := [15]) (by as_aux_lemma => kernel_rfl) (by simp) (AllReadyH.cons rfl (fun K hK => ?_) AllReadyH.nil)
            go_simp
            go_simp
            refine (HSL.out v1 hS_v1).mono ?_
            rintro _ v2 ⟨rfl, hb_v2⟩
            have hS_v2 : Below W1.heap.size W1 v2 := Bn hS_v1 hb_v2
            clear hb_v2
            refine hK.out _ _ hS_v2 (fun _ => ?_)
            clear hK K
            try simp only [List.setIfInBounds_toArray, List.set_cons_zero, List.set_cons_succ]
            try simp only [List.setIfInBounds_toArray, List.set_cons_zero, List.set_cons_succ]
            refine Ord.take (i := 16) (d := 33) (v := .bool true) rfl rfl (by as_aux_lemma => kernel_rfl) (by as_aux_lemma => kernel_rfl) (by as_aux_lemma => kernel_rfl) (fun _ _ _ h => h) (by rfl) ?hE16 (by assumption) ?_
            case hE16 => intro wx hSw; go_simp; try with_reducible rfl
            try simp only [List.setIfInBounds_toArray, List.set_cons_zero, List.set_cons_succ]
            refine wpAnyH_done (by as_aux_lemma => kernel_rfl) ?_ _
            have HB9 := hid (Bn HBW.out hS_v2)
            clear hS_v0 hS_v1 hS_v2
            go_wp2
            go_round
            case rel => exact ⟨k + 1, k, true, by omega, by go_num, rfl, rfl, HQ2.out, HB9.out⟩
            case measure => simp [RowKit.intOf]; omega
    · have hkm : k = mn := by omega
      subst hkm
      have HF : Hid (R = (at0, fd)) := by show _ = _; rw [HRR.out, HK.out]
      go_wp2
      go_ret2
      exact ⟨by rw [HF.out]; try rfl, HB.out⟩
end Go.Proofs.YtplinkmagnihmaaDoor
namespace Go.Proofs.YtplinkmagnihmaaDoor
open Go.ChangeShapes Go.WideShapes Go.ChangeAt Go.RowKit Go.Deep Go.Lib

theorem new_eq (x y : Hd) : newB x y = (decide (y.1 < x.1) || (decide (x.1 = y.1) && decide (y.2.1 < x.2.1))) := by
  unfold newB orI orI orI cmpI
  by_cases h1 : x.1 < y.1
  · rw [if_pos h1, if_neg (by decide), decide_eq_false (show ¬ y.1 < x.1 by omega), decide_eq_false (show ¬ x.1 = y.1 by omega)]
    rfl
  · rw [if_neg h1]
    by_cases h2 : y.1 < x.1
    · rw [if_pos h2, if_neg (by decide), decide_eq_true h2]
      rfl
    · rw [if_neg h2, if_pos rfl, decide_eq_false h2, decide_eq_true (show x.1 = y.1 by omega)]
      by_cases h3 : x.2.1 < y.2.1
      · rw [if_pos h3, if_neg (by decide), decide_eq_false (show ¬ y.2.1 < x.2.1 by omega)]
        rfl
      · rw [if_neg h3]
        by_cases h4 : y.2.1 < x.2.1
        · rw [if_pos h4, if_neg (by decide), decide_eq_true h4]
          rfl
        · rw [if_neg h4, if_pos rfl, decide_eq_false h4]
          rfl
set_option maxHeartbeats 12800000 in
set_option maxRecDepth 100000 in
theorem dnewest_word (ka : Option Addr) (kc : Nat) (key : List Nat) (ma : Option Addr) (mc : Nat) (ms : List Mrk) (w : World) (hk : Sh.Rd w (.slice ka key.length kc) ka kc key) (hkf : key.length ≤ 100000)
    (hm : Rw 67 mkV mkZ w ma mc ms) (hok : ∀ m ∈ ms, MOk m) :
    Calls Tryd.prog 12 #[.slice ka key.length kc, .slice ma ms.length mc] w fun e w' => e = .returned (.tuple #[.int .i64 ((nwR key ms ms.length).1 : Int), .bool (nwR key ms ms.length).2]) ∧ Below w.heap.size w w' := by
  have hroom := hm.room
  have hmost := hm.most
  unfold maxLen at hmost
  have HM := hid hm
  have HKR := hid hk
  have HOK := hid hok
  have HGE := hid (fun i (hi : i < ms.length) => (show MOk (ms.getD i mkZ) from hok _ (by simp [List.getD, List.getElem?_eq_getElem hi])))
  have HLT := hid (fun n => nw_lt key ms n)
  have HST := hid (fun n => show nwR key ms (n + 1) = nwS key ms (nwR key ms n) n from rfl)
  have HN0 : Hid ((nwR key ms 0).1 = 0 ∧ (nwR key ms 0).2 = false) := ⟨rfl, rfl⟩
  have HSE := hid (fun V (m : Mrk) (hm : MOk m) (hV : Below w.heap.size w V) => dsealed_word ka kc key m V (hk.later hV) hkf hm)
  obtain ⟨mn, hmn⟩ : ∃ n, n = ms.length := ⟨_, rfl⟩
  obtain ⟨kn, hkn⟩ : ∃ n, n = key.length := ⟨_, rfl⟩
  rw [← hkn] at HSE
  rw [← hmn] at hroom HGE
  rw [← hmn, ← hkn]
  have HMN := hid hmn
  obtain ⟨R, hR⟩ : ∃ R, R = nwR key ms mn := ⟨_, rfl⟩
  rw [← hR]
  have HRR := hid hR
  clear hk hm hok hmn hkn hkf hR
  have HZ27 := hid Tryd.zero27
  go_enter Tryd.func12, Tryd.ntmps12
  go_wp2
  go_loopw [6, 7, 8] (fun x6 x7 x8 wr => ∃ (k at0 : Nat) (fd : Bool), k ≤ mn ∧ x8 = .int .i64 (k : Int) ∧ x6 = .int .i64 (at0 : Int) ∧ x7 = .bool fd ∧ Hid (nwR key ms k = (at0, fd)) ∧ Hid (Below w.heap.size w wr)) (fun _ _ x8 _ => mn - (RowKit.intOf x8).toNat)
  case atStart => exact ⟨0, 0, false, by omega, rfl, rfl, rfl, rfl, Below.refl _ _⟩
  case round =>
    obtain ⟨k, at0, fd, hk, rfl, rfl, rfl, HK, HB⟩ := hrel
    by_cases hlt : k < mn
    · have hkz : (k : Int) < (mn : Int) := by omega
      have hat : at0 < mn := by
        have := HLT.out k
        rw [HK.out] at this
        have h : at0 = 0 ∨ at0 < k := this
        omega
      have hatz : (at0 : Int) < (mn : Int) := by omega
      obtain ⟨b, off, rfl, hbw, hc⟩ := HM.out.cells (by rw [← HMN.out]; omega)
      have hck := hc k (by rw [← HMN.out]; exact hlt)
      have hca := hc at0 (by rw [← HMN.out]; exact hat)
      have HOM := hid (HGE.out k hlt)
      have HOA := hid (HGE.out at0 hat)
      have HSTK := hid (HST.out k)
      unfold nwS at HSTK
      obtain ⟨m, hmm⟩ : ∃ m, m = ms.getD k mkZ := ⟨_, rfl⟩
      obtain ⟨y, hyy⟩ : ∃ y, y = ms.getD at0 mkZ := ⟨_, rfl⟩
      have HST2 : Hid (nwR key ms (k + 1) = if (sealedB key m && (!fd || newB m.2.1 y.2.1)) = true then (k, true) else (at0, fd)) := by
        show _ = _
        rw [HSTK.out, HK.out, ← hmm, ← hyy]
      rw [← hmm] at hck HOM
      rw [← hyy] at hca HOA
      have HRK := hid (fun V (hV : Below w.heap.size w V) => range_later hck hV hbw)
      have HRA := hid (fun V (hV : Below w.heap.size w V) => range_later hca hV hbw)
      have HR1 := hid (mk_hd (HRK.out wr HB.out))
      have HML := hid (mkV_len HOM.out)
      have HHL := hid (hdV_len HOM.out.hd.len)
      have HYL := hid (hdV_len HOA.out.hd.len)
      obtain ⟨g, hg⟩ : ∃ g, g = wr.heap.size := ⟨_, rfl⟩
      have HGQ := hid hg
      clear hc hck hca hmm hyy HSTK hg hbw
      go_wp2_with (first | refine wpList_load_P rfl 27 _ rfl b (off + k * 67 + 1) rfl (hdV m.2.1) _ HR1.out Tryd.underlying27 rfl (by rw [HHL.out]; exact Tryd.size27h) ?_ | refine wpList_alloc_W rfl 27 rfl (some 9) rfl _ HZ27.out g HGQ.out ?_ | fail)
      intro V3 HG3 HBl3 HS3
      go_wp2_with (first | refine wpList_store_W rfl 27 _ _ rfl rfl g (hdV m.2.1).toArray rfl rfl 27 _ HG3.out (by rw [List.size_toArray, HHL.out]; exact Tryd.size27h) (by simp only [List.size_toArray, HHL.out]; rfl) (all_oneCell_toArray (show ∀ u ∈ hdV m.2.1, u.oneCell' = true from hdL_one _ _ _)) ?_ | fail)
      intro W1 HG4 HGR4 HS4
      have HB4 : Hid (Below wr.heap.size wr W1) := by
        show Below _ _ _
        rw [← HGQ.out]
        exact HBl3.out.trans (bel_grown HGR4.out (Nat.le_refl _) (by rw [HGQ.out]; exact HBl3.out.size))
      have HBW := hid (Bn HB.out HB4.out)
      have HR2 := hid (HRK.out W1 HBW.out)
      clear HG3 HBl3 HS3 HGR4 HS4 HGQ HB4 HR1
      go_wp2_with (first | refine wpList_load_P rfl 45 _ rfl b (off + k * 67) rfl (mkV m) _ HR2.out Tryd.underlying45 rfl (by rw [HML.out]; exact Tryd.size45) ?_ | fail)
      refine (HSE.out W1 m HOM.out HBW.out).mono ?_
      rintro _ W2 ⟨rfl, hb2⟩
      have HB2 := hid (Bn HBW.out hb2)
      have HG2 := hid (blk_later HG4.out hb2)
      have HR3 := hid (mk_hd (HRA.out W2 HB2.out))
      clear hb2 HBW HG4 HR2
      obtain ⟨sb, hsb⟩ : ∃ s, s = sealedB key m := ⟨_, rfl⟩
      rw [← hsb] at HST2 ⊢
      clear hsb
      cases sb
      · have HQ2 : Hid (nwR key ms (k + 1) = (at0, fd)) := by show _ = _; rw [HST2.out]; simp
        clear HST2
        go_wp2
        go_round
        case rel => exact ⟨k + 1, at0, fd, by omega, by go_num, rfl, rfl, HQ2.out, HB2.out⟩
        case measure => simp [RowKit.intOf]; omega
      · obtain ⟨g2, hg2⟩ : ∃ g, g = W2.heap.size := ⟨_, rfl⟩
        have HGQ2 := hid hg2
        clear hg2
        go_wp2_with (first | refine wpList_load_P rfl 27 _ rfl b (off + at0 * 67 + 1) rfl (hdV y.2.1) _ HR3.out Tryd.underlying27 rfl (by rw [HYL.out]; exact Tryd.size27h) ?_ | refine wpList_alloc_W rfl 27 rfl (some 10) rfl _ HZ27.out g2 HGQ2.out ?_ | fail)
        intro V5 HG5 HBl5 HS5
        go_wp2_with (first | refine wpList_store_W rfl 27 _ _ rfl rfl g2 (hdV y.2.1).toArray rfl rfl 27 _ HG5.out (by rw [List.size_toArray, HYL.out]; exact Tryd.size27h) (by simp only [List.size_toArray, HYL.out]; rfl) (all_oneCell_toArray (show ∀ u ∈ hdV y.2.1, u.oneCell' = true from hdL_one _ _ _)) ?_ | fail)
        intro W6 HG6 HGR6 HS6
        have HB56 : Hid (Below W2.heap.size W2 W6) := by
          show Below _ _ _
          rw [← HGQ2.out]
          exact HBl5.out.trans (bel_grown HGR6.out (Nat.le_refl _) (by rw [HGQ2.out]; exact HBl5.out.size))
        have HB6 := hid (Bn HB2.out HB56.out)
        have ca0 := hd_seq (blk_range (blk_later HG2.out HB56.out))
        have ca1 := hd_epoch (blk_range (blk_later HG2.out HB56.out))
        have cb0 := hd_seq (blk_range HG6.out)
        have cb1 := hd_epoch (blk_range HG6.out)
        have HNE := hid (new_eq m.2.1 y.2.1)
        rw [HNE.out] at HST2
        obtain ⟨x0, hx0⟩ : ∃ z, z = m.2.1.1 := ⟨_, rfl⟩
        obtain ⟨x1, hx1⟩ : ∃ z, z = m.2.1.2.1 := ⟨_, rfl⟩
        obtain ⟨y0, hy0⟩ : ∃ z, z = y.2.1.1 := ⟨_, rfl⟩
        obtain ⟨y1, hy1⟩ : ∃ z, z = y.2.1.2.1 := ⟨_, rfl⟩
        rw [← hx0] at ca0 HST2
        rw [← hx1] at ca1 HST2
        rw [← hy0] at cb0 HST2
        rw [← hy1] at cb1 HST2
        clear HG5 HBl5 HS5 HGR6 HS6 HGQ2 HB56 HG2 HG6 hx0 hx1 hy0 hy1 HNE HR3 HB2
        cases fd
        · have HQ2 : Hid (nwR key ms (k + 1) = (k, true)) := by show _ = _; rw [HST2.out]; simp
          clear HST2
          go_wp2
          go_round
          case rel => exact ⟨k + 1, k, true, by omega, by go_num, rfl, rfl, HQ2.out, HB6.out⟩
          case measure => simp [RowKit.intOf]; omega
        · by_cases h1 : y0 < x0
          · have HQ2 : Hid (nwR key ms (k + 1) = (k, true)) := by show _ = _; rw [HST2.out, decide_eq_true h1]; simp
            clear HST2
            go_wp2
            go_round
            case rel => exact ⟨k + 1, k, true, by omega, by go_num, rfl, rfl, HQ2.out, HB6.out⟩
            case measure => simp [RowKit.intOf]; omega
          · by_cases h2 : x0 = y0
            · by_cases h3 : y1 < x1
              · have HQ2 : Hid (nwR key ms (k + 1) = (k, true)) := by show _ = _; rw [HST2.out, decide_eq_true h2, decide_eq_true h3]; simp
                clear HST2
                subst h2
                go_wp2
                go_round
                case rel => exact ⟨k + 1, k, true, by omega, by go_num, rfl, rfl, HQ2.out, HB6.out⟩
                case measure => simp [RowKit.intOf]; omega
              · have HQ2 : Hid (nwR key ms (k + 1) = (at0, true)) := by show _ = _; rw [HST2.out, decide_eq_false h1, decide_eq_false h3]; simp
                clear HST2
                subst h2
                go_wp2
                go_round
                case rel => exact ⟨k + 1, at0, true, by omega, by go_num, rfl, rfl, HQ2.out, HB6.out⟩
                case measure => simp [RowKit.intOf]; omega
            · have HQ2 : Hid (nwR key ms (k + 1) = (at0, true)) := by show _ = _; rw [HST2.out, decide_eq_false h1, decide_eq_false h2]; simp
              clear HST2
              go_wp2
              go_round
              case rel => exact ⟨k + 1, at0, true, by omega, by go_num, rfl, rfl, HQ2.out, HB6.out⟩
              case measure => simp [RowKit.intOf]; omega
    · have hkm : k = mn := by omega
      subst hkm
      have HF : Hid (R = (at0, fd)) := by show _ = _; rw [HRR.out, HK.out]
      go_wp2
      go_ret2
      exact ⟨by rw [HF.out]; try rfl, HB.out⟩
end Go.Proofs.YtplinkmagnihmaaDoor
namespace Go.Proofs.YtplinkmagnihmaaDoor
open Go.ChangeShapes Go.WideShapes Go.ChangeAt Go.RowKit Go.Deep Go.Lib

set_option maxHeartbeats 6400000 in
set_option maxRecDepth 100000 in
theorem chas_word (h : Hd) (a : Option Addr) (cap : Nat) (l : List Rec) (w : World) (hL : Sh.Laid w) (hl : h.2.2.length = 32) (hr : Rr w a cap l) (hn : ∀ r ∈ l, r.ps.length ≤ 1000) :
    Calls Tryd.prog 13 #[.slice a l.length cap, .agg (hdV h).toArray] w fun e w' => e = .returned (.bool (dhasB l h)) ∧ Below w.heap.size w w' := by
  have hB1 := bel_alc w (.cells (hdV h).toArray 27)
  have hbx := heap_alc w (.cells (hdV h).toArray 27)
  have hsz : (w.alloc (.cells (hdV h).toArray 27)).heap.size = w.heap.size + 1 := by simp
  obtain ⟨W1, hW1⟩ : ∃ W1, W1 = w.alloc (.cells (hdV h).toArray 27) := ⟨_, rfl⟩
  rw [← hW1] at hB1 hbx hsz
  have HW1 := hid hW1
  have HB := hid hB1
  have HBX := hid hbx
  have HS1 := hid hsz
  have HLN := hid (hdV_len hl)
  have HRR := hid hr
  have hroom := hr.room
  have hmost := hr.most
  unfold maxLen at hmost
  have c0 : W1.cell? ⟨w.heap.size, 0, none⟩ = some (.int .i64 h.1) := hd_seq (blk_range hbx)
  obtain ⟨q, hq⟩ : ∃ q, q = dhasB l h := ⟨_, rfl⟩
  rw [← hq]
  unfold dhasB at hq
  have HQ := hid hq
  have HH := hid hl
  have HLA := hid hL
  have HN := hid hn
  have HC0 := hid c0
  clear hq hl hr hn hL hW1 hbx hB1 hsz c0
  by_cases h0 : h.1 < 0
  · have HF : Hid (q = false) := by show _ = _; rw [HQ.out, decide_eq_false (by omega)]; rfl
    rw [HF.out]
    have c0 := HC0.out
    obtain ⟨z, hz⟩ : ∃ z, z = h.1 := ⟨_, rfl⟩
    rw [← hz] at h0 c0
    have HZ := hid hz
    clear hz HQ HC0
    rw [HW1.out] at c0
    go_enter Tryd.func13, Tryd.ntmps13
    go_wp2
    go_ret
    exact ⟨rfl, by rw [← HW1.out]; exact HB.out⟩
  · obtain ⟨n, hz⟩ : ∃ n : Nat, h.1 = (n : Int) := ⟨h.1.toNat, by omega⟩
    rw [hz] at HQ HC0
    rw [Int.toNat_natCast] at HQ
    have c0 := HC0.out
    clear HC0 h0
    by_cases hnl : l.length < n
    · have HF : Hid (q = false) := by show _ = _; rw [HQ.out, decide_eq_false (by omega)]; rfl
      rw [HF.out]
      have HZ := hid hz
      clear hz HQ
      rw [HW1.out] at c0
      go_enter Tryd.func13, Tryd.ntmps13
      go_wp2
      go_ret
      exact ⟨rfl, by rw [← HW1.out]; exact HB.out⟩
    · have hsl := fun W => slice_pre a l.length cap n (by omega) W
      obtain ⟨l', hl'⟩ : ∃ l', l' = l.take n := ⟨_, rfl⟩
      rw [← hl'] at HQ
      have hlen : l'.length = n := by rw [hl', List.length_take]; omega
      have HWK := hid (fun V (hV : Below w.heap.size w V) => (show Calls Tryd.prog 28 #[.agg #[.int .i64 0, .int .i64 0, .int .u8 0, .int .u8 0, .int .u8 0, .int .u8 0, .int .u8 0, .int .u8 0, .int .u8 0, .int .u8 0, .int .u8 0, .int .u8 0, .int .u8 0, .int .u8 0, .int .u8 0, .int .u8 0, .int .u8 0, .int .u8 0, .int .u8 0, .int .u8 0, .int .u8 0, .int .u8 0, .int .u8 0, .int .u8 0, .int .u8 0, .int .u8 0, .int .u8 0, .int .u8 0, .int .u8 0, .int .u8 0, .int .u8 0, .int .u8 0, .int .u8 0, .int .u8 0], .slice a n cap] V (fun e w' => e = .returned (.tuple #[.agg (hdV (wlk hdZ l' 0).1).toArray, .int .i64 ((wlk hdZ l' 0).2.1 : Int), .int .i64 (wlk hdZ l' 0).2.2]) ∧ Below V.heap.size V w') from by
        have := walk_word hdZ a cap l' V rfl (by rw [hl']; exact (HRR.out.pre (by omega)).later hV) (HLA.out.later hV) (fun r hr => HN.out r (List.mem_of_mem_take (by rw [← hl']; exact hr)))
        rw [hlen] at this
        exact this))
      have HXL := hid (wlk_len l' hdZ 0 rfl)
      have HF : Hid (q = (decide ((wlk hdZ l' 0).2.2 = 0) && decide ((wlk hdZ l' 0).1 = h))) := by show _ = _; rw [HQ.out, decide_eq_true (by omega)]; rfl
      have HZ := hid hz
      have HLL := hid hlen
      clear hz HQ hl' hlen HN
      obtain ⟨X, hX⟩ : ∃ X, X = (wlk hdZ l' 0).1 := ⟨_, rfl⟩
      obtain ⟨E, hE⟩ : ∃ E, E = (wlk hdZ l' 0).2.2 := ⟨_, rfl⟩
      obtain ⟨K0, hK0⟩ : ∃ K0, K0 = (wlk hdZ l' 0).2.1 := ⟨_, rfl⟩
      rw [← hX, ← hE, ← hK0] at HWK
      rw [← hX, ← hE] at HF
      rw [← hX] at HXL
      clear hX hE hK0
      have HXV := hid (hdV_len HXL.out)
      have HZ27 := hid Tryd.zero27
      rw [HW1.out] at c0
      go_enter Tryd.func13, Tryd.ntmps13
      go_wp2_with fail
      rw [← HW1.out]
      refine (HWK.out W1 HB.out).mono ?_
      rintro _ W2 ⟨rfl, hb2⟩
      have HX2 := hid (blk_later HBX.out hb2)
      have HB2 := hid (Bn HB.out hb2)
      obtain ⟨g2, hg2⟩ : ∃ g2, g2 = W2.heap.size := ⟨_, rfl⟩
      have HGE : Hid (w.heap.size < g2) := by show _ < _; rw [hg2]; have := hb2.size; have := HS1.out; omega
      have HGQ := hid hg2
      clear hb2 c0 hsl HWK hg2
      go_wp2_with (first | refine wpList_alloc_W rfl 27 rfl (some 5) rfl _ HZ27.out g2 HGQ.out ?_ | fail)
      intro W3 HG3 HB3 HS3
      go_wp2_with (first | refine wpList_store_W rfl 27 _ _ rfl rfl g2 (hdV X).toArray rfl rfl 27 _ HG3.out (by rw [List.size_toArray, HXV.out]; exact Tryd.size27) (by simp only [List.size_toArray, HXV.out]; rfl) (all_oneCell_toArray (show ∀ u ∈ hdV X, u.oneCell' = true from hdL_one _ _ _)) ?_ | fail)
      intro W4 HG4 HGR4 HS4
      have HB4 : Hid (Below W2.heap.size W2 W4) := by
        show Below _ _ _
        rw [← HGQ.out]
        exact HB3.out.trans (bel_grown HGR4.out (Nat.le_refl _) (by rw [HGQ.out]; exact HB3.out.size))
      have HX4 := hid (blk_later HX2.out HB4.out)
      have HBB := hid (Bn HB2.out HB4.out)
      have HR4 := hid (blk_range HX4.out)
      have HR5 := hid (blk_range HG4.out)
      clear HG3 HB3 HS3 HGR4 HS4 HB4 HGQ HX2 HX4 HG4
      have hgd := guard55
      by_cases hE : E = 0
      · obtain ⟨p, hp⟩ : ∃ p, p = decide (X = h) := ⟨_, rfl⟩
        have heq : ∀ V, (Op.equalIn 10000 27 (.agg (hdV X).toArray) (.agg (hdV h).toArray)).run Tryd.prog V = .ok p V := fun V => (eq55 X h HXL.out HH.out V).trans (by rw [hp])
        have HP : Hid (q = p) := by show _ = _; rw [HF.out, decide_eq_true hE, hp]; rfl
        clear hp HF
        go_wp2_with (first | refine wpList_load_g rfl 27 _ rfl g2 0 rfl (hdV X) _ HR5.out Tryd.underlying27 rfl (by rw [HXV.out]; exact Tryd.size27) ?_ | refine wpList_load_g rfl 27 _ rfl w.heap.size 0 rfl (hdV h) _ HR4.out Tryd.underlying27 rfl (by rw [HLN.out]; exact Tryd.size27) ?_ | fail)
        go_ret
        exact ⟨(show _ = Ending.returned (Value.bool q) by rw [HP.out]; try rfl), HBB.out⟩
      · have HP : Hid (q = false) := by show _ = _; rw [HF.out, decide_eq_false hE]; rfl
        clear HF
        go_wp2_with fail
        go_ret
        exact ⟨(show _ = Ending.returned (Value.bool q) by rw [HP.out]; try rfl), HBB.out⟩
end Go.Proofs.YtplinkmagnihmaaDoor
