/-
  What is wanted of a file's pieces: the contract of parts.
-/
import Derived.Test.YtcbjlnabbfkkeaaNmI
namespace Go.Proofs.Ytcbjlnabbfkkeaa
open Go.ChangeShapes Go.WideShapes Go.ChangeAt Go.RowKit Go.Deep Go.Lib

theorem list32 (d : List Int) (h : d.length = 32) : ∃ a0 a1 a2 a3 a4 a5 a6 a7 a8 a9 a10 a11 a12 a13 a14 a15 a16 a17 a18 a19 a20 a21 a22 a23 a24 a25 a26 a27 a28 a29 a30 a31 : Int, d = [a0, a1, a2, a3, a4, a5, a6, a7, a8, a9, a10, a11, a12, a13, a14, a15, a16, a17, a18, a19, a20, a21, a22, a23, a24, a25, a26, a27, a28, a29, a30, a31] := by
  match d, h with
  | [a0, a1, a2, a3, a4, a5, a6, a7, a8, a9, a10, a11, a12, a13, a14, a15, a16, a17, a18, a19, a20, a21, a22, a23, a24, a25, a26, a27, a28, a29, a30, a31], _ => exact ⟨_, _, _, _, _, _, _, _, _, _, _, _, _, _, _, _, _, _, _, _, _, _, _, _, _, _, _, _, _, _, _, _, rfl⟩
theorem built64 (n x y : Int) (d : List Int) (h : d.length = 32) : Try.prog.built 64 [(0, .agg (d.map (Value.int .u8)).toArray), (1, .int .i64 n), (2, .int .i64 x), (3, .int .i64 y)] = some (ptC ⟨(d, n), x, y⟩).toArray := by
  obtain ⟨a0, a1, a2, a3, a4, a5, a6, a7, a8, a9, a10, a11, a12, a13, a14, a15, a16, a17, a18, a19, a20, a21, a22, a23, a24, a25, a26, a27, a28, a29, a30, a31, rfl⟩ := list32 d h
  kernel_rfl
theorem Try.info64 : (Try.prog.info? 64).map (fun i => (i.zero, i.size, i.bytes)) = some (some (.agg (ptC ptZ).toArray), 35, 56) := by kernel_rfl

theorem ptC_len {p : Pt} (h : p.x.1.length = 32) : (ptC p).length = 35 := by simp [ptC, pcC, h]
theorem ptC_one (p : Pt) : ∀ u ∈ ptC p, u.oneCell' = true := by
  intro u hu
  simp only [ptC, List.mem_append, List.mem_cons, List.not_mem_nil, or_false] at hu
  rcases hu with hu | rfl | rfl
  · exact pcC_one _ u hu
  · rfl
  · rfl
/-- The parts' pieces are the file's. -/
theorem part_ok (l : List Pc) (h : ∀ x ∈ l, PcOk x) : ∀ (s f t : Int), ∀ p ∈ partL s f t l, p.x.1.length = 32 := by
  induction l with
  | nil => intro s f t p hp; cases hp
  | cons x l ih =>
    intro s f t p hp
    rw [partL, List.mem_append] at hp
    rcases hp with hp | hp
    · split at hp
      · simp only [List.mem_singleton] at hp
        subst hp
        exact (h x (by simp)).len
      · cases hp
    · exact ih (fun y hy => h y (by simp [hy])) _ _ _ p hp
set_option maxHeartbeats 12800000 in
set_option maxRecDepth 100000 in
theorem parts_word (W : World) (f : Fl) (hf : Fok W f) (from_ to_ : Int) (h0 : 0 ≤ from_) (h1 : from_ ≤ to_) (h2 : to_ ≤ f.size) :
    Calls Try.prog 45 #[.agg f.cs.toArray, .int .i64 from_, .int .i64 to_] W fun e w' => ∃ a cap, e = .returned (.slice a (partL 0 from_ to_ f.ps).length cap) ∧ Rw 35 ptC ptZ w' a cap (partL 0 from_ to_ f.ps) ∧ (∀ b off, a = some ⟨b, off, none⟩ → W.heap.size ≤ b) ∧ Below W.heap.size W w' := by
  obtain ⟨i0, hi, hz0, hz1, hz2⟩ := info_parts Try.info64
  have h3 : to_ ≤ 1048576 := Int.le_trans h2 hf.most
  have HB1 := bel_alc W (.cells f.cs.toArray 77)
  have s1 : (W.alloc (.cells f.cs.toArray 77)).heap.size = W.heap.size + 1 := by simp
  have HB2 := (bel_alc (W.alloc (.cells f.cs.toArray 77)) (.cells #[.int .i64 from_] 3))
  have g1 := blk_later (heap_alc W (.cells f.cs.toArray 77)) HB2
  have g2 := heap_alc (W.alloc (.cells f.cs.toArray 77)) (.cells #[.int .i64 from_] 3)
  rw [s1] at g2
  have hbw := HB1.trans (HB2.mono (by rw [s1]; omega))
  obtain ⟨W2, hW2⟩ : ∃ W2, W2 = (W.alloc (.cells f.cs.toArray 77)).alloc (.cells #[.int .i64 from_] 3) := ⟨_, rfl⟩
  have hs2 : W2.heap.size = W.heap.size + 2 := by rw [hW2]; simp
  rw [← hW2] at g1 g2 hbw
  have HS2 := hid hs2
  have HBW := hid hbw
  have HFB := hid g1
  have HIB := hid g2
  have HF := hid (hf.later hbw)
  have HW2 := hid hW2
  have c4 : ((W.alloc (.cells f.cs.toArray 77)).alloc (.cells #[.int .i64 from_] 3)).cell? ⟨W.heap.size, 4, none⟩ = some (.slice f.e f.ps.length f.ecap) := by rw [← hW2]; exact (Joins.cell_of_block g1 4).trans rfl
  have HSE := hid (search_word W2 W.heap.size (W.heap.size + 1) f from_ g1 ((Joins.cell_of_block g2 0).trans rfl) HF.out.ends hf.few)
  obtain ⟨l, hl⟩ : ∃ l, l = f.ps := ⟨_, rfl⟩
  rw [← hl] at HSE c4 ⊢
  have HNK : Hid (l.all nOk = true) := by rw [hl]; exact hf.nok
  obtain ⟨fa, hfa⟩ : ∃ x, x = f.a := ⟨_, rfl⟩
  obtain ⟨fe, hfe⟩ : ∃ x, x = f.e := ⟨_, rfl⟩
  have HRP : Hid (Rp W fa f.cap l) := by rw [hl, hfa]; exact hf.row
  have HRE : Hid (Ri W .i64 fe f.ecap (endsL 0 l)) := by rw [hl, hfe]; exact hf.ends
  have HTO : Hid (to_ ≤ sumP l) := by rw [hl, ← hf.size]; exact h2
  obtain ⟨len, hle⟩ : ∃ n, n = l.length := ⟨_, rfl⟩
  have HL := hid hle
  have hn4 : len ≤ 4096 := by rw [hle, hl]; exact hf.few
  rw [← hle] at HSE c4
  obtain ⟨L, hLL⟩ : ∃ L, L = partL 0 from_ to_ l := ⟨_, rfl⟩
  have HLE := hid hLL
  have HPO : Hid (∀ p ∈ L, p.x.1.length = 32) := by rw [hLL]; exact part_ok l HRP.out.fits _ _ _
  have HLS : Hid (L.length ≤ 100000) := by
    have hpl : ∀ (m : List Pc) (s : Int), (partL s from_ to_ m).length ≤ m.length := by
      intro m
      induction m with
      | nil => intro s; simp [partL]
      | cons x m ih =>
        intro s
        have := ih (s + x.2)
        rw [partL, List.length_append, List.length_cons]
        split <;> simp <;> omega
    have := hpl l 0
    show _ ≤ _
    rw [hLL]
    omega
  rw [← hLL]
  have HFL : Hid ((f.cs.toArray : Array Value) = #[.string f.path, .int .i64 f.size, .int .i64 f.seq, .slice fa len f.cap, .slice fe len f.ecap]) := by show _ = _; rw [hle, hl, hfa, hfe]; rfl
  have HFB' : Hid (W2.heap[W.heap.size]? = some (.cells #[.string f.path, .int .i64 f.size, .int .i64 f.seq, .slice fa len f.cap, .slice fe len f.ecap] 77)) := by show _ = _; rw [← HFL.out]; exact HFB.out
  clear hf h2 HB1 HB2 s1 g1 g2 hbw hW2 hs2 hl hle hLL HF HFB hfa hfe
  go_enter Try.func45, Try.ntmps45
  go_wp2_with fail
  rw [← HW2.out]
  refine HSE.out.mono ?_
  rintro _ W3' ⟨k0, rfl, hk0, hk1, hk2, m, hw3⟩
  have HBm : Below W2.heap.size W2 W3' := by rw [hw3]; exact bel_drewN (Below.refl _ _) m
  obtain ⟨W3, hW3⟩ : ∃ W3, W3 = W3' := ⟨_, rfl⟩
  rw [← hW3] at HBm ⊢
  have HB3 := hid HBm
  have HK1 := hid hk1
  have HK2 := hid hk2
  have HI3 := hid (blk_later HIB.out HBm)
  have HF3 := hid (blk_later HFB'.out HBm)
  clear HBm hw3 hW3 hk1 hk2 c4 HSE HIB HFB'
  go_wp2
  go_loopw [7, 8] (fun x7 x8 wr => ∃ (k : Nat) (fr : Int) (acc : List Pt), x7 = .int .i64 (k : Int) ∧ k ≤ len ∧ 0 ≤ fr ∧ fr ≤ 1048576 ∧ Hid (wr.heap[W.heap.size + 1]? = some (.cells #[.int .i64 fr] 3)) ∧ Hid (wr.heap[W.heap.size]? = some (.cells #[.string f.path, .int .i64 f.size, .int .i64 f.seq, .slice fa len f.cap, .slice fe len f.ecap] 77)) ∧ Hid (wr.ownsRow (W.heap.size + 2) 64 35 x8 acc.length (acc.flatMap ptC)) ∧ Hid (Below W.heap.size W wr) ∧ Hid (W.heap.size + 2 ≤ wr.heap.size) ∧ Hid (acc ++ partL (sumP (l.take k)) fr to_ (l.drop k) = L) ∧ Hid (fr < to_ → k < len ∧ sumP (l.take k) ≤ fr ∧ fr < sumP (l.take (k + 1)))) (fun x7 _ _ => len - (intOf x7).toNat)
  case atStart =>
    refine ⟨k0, from_, [], rfl, hk0, h0, by omega, HI3.out, HF3.out, World.ownsRow_nil _ _ _ _, HBW.out.trans (HB3.out.mono HBW.out.size), by have := HB3.out.size; have := HS2.out; show _ ≤ _; omega, ?_, fun hlt => ?_⟩
    · show [] ++ _ = _
      rw [List.nil_append, HLE.out, ← part_skip l from_ to_ k0 (by rw [← HL.out]; exact hk0) ?_ HNK.out]
      by_cases h : k0 = 0
      · exact .inl h
      · exact .inr (HK1.out (by omega))
    · have hk : k0 < len := by
        by_cases h : k0 < len
        · exact h
        · exfalso
          have e : k0 = len := by omega
          have h4 := HTO.out
          by_cases h5 : len = 0
          · have : l = [] := List.length_eq_zero_iff.1 (by rw [← HL.out]; exact h5)
            rw [this] at h4
            simp [sumP] at h4
            omega
          · have h6 := HK1.out (by omega)
            rw [List.take_of_length_le (by rw [← HL.out]; omega)] at h6
            omega
      refine ⟨hk, ?_, HK2.out hk⟩
      by_cases h : k0 = 0
      · rw [h]; simpa [sumP] using h0
      · exact HK1.out (by omega)
  case round =>
    obtain ⟨k, fr, acc, rfl, hk, hf0, hf1, HI, HFW, HO, HB, HSZ, HACC, HINV⟩ := hrel
    clear HI3 HF3 HB3 HK1 HK2
    have ci : wr.cell? ⟨W.heap.size + 1, 0, none⟩ = some (.int .i64 fr) := (Joins.cell_of_block HI.out 0).trans rfl
    by_cases hlt : fr < to_
    · obtain ⟨hkl, hs1, hs2⟩ := HINV.out hlt
      have HKL := hid hkl
      have hst := part_step l fr to_ k (by rw [← HL.out]; exact hkl) HNK.out hs1 hs2 hlt
      have HST := hid hst
      have hsx := sumP_take l k (by rw [← HL.out]; exact hkl)
      have hpk := HRP.out.get (j := k) (by rw [← HL.out]; exact hkl)
      have hnk : nOk (l.getD k pc0) = true := List.all_eq_true.1 HNK.out _ (by simp [List.getD, List.getElem?_eq_getElem (show k < l.length by rw [← HL.out]; exact hkl)])
      have hx : 1 ≤ (l.getD k pc0).2 ∧ (l.getD k pc0).2 ≤ 4096 := of_decide_eq_true hnk
      obtain ⟨b, off, hab, hbb, hcb⟩ := HRP.out.cells (by rw [← HL.out]; omega)
      obtain ⟨be, oe, hae, hbe, hce⟩ := HRE.out.cells (by rw [ends_len, ← HL.out]; omega)
      have hce2 := hce k (by rw [ends_len, ← HL.out]; exact hkl)
      rw [ends_at _ _ _ (by rw [← HL.out]; exact hkl), Int.zero_add] at hce2
      have hcb2 := hcb k (by rw [← HL.out]; exact hkl)
      generalize l.getD k pc0 = x at *
      have hx1 := hx.1
      have hx2 := hx.2
      subst hab
      subst hae
      have HXL := hid hpk.len
      have HROOM := HRP.out.room
      have HROOM2 := HRE.out.room
      rw [ends_len, ← HL.out] at HROOM2
      rw [← HL.out] at HROOM
      have hm1 := HRP.out.most
      have hm2 := HRE.out.most
      unfold maxLen at hm1 hm2
      have hkz : (k : Int) < (len : Int) := by omega
      have HR59 : Hid (wr.rangeAt b (off + k * 33) (pcC x)) := fun j v hv => (HB.out.cell (p := ⟨b, off + k * 33 + j, none⟩) hbb).trans (hcb2 j v hv)
      have HBBW : Hid (b < wr.heap.size) := Nat.lt_of_lt_of_le hbb HB.out.size
      have HC31 : Hid (wr.cell? ⟨be, oe + k, none⟩ = some (.int .i64 (sumP (l.take (k + 1))))) := (HB.out.cell (p := ⟨be, oe + k, none⟩) hbe).trans hce2
      have HBEW : Hid (be < wr.heap.size) := Nat.lt_of_lt_of_le hbe HB.out.size
      have hsb := sumP_bound (l.take (k + 1)) (all_take l HNK.out _)
      have htl : (l.take (k + 1)).length ≤ 4096 := by simp; omega
      have hq1 : sumP (l.take (k + 1)) ≤ 16777216 := by omega
      have hq0 := hsb.1
      obtain ⟨S1, hS1⟩ : ∃ S, S = sumP (l.take (k + 1)) := ⟨_, rfl⟩
      obtain ⟨S0, hS0⟩ : ∃ S, S = sumP (l.take k) := ⟨_, rfl⟩
      have HS1 := hid hS1
      have HS0 := hid hS0
      rw [← hS1] at HC31 hq1 hq0 hs2 hsx HST
      rw [← hS0] at hs1 hsx HST HACC
      have HSX := hid hsx
      have HXX := hid hx
      clear hce hce2 hcb hcb2 hbb hbe hpk hnk hst hsb htl hS1 hS0 hsx hx
      go_wp2_with fail
      refine wp_region_held_drew (S := fun V => Below wr.heap.size wr V) (by kernel_rfl) (Below.refl _ _).drew (fun hS0 => ?_)
      generalize wr.drew = v0 at *
      simp only [List.size_toArray, List.length_cons, List.length_nil, Nat.reduceAdd]
      refine Ord.take (i := 0) (d := 21) (v := ?vA0) rfl rfl (by as_aux_lemma => kernel_rfl) (by as_aux_lemma => kernel_rfl) (by as_aux_lemma => kernel_rfl) (fun _ _ _ h => h) (by rfl) ?hA0 (by assumption) ?_
      case hA0 => intro w hSw; go_simp; try with_reducible rfl
      simp only [List.setIfInBounds_toArray, List.set_cons_zero, List.set_cons_succ]
      refine Ord.take (i := 1) (d := 22) (v := ?vA1) rfl rfl (by as_aux_lemma => kernel_rfl) (by as_aux_lemma => kernel_rfl) (by as_aux_lemma => kernel_rfl) (fun _ _ _ h => h) (by rfl) ?hA1 (by assumption) ?_
      case hA1 => intro w hSw; go_simp; try with_reducible rfl
      simp only [List.setIfInBounds_toArray, List.set_cons_zero, List.set_cons_succ]
      refine Ord.take (i := 2) (d := 23) (v := ?vA2) rfl rfl (by as_aux_lemma => kernel_rfl) (by as_aux_lemma => kernel_rfl) (by as_aux_lemma => kernel_rfl) (fun _ _ _ h => h) (by rfl) ?hA2 (by assumption) ?_
      case hA2 => intro w hSw; have hc : w.cell? ⟨W.heap.size, 3, none⟩ = some (.slice (some ⟨b, off, none⟩) len f.cap) := (Joins.cell_of_block (blk_later HFW.out hSw) 3).trans rfl; go_simp; try with_reducible rfl
      simp only [List.setIfInBounds_toArray, List.set_cons_zero, List.set_cons_succ]
      refine Ord.take (i := 3) (d := 24) (v := ?vA3) rfl rfl (by as_aux_lemma => kernel_rfl) (by as_aux_lemma => kernel_rfl) (by as_aux_lemma => kernel_rfl) (fun _ _ _ h => h) (by rfl) ?hA3 (by assumption) ?_
      case hA3 => intro w hSw; go_simp; try with_reducible rfl
      simp only [List.setIfInBounds_toArray, List.set_cons_zero, List.set_cons_succ]
      refine Ord.take (i := 4) (d := 25) (v := .pointer (some ⟨b, off + k * 33, none⟩)) rfl rfl (by as_aux_lemma => kernel_rfl) (by as_aux_lemma => kernel_rfl) (by as_aux_lemma => kernel_rfl) (fun _ _ _ h => h) (by rfl) ?hA4 (by assumption) ?_
      case hA4 => intro w hSw; go_simp; try with_reducible rfl
      simp only [List.setIfInBounds_toArray, List.set_cons_zero, List.set_cons_succ]
      refine Ord.take (i := 5) (d := 26) (v := .agg (pcC x).toArray) rfl rfl (by as_aux_lemma => kernel_rfl) (by as_aux_lemma => kernel_rfl) (by as_aux_lemma => kernel_rfl) (fun _ _ _ h => h) (by rfl) ?hA5 (by assumption) ?_
      case hA5 => intro w hSw; exact exec_load 59 (.tmp 25) rfl b (off + k * 33) rfl (run_loadVar_mid w b (off + k * 33) 59 (pcC x) _ (range_later HR59.out hSw HBBW.out) Try.underlying59 rfl (by rw [pcC_len HXL.out]; exact Try.size59))
      simp only [List.setIfInBounds_toArray, List.set_cons_zero, List.set_cons_succ]
      refine Ord.take (i := 6) (d := 27) (v := ?vA6) rfl rfl (by as_aux_lemma => kernel_rfl) (by as_aux_lemma => kernel_rfl) (by as_aux_lemma => kernel_rfl) (fun _ _ _ h => h) (by rfl) ?hA6 (by assumption) ?_
      case hA6 => intro w hSw; go_simp; try with_reducible rfl
      simp only [List.setIfInBounds_toArray, List.set_cons_zero, List.set_cons_succ]
      refine Ord.take (i := 7) (d := 28) (v := ?vA7) rfl rfl (by as_aux_lemma => kernel_rfl) (by as_aux_lemma => kernel_rfl) (by as_aux_lemma => kernel_rfl) (fun _ _ _ h => h) (by rfl) ?hA7 (by assumption) ?_
      case hA7 => intro w hSw; have hc : w.cell? ⟨W.heap.size, 4, none⟩ = some (.slice (some ⟨be, oe, none⟩) len f.ecap) := (Joins.cell_of_block (blk_later HFW.out hSw) 4).trans rfl; go_simp; try with_reducible rfl
      simp only [List.setIfInBounds_toArray, List.set_cons_zero, List.set_cons_succ]
      refine Ord.take (i := 8) (d := 29) (v := ?vA8) rfl rfl (by as_aux_lemma => kernel_rfl) (by as_aux_lemma => kernel_rfl) (by as_aux_lemma => kernel_rfl) (fun _ _ _ h => h) (by rfl) ?hA8 (by assumption) ?_
      case hA8 => intro w hSw; go_simp; try with_reducible rfl
      simp only [List.setIfInBounds_toArray, List.set_cons_zero, List.set_cons_succ]
      refine Ord.take (i := 9) (d := 30) (v := .pointer (some ⟨be, oe + k, none⟩)) rfl rfl (by as_aux_lemma => kernel_rfl) (by as_aux_lemma => kernel_rfl) (by as_aux_lemma => kernel_rfl) (fun _ _ _ h => h) (by rfl) ?hA9 (by assumption) ?_
      case hA9 => intro w hSw; go_simp; try with_reducible rfl
      simp only [List.setIfInBounds_toArray, List.set_cons_zero, List.set_cons_succ]
      refine Ord.take (i := 10) (d := 31) (v := ?vA10) rfl rfl (by as_aux_lemma => kernel_rfl) (by as_aux_lemma => kernel_rfl) (by as_aux_lemma => kernel_rfl) (fun _ _ _ h => h) (by rfl) ?hA10 (by assumption) ?_
      case hA10 => intro w hSw; have hc := (hSw.cell (p := ⟨be, oe + k, none⟩) HBEW.out).trans HC31.out; go_simp; try with_reducible rfl
      simp only [List.setIfInBounds_toArray, List.set_cons_zero, List.set_cons_succ]
      refine wpAnyH_ready (rs := [11]) (by as_aux_lemma => kernel_rfl) (by simp) (AllReadyH.cons rfl (fun K hK => ?_) (AllReadyH.nil))
      rw [if_pos (by rfl)]
      refine wp_alloc_W 59 rfl _ Try.zero59 (some 9) rfl v0.heap.size rfl ?_
      intro v1 HG1 hB1 hZ1
      have hS1 : Below wr.heap.size wr v1 := Bn hS0 hB1.out
      refine hK.out _ _ hS1 (fun _ => ?_)
      clear hK K
      try simp only [List.setIfInBounds_toArray, List.set_cons_zero, List.set_cons_succ]
      refine wpAnyH_ready (rs := [12]) (by as_aux_lemma => kernel_rfl) (by simp) (AllReadyH.cons rfl (fun K hK => ?_) (AllReadyH.nil))
      rw [if_pos (by rfl)]
      refine wp_store_W 59 _ _ rfl v0.heap.size (pcC x).toArray rfl rfl 59 _ HG1.out (by rw [List.size_toArray, pcC_len HXL.out]; exact Try.size59) (pcZ_size (pcC_len HXL.out)) (all_oneCell_toArray (pcC_one x)) ?_
      intro v2 HG2 hB2 hZ2
      have hS2 : Below wr.heap.size wr v2 := hS1.trans (bel_grown hB2.out hS0.size hS1.size)
      refine hK.out _ _ hS2 (fun _ => ?_)
      clear hK K
      try simp only [List.setIfInBounds_toArray, List.set_cons_zero, List.set_cons_succ]
      refine Ord.take (i := 13) (d := 10) (v := ?vA13) rfl rfl (by as_aux_lemma => kernel_rfl) (by as_aux_lemma => kernel_rfl) (by as_aux_lemma => kernel_rfl) (fun _ _ _ h => h) (by rfl) ?hA13 (by assumption) ?_
      case hA13 => intro w hSw; go_simp; try with_reducible rfl
      simp only [List.setIfInBounds_toArray, List.set_cons_zero, List.set_cons_succ]
      refine wpAnyH_done (by as_aux_lemma => kernel_rfl) ?_ _
      have HS2 := hid hS2
      clear hS0 hS1 hS2
      have c32 : v2.cell? ⟨v0.heap.size, 32, none⟩ = some (.int .i64 x.2) := (Joins.cell_of_block HG2.out 32).trans (by rw [List.getElem?_toArray]; exact pcC_n HXL.out)
      have HRD : Hid (v2.rangeAt v0.heap.size 0 (x.1.map (Value.int .u8))) := fun j v hv => by
        have hj : j < 32 := by
          have := (List.getElem?_eq_some_iff.1 hv).1
          simpa [HXL.out] using this
        rw [Nat.zero_add, Joins.cell_of_block HG2.out j, List.getElem?_toArray, pcC_d HXL.out j hj, ← hv]
        simp [List.getD, List.getElem?_eq_getElem (show j < x.1.length by rw [HXL.out]; exact hj)]
      have HDL : Hid ((x.1.map (Value.int .u8)).length = 32) := by show _ = _; simp [HXL.out]
      have ci2 : v2.cell? ⟨W.heap.size + 1, 0, none⟩ = some (.int .i64 fr) := (Joins.cell_of_block (blk_later HI.out HS2.out) 0).trans rfl
      have u2 := Joins.unfrozen_of_block (blk_later HI.out HS2.out) 0
      have HI2 := hid (blk_later HI.out HS2.out)
      have HF2 := hid (blk_later HFW.out HS2.out)
      have HO2 := hid (own_later HO.out HS2.out)
      have HB2 := hid (Bn HB.out HS2.out)
      have HZ2 : Hid (W.heap.size + 2 ≤ v2.heap.size) := Nat.le_trans HSZ.out HS2.out.size
      have hx1 := HXX.out.1
      have hx2 := HXX.out.2
      have HEQ : Hid (S1 - x.2 = S0) := by have := HSX.out; show _ = _; omega
      have HNX : Hid (k + 1 < len → S1 < sumP (l.take (k + 1 + 1))) := fun h => by
        have h1 := sumP_take l (k + 1) (by rw [← HL.out]; exact h)
        have h2 : nOk (l.getD (k + 1) pc0) = true := List.all_eq_true.1 HNK.out _ (by simp [List.getD, List.getElem?_eq_getElem (show k + 1 < l.length by rw [← HL.out]; exact h)])
        have h3 : 1 ≤ (l.getD (k + 1) pc0).2 ∧ (l.getD (k + 1) pc0).2 ≤ 4096 := of_decide_eq_true h2
        rw [← HS1.out] at h1
        omega
      have HEN : Hid (¬ k + 1 < len → to_ ≤ S1) := fun h => by
        have h1 := HTO.out
        rw [HS1.out, List.take_of_length_le (by rw [← HL.out]; omega)]
        exact h1
      have HAL : Hid (acc.length ≤ 100000) := by
        have h1 := HLS.out
        rw [← HACC.out, List.length_append] at h1
        show _ ≤ _
        omega
      clear HG1 hB1 hZ1 HG2 hB2 hZ2 HFW HI HO HB HS2
      have hmn0 : 0 ≤ min S1 to_ := by omega
      have hmn1 : min S1 to_ ≤ 1048576 := by omega
      have HBU := hid (built64 x.2 (fr - (S1 - x.2)) ((min S1 to_) - (S1 - x.2)) x.1 HXL.out)
      have HPL : Hid ((ptC ⟨(x.1, x.2), fr - (S1 - x.2), (min S1 to_) - (S1 - x.2)⟩).length = 35) := ptC_len HXL.out
      go_wp2_with (first | refine wpList_load_g rfl 32 _ rfl v0.heap.size 0 rfl (x.1.map (Value.int .u8)) _ HRD.out Try.underlying32 rfl (by rw [HDL.out]; exact Try.size32) ?_ | refine wpList_buildTo rfl 64 _ rfl (some 50) rfl (ptC ⟨(x.1, x.2), fr - (S1 - x.2), (min S1 to_) - (S1 - x.2)⟩).toArray (Eq.trans (congrArg (Try.prog.built 64) (by simp only [List.map_toArray, List.map_cons, List.map_nil]; rfl)) HBU.out) ?_ | refine wpList_buildOne rfl 60 64 _ rfl (some 51) rfl (ptC ⟨(x.1, x.2), fr - (S1 - x.2), (min S1 to_) - (S1 - x.2)⟩).toArray i0 _ Try.underlying60 hi hz0 (by rw [hz1, List.size_toArray, HPL.out]) (by rw [List.size_toArray, HPL.out]; decide) (by rw [List.size_toArray, HPL.out]; decide) rfl ?_ | (at_builtin; refine wpList_append_own _ rfl _ _ 60 rfl (W.heap.size + 2) 64 i0 _ 35 56 Try.underlying60 hi hz0 hz1 hz2 rfl (by decide) _ _ _ rfl (HO2.out.alloc _) ⟨v2.heap.size, 0, none⟩ 1 1 (ptC ⟨(x.1, x.2), fr - (S1 - x.2), (min S1 to_) - (S1 - x.2)⟩) rfl (by rw [HPL.out]) (fun j u hu => (by rw [add_plain, Nat.zero_add]; exact (Joins.cell_of_block (heap_alc v2 _) j).trans (by rw [List.getElem?_toArray]; exact hu))) (ptC_one _) (by have := HAL.out; unfold maxLen; omega) (by have := HAL.out; omega) (by have := HZ2.out; simp; omega) ?_) | fail)
      intro v5 W5 ho5 hg5 _
      have HB5 : Hid (Below (W.heap.size + 2) v2 W5) := ((bel_alc v2 (.cells (ptC ⟨(x.1, x.2), fr - (S1 - x.2), (min S1 to_) - (S1 - x.2)⟩).toArray 64)).mono HZ2.out).trans ((Below.refl _ _).grown hg5 (by have := HZ2.out; simp; omega) (fun j hj => (HO2.out.lt j hj).1))
      have HO5 : Hid (W5.ownsRow (W.heap.size + 2) 64 35 v5 (acc ++ [(⟨x, fr - S0, (min S1 to_) - S0⟩ : Pt)]).length ((acc ++ [(⟨x, fr - S0, (min S1 to_) - S0⟩ : Pt)]).flatMap ptC)) := by
        show World.ownsRow _ _ _ _ _ _ _
        rw [List.length_append, List.flatMap_append, ← HEQ.out]
        simpa using ho5
      have hI5 := (HB5.out.block (W.heap.size + 1) (by omega)).trans HI2.out
      have HI5 := hid hI5
      have HF5 := hid ((HB5.out.block W.heap.size (by omega)).trans HF2.out)
      have ci5 : W5.cell? ⟨W.heap.size + 1, 0, none⟩ = some (.int .i64 fr) := (Joins.cell_of_block hI5 0).trans rfl
      have u5 := Joins.unfrozen_of_block hI5 0
      have HGS := hid (grown_setCell W5 (W.heap.size + 1) 0 (.int .i64 (min S1 to_)))
      have HI6 : Hid ((W5.setCell ⟨W.heap.size + 1, 0, none⟩ (.int .i64 (min S1 to_))).heap[W.heap.size + 1]? = some (.cells #[.int .i64 (min S1 to_)] 3)) := (Joins.block_setCell HI5.out _).trans rfl
      have HF6 : Hid ((W5.setCell ⟨W.heap.size + 1, 0, none⟩ (.int .i64 (min S1 to_))).heap[W.heap.size]? = _) := (HGS.out.block _ (blk_lt HF5.out) (fun e => by have e2 : W.heap.size = W.heap.size + 1 := Option.some.inj e; omega)).trans HF5.out
      have HO6 := hid (own_grown HO5.out HGS.out (Nat.lt_succ_self _))
      have HB6 : Hid (Below W.heap.size W (W5.setCell ⟨W.heap.size + 1, 0, none⟩ (.int .i64 (min S1 to_)))) := (HB2.out.trans (HB5.out.mono (by omega))).trans (bel_grown HGS.out (by omega) (by have h1 := HB2.out.size; have h2 := HB5.out.size; omega))
      have HZ6 : Hid (W.heap.size + 2 ≤ (W5.setCell ⟨W.heap.size + 1, 0, none⟩ (.int .i64 (min S1 to_))).heap.size) := by have h1 := HZ2.out; have h2 := HB5.out.size; have h3 := HGS.out.size; show _ ≤ _; omega
      clear ho5 hg5 hI5 HI5 HF5 HO5 HGS ci2 u2 c32 ci
      go_wp2
      go_round
      case rel =>
        refine ⟨k + 1, (min S1 to_), _, by go_num, by have := HKL.out; omega, by omega, by omega, HI6.out, HF6.out, HO6.out, HB6.out, HZ6.out, ?_, ?_⟩
        · show _ = _
          rw [← HACC.out, HST.out, ← HS1.out, List.append_assoc]
          rfl
        · intro h
          have hkk : k + 1 < len := by
            by_cases h2 : k + 1 < len
            · exact h2
            · have := HEN.out h2; omega
          have h3 := HNX.out hkk
          exact ⟨hkk, by rw [← HS1.out]; omega, by omega⟩
      case measure => have := HKL.out; simp [intOf]; omega
    · have hzz : ¬ fr < to_ := hlt
      have hLE : acc = L := by
        rw [← HACC.out, part_none _ _ _ _ (.inl (by omega)) (by rw [List.all_eq_true]; intro y hy; exact List.all_eq_true.1 HNK.out y (List.mem_of_mem_drop hy)), List.append_nil]
      rw [hLE] at HO
      obtain ⟨a', cap', hv, hrw, hfar⟩ := Rw.own (z := ptZ) HO.out (fun p hp => ptC_len (HPO.out p hp))
      subst hv
      have HRW := hid hrw
      have HFAR := hid hfar
      clear hrw hfar hLE HACC
      go_wp2
      go_ret
      exact ⟨_, _, rfl, HRW.out, (fun b off e => by have := HFAR.out b off e; omega), HB.out⟩
end Go.Proofs.Ytcbjlnabbfkkeaa
