/-
  A copy of a file, and of a namespace: the contracts of copied and Copy.
-/
import Derived.Test.YtcbjlnabbfkkeaaNmP
namespace Go.Proofs.Ytcbjlnabbfkkeaa
open Go.ChangeShapes Go.WideShapes Go.ChangeAt Go.RowKit Go.Deep Go.Lib

theorem clone_int (a : Option Addr) (cap : Nat) (zs : List Int) (w : World) (h : Ri w .i64 a cap zs) (hn : zs.length ≤ 100000) :
    Calls Try.prog 64 #[.slice a zs.length cap] w fun e w' => ∃ a' cap', e = .returned (.slice a' zs.length cap') ∧ Ri w' .i64 a' cap' zs ∧ (∀ b off, a' = some ⟨b, off, none⟩ → w.heap.size ≤ b) ∧ Below w.heap.size w w' := by
  by_cases h0 : 0 < zs.length
  · obtain ⟨b, off, rfl, _, hc⟩ := h.cells h0
    refine (Try.slices_Clone_int b off zs.length cap zs w (Nat.le_refl _) (by omega) hc).mono ?_
    rintro _ w' ⟨v', rfl, ho, _, hb⟩
    rw [List.take_length] at ho
    obtain ⟨a', c', rfl, hr⟩ := Ri.own ho h.fits
    refine ⟨a', c', rfl, hr, fun b2 o2 e => ?_, hb⟩
    have hv : (Value.slice a' zs.length c').ownBlock = some b2 := by rw [e]; rfl
    exact (ho.lt b2 hv).1
  · have hz : zs = [] := List.length_eq_zero_iff.1 (by omega)
    subst hz
    cases a with
    | none =>
      refine (Try.slices_Clone_int_nil 0 cap w).mono ?_
      rintro _ w' ⟨rfl, rfl⟩
      exact ⟨none, 0, rfl, ri_none _ _ _ _ (by unfold maxLen; omega), (fun _ _ e => by cases e), Below.refl _ _⟩
    | some ad =>
      refine (Try.slices_Clone_int_zero ad cap w).mono ?_
      rintro _ w' ⟨v', rfl, ho, _, hb⟩
      obtain ⟨a', c', rfl, hr⟩ := Ri.own (zs := []) ho h.fits
      refine ⟨a', c', rfl, hr, fun b2 o2 e => ?_, hb⟩
      have hv : (Value.slice a' ([] : List Int).length c').ownBlock = some b2 := by rw [e]; rfl
      exact (ho.lt b2 hv).1
theorem exec_build {P : Program} {w : World} {o : Oper} {ρ : Operand → Value} (t : TypeId) (parts : Array (Nat × Operand)) (ho : o.op = .build t parts) {cells : Array Value} (h : P.built t (parts.map fun (i, x) => (i, ρ x)).toList = some cells) :
    (execOp ρ o).run P w = .ok (.value (.agg cells)) w := by
  unfold execOp
  simp only [ho, Sem.run_bind, run_build w t _ cells h, Result.andThen_ok, Sem.run_pure]
theorem built77 (g : Fi) (a : Option Addr) (n c : Nat) : Try.prog.built 77 [(0, .agg g.cs.toArray), (1, .slice a n c)] = some (g.cs ++ [Value.slice a n c]).toArray := by kernel_rfl
set_option maxHeartbeats 6400000 in
set_option maxRecDepth 100000 in
theorem copied_word (W : World) (f : Fl) (hf : Fok W f) : Calls Try.prog 46 #[.agg f.cs.toArray] W fun e w' => ∃ f' : Fl, e = .returned (.agg f'.cs.toArray) ∧ Fok w' f' ∧ Fat W.heap.size f' ∧ f'.path = f.path ∧ f'.seq = f.seq ∧ f'.ps = f.ps ∧ Below W.heap.size W w' := by
  have HS1 : Hid (W.heap.size + 1 = (W.alloc (.cells f.cs.toArray 77)).heap.size) := by show _ = _; simp
  have HX0 := hid (heap_alc W (.cells f.cs.toArray 77))
  have HB0 := hid (bel_alc W (.cells f.cs.toArray 77))
  have HZ : Hid (∀ w, (zeroValue 77).run Try.prog w = .ok (.agg flZ.cs.toArray) w) := Try.zero77
  have HF := hid hf
  clear hf
  go_enter Try.func46, Try.ntmps46
  go_wp2_with (first | refine wpList_alloc_W rfl 77 rfl (some 2) rfl _ HZ.out (W.heap.size + 1) HS1.out ?_ | fail)
  intro W1 HG1 HB1 HSz1
  have HX1 := hid (blk_later HX0.out (by rw [← HS1.out]; exact HB1.out))
  have HBw : Hid (Below W.heap.size W W1) := HB0.out.trans (HB1.out.mono (Nat.le_succ _))
  have HTD := hid (fun V (hv : Below W1.heap.size W1 V) => told_word V f (HF.out.later (Bn HBw.out hv)))
  have HCI := hid (fun V (hv : Below W1.heap.size W1 V) => clone_int f.e f.ecap (endsL 0 f.ps) V (HF.out.ends.later (Bn HBw.out hv)) (by rw [ends_len]; have := HF.out.few; omega))
  rw [ends_len] at HCI
  go_wp2_with fail
  refine wp_region_held_drew (S := fun V => W1.grownBy V (some (W.heap.size + 1))) (by kernel_rfl) (grown_bel (Below.refl _ _).drew) (fun _ => ?_)
  have hS0 : Below W1.heap.size W1 W1.drew := (Below.refl _ _).drew
  have hT0 := grown_bel (r := some (W.heap.size + 1)) hS0
  generalize W1.drew = v0 at *
  simp only [List.size_toArray, List.length_cons, List.length_nil, Nat.reduceAdd]
  refine Ord.take (i := 0) (d := 3) (v := .agg f.cs.toArray) rfl rfl (by as_aux_lemma => kernel_rfl) (by as_aux_lemma => kernel_rfl) (by as_aux_lemma => kernel_rfl) (fun _ _ _ h => h) (by rfl) ?hA0 (by assumption) ?_
  case hA0 => intro w hSw; exact exec_load 77 (.tmp 1) rfl W.heap.size 0 rfl (fl_load ((hSw.block _ (blk_lt HX1.out) (fun e => by have e2 : W.heap.size = W.heap.size + 1 := Option.some.inj e; omega)).trans HX1.out))
  simp only [List.setIfInBounds_toArray, List.set_cons_zero, List.set_cons_succ]
  refine Ord.take (i := 2) (d := 5) (v := ?vA2) rfl rfl (by as_aux_lemma => kernel_rfl) (by as_aux_lemma => kernel_rfl) (by as_aux_lemma => kernel_rfl) (fun _ _ _ h => h) (by rfl) ?hA2 (by assumption) ?_
  case hA2 => intro w hSw; go_simp; try with_reducible rfl
  simp only [List.setIfInBounds_toArray, List.set_cons_zero, List.set_cons_succ]
  refine Ord.take (i := 3) (d := 6) (v := ?vA3) rfl rfl (by as_aux_lemma => kernel_rfl) (by as_aux_lemma => kernel_rfl) (by as_aux_lemma => kernel_rfl) (fun _ _ _ h => h) (by rfl) ?hA3 (by assumption) ?_
  case hA3 => intro w hSw; have hc : w.cell? ⟨W.heap.size, 4, none⟩ = some (.slice f.e f.ps.length f.ecap) := (Joins.cell_of_block ((hSw.block _ (blk_lt HX1.out) (fun e => by have e2 : W.heap.size = W.heap.size + 1 := Option.some.inj e; omega)).trans HX1.out) 4).trans rfl; go_simp; try with_reducible rfl
  simp only [List.setIfInBounds_toArray, List.set_cons_zero, List.set_cons_succ]
  refine wpAnyH_ready (rs := [1]) (by as_aux_lemma => kernel_rfl) (by simp) (AllReadyH.cons rfl (fun K hK => ?_) (AllReadyH.nil))
  go_simp
  refine (HTD.out v0 hS0).mono ?_
  rintro _ v1 ⟨g, rfl, hfig, hb1⟩
  have hS1 := Bn hS0 hb1
  have HFIG := hid (hfig.mono (Nat.le_trans HBw.out.size hS0.size))
  have hT1 := grown_bel (r := some (W.heap.size + 1)) hS1
  refine hK.out _ _ hT1 (fun _ => ?_)
  clear hK K hb1 hfig
  try simp only [List.setIfInBounds_toArray, List.set_cons_zero, List.set_cons_succ]
  refine wpAnyH_ready (rs := [4]) (by as_aux_lemma => kernel_rfl) (by simp) (AllReadyH.cons rfl (fun K hK => ?_) (AllReadyH.nil))
  go_simp
  refine (HCI.out v1 hS1).mono ?_
  rintro _ v2 ⟨ea, ec, rfl, hri, hfar, hb2⟩
  have hS2 := Bn hS1 hb2
  have HFIG2 := hid (HFIG.out.later hb2)
  have HRI := hid hri
  have HFAR := hid (fun b off e => Nat.le_trans hS1.size (hfar b off e))
  have hT2 := grown_bel (r := some (W.heap.size + 1)) hS2
  refine hK.out _ _ hT2 (fun _ => ?_)
  clear hK K hb2 hri hfar
  have HBU := hid (built77 g ea f.ps.length ec)
  have HNF : Hid (g.cs ++ [Value.slice ea f.ps.length ec] = (⟨g.path, g.size, g.seq, g.ps, g.a, g.cap, ea, ec⟩ : Fl).cs) := by show _ = _; rw [← HFIG2.out.ps]; rfl
  obtain ⟨f2, hf2⟩ : ∃ f2 : Fl, f2 = ⟨g.path, g.size, g.seq, g.ps, g.a, g.cap, ea, ec⟩ := ⟨_, rfl⟩
  have HF2 := hid hf2
  rw [← hf2] at HNF
  rw [HNF.out] at HBU
  clear hf2
  try simp only [List.setIfInBounds_toArray, List.set_cons_zero, List.set_cons_succ]
  refine Ord.take (i := 5) (d := 8) (v := .agg f2.cs.toArray) rfl rfl (by as_aux_lemma => kernel_rfl) (by as_aux_lemma => kernel_rfl) (by as_aux_lemma => kernel_rfl) (fun _ _ _ h => h) (by rfl) ?hA5 (by assumption) ?_
  case hA5 => intro w hSw; exact exec_build 77 _ rfl (by simp only [List.map_toArray, List.map_cons, List.map_nil]; exact HBU.out)
  simp only [List.setIfInBounds_toArray, List.set_cons_zero, List.set_cons_succ]
  refine wpAnyH_ready (rs := [6]) (by as_aux_lemma => kernel_rfl) (by simp) (AllReadyH.cons rfl (fun K hK => ?_) (AllReadyH.nil))
  rw [if_pos (by rfl)]
  refine wp_store_W 77 _ _ rfl (W.heap.size + 1) f2.cs.toArray rfl rfl 77 _ (blk_later HG1.out hS2) Try.size77 rfl (Fl.one _) ?_
  intro v3 HGB HW3 HZ3
  have hL1 := HSz1.out
  have hZZ := blk_later HG1.out hS2
  have hSX : Below W.heap.size W v3 := (Bn HBw.out hS2).trans (bel_grown HW3.out (Nat.le_succ _) (Nat.le_trans HBw.out.size hS2.size))
  have HFINE : Hid (Fok v3 f2 ∧ Fat W.heap.size f2 ∧ f2.path = f.path ∧ f2.seq = f.seq ∧ f2.ps = f.ps) := by
    have hg := HFIG2.out
    have hfo := HF.out
    show _ ∧ _
    rw [HF2.out]
    refine ⟨⟨?_, ?_, ?_, ?_, ?_, ?_, ?_, ?_⟩, ⟨?_, ?_⟩, hg.path, hg.seq, hg.ps⟩
    · show g.path.size ≤ 255; rw [hg.path]; exact hfo.path
    · show 1 ≤ g.seq ∧ _; rw [hg.seq]; exact hfo.seq
    · show g.size = sumP g.ps; rw [hg.size, hg.ps]; exact hfo.size
    · show g.size ≤ _; rw [hg.size]; exact hfo.most
    · show g.ps.length ≤ _; rw [hg.ps]; exact hfo.few
    · show g.ps.all nOk = true; rw [hg.ps]; exact hfo.nok
    · exact hg.row.grown HW3.out (fun h0 b o e => hg.row.ne hZZ (Fl.no8 _) h0 b o e)
    · show Ri v3 .i64 ea ec (endsL 0 g.ps)
      rw [hg.ps]
      exact HRI.out.grown HW3.out (fun b o e e2 => by have := HFAR.out b o e; have e3 : b = W.heap.size + 1 := Option.some.inj e2; omega)
    · exact fun b o e => by have := hg.far b o e; omega
    · exact fun b o e => by have := HFAR.out b o e; omega
  have HSX := hid hSX
  have HGB' := HGB
  refine hK.out _ _ (hT2.trans HW3.out) (fun _ => ?_)
  clear hK K
  try simp only [List.setIfInBounds_toArray, List.set_cons_zero, List.set_cons_succ]
  refine wpAnyH_done (by as_aux_lemma => kernel_rfl) ?_ _
  go_wp2
  exact bodyPost_ret (results_cell_row (ty := 77) rfl _ _ _ _ _ _ _ rfl HGB'.out Try.underlying77 rfl Try.size77) rfl ⟨f2, rfl, HFINE.out.1, HFINE.out.2.1, HFINE.out.2.2.1, HFINE.out.2.2.2.1, HFINE.out.2.2.2.2, HSX.out⟩
def SameF (f f' : Fl) : Prop := f'.path = f.path ∧ f'.size = f.size ∧ f'.seq = f.seq ∧ f'.ps = f.ps
/-- The namespaces tell of the same files. -/
def Cpy (M M' : List Fl) : Prop := ∀ s, (fnd M s = none → fnd M' s = none) ∧ ∀ f, fnd M s = some f → ∃ f', fnd M' s = some f' ∧ SameF f f'
theorem Nm.mono {B C : Nat} {W : World} {n g : Nat} {M : List Fl} (h : Nm B W n g M) (hC : C ≤ B) : Nm C W n g M := by
  obtain ⟨D, h⟩ := h
  exact ⟨D, h.blk, h.own, h.has, h.at_, h.size, h.many, h.ok, fun f hf => (h.far f hf).mono hC, h.apart⟩
/-- Half way through the files. -/
structure Hlf (M M' : List Fl) (left : Lit → Bool) (cnt : Nat) : Prop where
  none_ : ∀ s, fnd M s = none → fnd M' s = none
  left_ : ∀ s, left (kS s) = true → fnd M' s = none
  done : ∀ s f, fnd M s = some f → left (kS s) = false → ∃ f', fnd M' s = some f' ∧ SameF f f'
  cnt_ : M'.length + cnt ≤ M.length
theorem Hlf.step {M M' : List Fl} {left : Lit → Bool} {cnt cnt' : Nat} {f f' : Fl} (h : Hlf M M' left cnt) (hf : fnd M f.path = some f) (hl : left (kS f.path) = true) (hs : SameF f f') (hc : cnt' < cnt) (hap : M'.Pairwise fun f f' => f.path ≠ f'.path) :
    Hlf M (putM M' f') (fun z => left z && !z.sameKey (kS f.path)) cnt' := by
  have hpn : fnd M' f'.path = none := by rw [hs.1]; exact h.left_ _ hl
  refine ⟨fun s hn => ?_, fun s hn => ?_, fun s g hg hn => ?_, ?_⟩
  · rw [fnd_put]
    by_cases e : s = f'.path
    · rw [e, hs.1, hf] at hn; cases hn
    · rw [if_neg e]; exact h.none_ s hn
  · rw [Bool.and_eq_true] at hn
    rw [fnd_put]
    by_cases e : s = f'.path
    · rw [e, hs.1, WideAt.sameKey_self (kS_is _)] at hn
      simp at hn
    · rw [if_neg e]; exact h.left_ s hn.1
  · rw [fnd_put]
    by_cases e : s = f'.path
    · rw [if_pos e]
      rw [e, hs.1, hf] at hg
      injection hg with hg
      subst hg
      exact ⟨f', rfl, hs⟩
    · rw [if_neg e]
      refine h.done s g hg ?_
      have hk : (kS s).sameKey (kS f.path) = false := Maps.sameKey_ne (kS_ne (by rw [← hs.1]; exact e))
      simpa [hk] using hn
  · rw [put_len M' hap, hpn]
    have := h.cnt_
    simp
    omega
set_option maxHeartbeats 6400000 in
set_option maxRecDepth 100000 in
theorem copy_word (W : World) (n g : Nat) (M : List Fl) (B : Nat) (h : Nm B W n g M) : Calls Try.prog 24 #[.pointer (some ⟨n, 0, none⟩)] W fun e w' => ∃ n' g' M', e = .returned (.pointer (some ⟨n', 0, none⟩)) ∧ Nm W.heap.size w' n' g' M' ∧ Cpy M M' ∧ Below W.heap.size W w' ∧ W.heap.size ≤ g' ∧ W.heap.size ≤ n' := by
  have HMD := hid (made_yes W n g M B h)
  have HH := hid h
  have HZ : Hid (∀ w, (zeroValue 77).run Try.prog w = .ok (.agg flZ.cs.toArray) w) := Try.zero77
  obtain ⟨D, hD⟩ := id h
  have HD := hid hD
  have HNW := hid (new_word (W.heap.size + 3) W)
  have HGL := hid h.lt
  clear h hD
  go_enter Try.func24, Try.ntmps24
  go_wp2_with fail
  refine HMD.out.mono ?_
  rintro _ w0 ⟨rfl, hw⟩
  obtain rfl := hw.symm
  clear hw HMD
  go_wp2_with fail
  refine HNW.out.mono ?_
  rintro _ W1 ⟨rfl, hn1, hb1⟩
  have HN1 := hid hn1
  have HB1 := hid hb1
  have cn := (HH.out.later hb1).cell
  have HOW := hid (own_bel HD.out.own (hb1.block _ HGL.out.2))
  have HS1 : Hid (W.heap.size + 2 ≤ W1.heap.size) := by have := hn1.lt.1; show _ ≤ _; omega
  clear hn1 hb1 HNW
  go_wp2_with (first | refine wpList_range_own W1 rfl _ 67 rfl 9 77 Try.keyed9 Try.underlying67 rdV g 1048576 D rfl HOW.out ?_ | fail)
  intro W2 hrg hg2 hs2
  have HRG := hid hrg
  obtain ⟨r, hr⟩ : ∃ r, r = W1.heap.size := ⟨_, rfl⟩
  rw [← hr] at HRG hs2 ⊢
  have hb2 : Below W1.heap.size W1 W2 := ⟨hg2.os, hg2.tape, hg2.output, hg2.size, fun i hi => hg2.block i hi (by simp)⟩
  have HB2 := hid (Bn HB1.out hb2)
  have HN2 : Hid (Nm (r + 1) W2 (W.heap.size + 1) W.heap.size []) := by
    obtain ⟨D', h'⟩ := HN1.out.later hb2
    exact ⟨D', h'.blk, h'.own, h'.has, h'.at_, h'.size, h'.many, h'.ok, (fun f hf => by cases hf), h'.apart⟩
  have HR : Hid (W.heap.size + 2 ≤ r) := by rw [hr]; exact HS1.out
  have HS2 : Hid (r + 1 ≤ W2.heap.size) := by show _ ≤ _; omega
  clear hrg hg2 hs2 hb2 hr cn HOW
  go_wp2
  go_loopw [4] (fun _ wr => ∃ (M' : List Fl) (left : Lit → Bool) (cnt : Nat), Hid (wr.ranges Try.prog 9 rdV g r 1048576 D left cnt) ∧ Hid (Nm (r + 1) wr (W.heap.size + 1) W.heap.size M') ∧ Hid (Hlf M M' left cnt) ∧ Hid (∀ kl, left kl = true → Maps.has D kl = true) ∧ Hid (Below W.heap.size W wr) ∧ Hid (r + 1 ≤ wr.heap.size)) (fun _ wr => wr.rangeLeft g r)
  case atStart =>
    refine ⟨[], _, _, HRG.out, HN2.out, ⟨fun s _ => rfl, fun s _ => rfl, fun s f hf hl => ?_, ?_⟩, fun _ h => h, HB2.out, HS2.out⟩
    · rw [HD.out.has, hf] at hl; cases hl
    · rw [HD.out.size]; simp
  case round =>
    obtain ⟨M', left, cnt, HRA, HNA, HHA, HLA, HBA, HSA⟩ := hrel
    clear HRG HN2 HB2 HS2
    go_wp2_with (first | refine wpList_next_ranges wr rfl _ rfl 9 Try.keyed9 rdV Value.string id (fun key kl hk => (by obtain ⟨s, h1, _, _⟩ := WideMaps.string_of_keyOf Try.underlying9 hk; exact ⟨s, h1⟩)) (fun v _ _ => ⟨v, rfl⟩) g r 1048576 D left cnt rfl HRA.out ?_ ?_ | fail)
    · intro hc0 hl0
      have HL0 := hid hl0
      clear hl0
      go_wp2
      go_ret
      refine ⟨W.heap.size + 1, W.heap.size, M', rfl, HNA.out.mono (by have := HR.out; omega), fun s => ⟨HHA.out.none_ s, fun f hf => HHA.out.done s f hf (HL0.out _)⟩, HBA.out, Nat.le_refl _, Nat.le_succ _⟩
    · intro x c kl y ll w' cnt' hk hl hv hat hra hcnt hgr hsz hen
      obtain ⟨s, e1, e2, _⟩ := WideMaps.string_of_keyOf Try.underlying9 hk
      obtain rfl : x = s := by injection e1
      subst e2
      obtain ⟨f, hf⟩ : ∃ f, fnd M x = some f := by
        have h1 := HLA.out _ hl
        have h2 := HD.out.has x
        unfold kS at h2
        rw [h1] at h2
        exact Option.isSome_iff_exists.1 h2.symm
      obtain rfl : c = f.val := by
        have h1 := HD.out.at_ x f hf (.held c)
        unfold kS at h1
        rw [hat] at h1
        have h2 : y = .held c := by unfold rdV at hv; injection hv with hv; injection hv with hv; exact hv.symm
        rw [h2] at h1
        injection h1
      obtain rfl : f.path = x := fnd_path hf
      have HFN := hid hf
      have HKL := hid hl
      have HRA' := hid hra
      have HCN := hid hcnt
      have hr2 := HR.out
      have HNA' : Hid (Nm (r + 1) w' (W.heap.size + 1) W.heap.size M') := HNA.out.grown hgr (by omega) (by omega) (by omega)
      have HBA' : Hid (Below W.heap.size W w') := HBA.out.trans (bel_grown hgr (by omega) HBA.out.size)
      have HSA' : Hid (r + 1 ≤ w'.heap.size) := by have := HSA.out; show _ ≤ _; omega
      have HFO := hid ((HD.out.ok f (fnd_mem hf)).later HBA'.out)
      have HLFT : Hid (wr.rangeLeft g r = cnt) := HRA.out.left_eq
      clear hk hl hv hat hra hcnt hgr hsz hf hr2 e1 HNA HBA HRA HSA
      unfold Fl.val at hen ⊢
      go_wp2_with (first | refine wpList_alloc_W rfl 77 rfl (some 5) rfl _ HZ.out w'.heap.size rfl ?_ | fail)
      intro V1 HG1 HB1' HSz1
      go_wp2_with (first | refine wpList_store_W rfl 77 _ _ rfl rfl w'.heap.size f.cs.toArray rfl rfl 77 _ HG1.out Try.size77 rfl (Fl.one _) ?_ | fail)
      intro V2 HG2 HGR2 HSz2
      have HY2 : Hid (Below w'.heap.size w' V2) := HB1'.out.trans (bel_grown HGR2.out (Nat.le_refl _) HB1'.out.size)
      have HN2' := hid (HNA'.out.later HY2.out)
      have HRG2 : Hid (V2.ranges Try.prog 9 rdV g r 1048576 D (fun z => left z && !z.sameKey (kS f.path)) cnt') := HRA'.out.kept (grown_bel (r := none) HY2.out) (by simp) (by simp)
      have HBA2 : Hid (Below W.heap.size W V2) := Bn HBA'.out HY2.out
      have HSA2 : Hid (r + 1 ≤ V2.heap.size) := Nat.le_trans HSA'.out HY2.out.size
      have HCW := hid (fun V (hv : Below V2.heap.size V2 V) => copied_word V f ((HFO.out.later HY2.out).later hv))
      have HWL := hid HNA'.out.lt
      have HGM := hid HRA'.out.owns.lt
      have HRM := hid HRA'.out.lt
      clear HG1 HB1' HSz1 HGR2 hen
      go_wp2_with fail
      have HNE : Hid (some w'.heap.size ≠ some W.heap.size) := fun e => by have e2 : w'.heap.size = W.heap.size := Option.some.inj e; have h1 := HWL.out.2; omega
      refine wp_region_held_drew (S := fun V => V2.grownBy V (some W.heap.size)) (by kernel_rfl) (grown_bel (Below.refl _ _).drew) (fun _ => ?_)
      have hB0 : Below V2.heap.size V2 V2.drew := (Below.refl _ _).drew
      have hT0 : V2.grownBy V2.drew (some W.heap.size) := grown_bel hB0
      generalize V2.drew = v0 at *
      simp only [List.size_toArray, List.length_cons, List.length_nil, Nat.reduceAdd]
      refine Ord.take (i := 0) (d := 20) (v := ?vD0) rfl rfl (by as_aux_lemma => kernel_rfl) (by as_aux_lemma => kernel_rfl) (by as_aux_lemma => kernel_rfl) (fun _ _ _ h => h) (by rfl) ?hD0 (by assumption) ?_
      case hD0 => intro w hSw; go_simp; try with_reducible rfl
      simp only [List.setIfInBounds_toArray, List.set_cons_zero, List.set_cons_succ]
      refine Ord.take (i := 1) (d := 21) (v := ?vD1) rfl rfl (by as_aux_lemma => kernel_rfl) (by as_aux_lemma => kernel_rfl) (by as_aux_lemma => kernel_rfl) (fun _ _ _ h => h) (by rfl) ?hD1 (by assumption) ?_
      case hD1 => intro w hSw; go_simp; try with_reducible rfl
      simp only [List.setIfInBounds_toArray, List.set_cons_zero, List.set_cons_succ]
      refine Ord.take (i := 2) (d := 22) (v := ?vD2) rfl rfl (by as_aux_lemma => kernel_rfl) (by as_aux_lemma => kernel_rfl) (by as_aux_lemma => kernel_rfl) (fun _ _ _ h => h) (by rfl) ?hD2 (by assumption) ?_
      case hD2 => intro w hSw; go_simp; try with_reducible rfl
      simp only [List.setIfInBounds_toArray, List.set_cons_zero, List.set_cons_succ]
      refine Ord.take (i := 3) (d := 23) (v := ?vD3) rfl rfl (by as_aux_lemma => kernel_rfl) (by as_aux_lemma => kernel_rfl) (by as_aux_lemma => kernel_rfl) (fun _ _ _ h => h) (by rfl) ?hD3 (by assumption) ?_
      case hD3 => intro w hSw; have hc := HN2'.out.cellG hSw; go_simp; try with_reducible rfl
      simp only [List.setIfInBounds_toArray, List.set_cons_zero, List.set_cons_succ]
      refine Ord.take (i := 4) (d := 24) (v := ?vD4) rfl rfl (by as_aux_lemma => kernel_rfl) (by as_aux_lemma => kernel_rfl) (by as_aux_lemma => kernel_rfl) (fun _ _ _ h => h) (by rfl) ?hD4 (by assumption) ?_
      case hD4 => intro w hSw; go_simp; try with_reducible rfl
      simp only [List.setIfInBounds_toArray, List.set_cons_zero, List.set_cons_succ]
      refine Ord.take (i := 5) (d := 25) (v := .agg f.cs.toArray) rfl rfl (by as_aux_lemma => kernel_rfl) (by as_aux_lemma => kernel_rfl) (by as_aux_lemma => kernel_rfl) (fun _ _ _ h => h) (by rfl) ?hD5 (by assumption) ?_
      case hD5 => intro w hSw; exact exec_load 77 (.tmp 5) rfl w'.heap.size 0 rfl (fl_load ((hSw.block _ (blk_lt HG2.out) HNE.out).trans HG2.out))
      simp only [List.setIfInBounds_toArray, List.set_cons_zero, List.set_cons_succ]
      refine wpAnyH_ready (rs := [6]) (by as_aux_lemma => kernel_rfl) (by simp) (AllReadyH.cons rfl (fun K hK => ?_) (AllReadyH.nil))
      go_simp
      refine (HCW.out v0 hB0).mono ?_
      rintro _ v1 ⟨f', rfl, hfo', hfa', hp', hsq', hps', hb1⟩
      have hB1 := Bn hB0 hb1
      have HFO' := hid hfo'
      have HFA' := hid (hfa'.mono hB0.size)
      have HPP := hid (And.intro hp' (And.intro hsq' hps'))
      have hT1 : V2.grownBy v1 (some W.heap.size) := grown_bel hB1
      refine hK.out _ _ hT1 (fun _ => ?_)
      clear hK K hb1 hfo' hfa' hp' hsq' hps'
      try simp only [List.setIfInBounds_toArray, List.set_cons_zero, List.set_cons_succ]
      refine wpAnyH_ready (rs := [7]) (by as_aux_lemma => kernel_rfl) (by simp) (AllReadyH.cons rfl (fun K hK => ?_) (AllReadyH.nil))
      obtain ⟨V3, hrun, hnm, hgr⟩ := (HN2'.out.later hB1).put f' HFO'.out (HFA'.out.mono HSA2.out) (.inr (by have h1 := HHA.out.cnt_; have h2 := HD.out.many; have h3 := HCN.out; omega))
      have HRUN := hid hrun
      rw [HPP.out.1] at HRUN
      unfold Fl.val at HRUN
      have hSV : V2.grownBy V3 (some W.heap.size) := hT1.trans hgr
      have HSX : Hid (Below W.heap.size W V3) := (Bn HBA2.out hB1).trans (bel_grown hgr (Nat.le_refl _) (Nat.le_trans HBA2.out.size hB1.size))
      have HS3 : Hid (r + 1 ≤ V3.heap.size) := Nat.le_trans HSA2.out hSV.size
      have HRG3 : Hid (V3.ranges Try.prog 9 rdV g r 1048576 D (fun z => left z && !z.sameKey (kS f.path)) cnt') := HRG2.out.kept hSV (by have h1 := HGL.out.2; simp; omega) (by have h1 := HR.out; simp; omega)
      have HNV := hid hnm
      rw [if_pos (by rfl)]
      refine wp_mapUpdate_W 67 _ _ _ rfl rfl V3 HRUN.out ?_
      clear hrun hgr hnm HRUN
      refine hK.out _ _ hSV (fun _ => ?_)
      clear hK K
      have HFS : Hid (SameF f f') := ⟨HPP.out.1, by rw [HFO'.out.size, HFO.out.size, HPP.out.2.2], HPP.out.2.1, HPP.out.2.2⟩
      have HHL : Hid (Hlf M (putM M' f') (fun z => left z && !z.sameKey (kS f.path)) cnt') := HHA.out.step HFN.out HKL.out HFS.out HCN.out (by obtain ⟨D', h'⟩ := HN2'.out; exact h'.apart)
      have HLL : Hid (∀ kl, (left kl && !kl.sameKey (kS f.path)) = true → Maps.has D kl = true) := fun kl h => HLA.out kl (by rw [Bool.and_eq_true] at h; exact h.1)
      have HME : Hid (V3.rangeLeft g r < wr.rangeLeft g r) := by show _ < _; rw [HLFT.out, HRG3.out.left_eq]; exact HCN.out
      try simp only [List.setIfInBounds_toArray, List.set_cons_zero, List.set_cons_succ]
      refine wpAnyH_done (by as_aux_lemma => kernel_rfl) ?_ _
      go_wp2
      go_round
      case rel => exact ⟨putM M' f', _, cnt', HRG3.out, HNV.out, HHL.out, HLL.out, HSX.out, HS3.out⟩
      case measure => exact HME.out
end Go.Proofs.Ytcbjlnabbfkkeaa
