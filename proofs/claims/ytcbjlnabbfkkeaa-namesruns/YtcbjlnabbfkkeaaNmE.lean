/-
  Whether a record can be done: the contract of May.
-/
import Derived.Test.YtcbjlnabbfkkeaaNmD
namespace Go.Proofs.Ytcbjlnabbfkkeaa
open Go.ChangeShapes Go.WideShapes Go.ChangeAt Go.RowKit Go.Deep Go.Lib

def mayG (mb : Bool) (kd : Int) (bs : Bool) (L : Nat) : Int := if mb = false then 130 else if kd = 3 ∧ bs = false then 150 else if kd = 2 ∧ bs = false ∧ 1024 ≤ L then 3 else 0
def mayE (M : List Fl) (r : Rec) : Int := mayG (mayB r) r.kind (fnd M r.path).isSome M.length
set_option maxHeartbeats 3200000 in
set_option maxRecDepth 100000 in
theorem may_no (W : World) (v : Value) (r : Rec) (h : Nob W v) : Calls Try.prog 12 #[v, .agg r.cs.toArray] W fun e w' => e = .returned (.int .i64 4) ∧ Below W.heap.size W w' := by
  have HB := hid (bel_alc W (.cells r.cs.toArray 36))
  have HN := hid (made_no _ v (h.later HB.out))
  clear h
  go_enter Try.func12, Try.ntmps12
  go_wp2_with fail
  refine HN.out.mono ?_
  rintro _ w0 ⟨rfl, hw⟩
  obtain rfl := hw.symm
  clear hw HN
  go_wp2
  go_ret
  exact ⟨rfl, HB.out⟩
set_option maxHeartbeats 6400000 in
set_option maxRecDepth 100000 in
theorem may_names (W : World) (n g : Nat) (M : List Fl) (B : Nat) (h : Nm B W n g M) (r : Rec) (hr : Rv W r) (hp : r.path.size ≤ maxLen) :
    Calls Try.prog 12 #[.pointer (some ⟨n, 0, none⟩), .agg r.cs.toArray] W fun e w' => e = .returned (.int .i64 (mayE M r)) ∧ Below W.heap.size W w' := by
  have HB := hid (bel_alc W (.cells r.cs.toArray 36))
  have HX := hid (Bx.mk' W r hr.len)
  have HMD := hid (made_yes _ n g M B (h.later HB.out))
  have HCK := hid (check_word r _ (hr.later HB.out))
  have HLL := hid (Rec.cs_len hr.len)
  have HNm := hid (h.later HB.out)
  obtain ⟨W0, hW0⟩ : ∃ W0, W0 = W.alloc (.cells r.cs.toArray 36) := ⟨_, rfl⟩
  rw [← hW0] at HB HX HMD HCK HNm
  have HLD := hid HX.out.range
  have HP := hid hp
  have HE : Hid (mayE M r = mayG (mayB r) r.kind (fnd M r.path).isSome M.length) := rfl
  obtain ⟨mb, hmb⟩ : ∃ mb, mb = mayB r := ⟨_, rfl⟩
  rw [← hmb] at HCK HE
  have HZ : Hid (∀ w, (zeroValue 77).run Try.prog w = .ok (.agg flZ.cs.toArray) w) := Try.zero77
  clear h hr hp hmb
  go_enter Try.func12, Try.ntmps12
  go_wp2_with fail
  rw [← hW0]
  refine HMD.out.mono ?_
  rintro _ w0 ⟨rfl, hw⟩
  obtain rfl := hw.symm
  clear hw HMD hW0
  go_wp2_with (first | refine wpList_load_g rfl 36 _ rfl W.heap.size 0 rfl r.cs _ HLD.out Try.underlying36 rfl (by rw [HLL.out]; exact Try.size36) ?_ | fail)
  refine HCK.out.mono ?_
  rintro _ W1 ⟨rfl, hb1⟩
  have HB1 := hid (HB.out.trans (hb1.mono HB.out.size))
  have HX1 := hid (HX.out.later hb1)
  have HNm1 := hid (HNm.out.later hb1)
  clear hb1 HCK HX HNm HLD HB
  cases mb with
  | false =>
    go_wp2
    go_ret
    exact ⟨by rw [HE.out]; rfl, HB1.out⟩
  | true =>
    go_wp2_with fail
    refine wp_region_held_drew (S := fun V => Below W1.heap.size W1 V) (by kernel_rfl) (Below.refl _ _).drew (fun hS0 => ?_)
    generalize W1.drew = v0 at *
    simp only [List.size_toArray, List.length_cons, List.length_nil, Nat.reduceAdd]
    refine Ord.take (i := 0) (d := 17) (v := ?vA0) rfl rfl (by as_aux_lemma => kernel_rfl) (by as_aux_lemma => kernel_rfl) (by as_aux_lemma => kernel_rfl) (fun _ _ _ h => h) (by rfl) ?hA0 (by assumption) ?_
    case hA0 => intro w hSw; go_simp; try with_reducible rfl
    simp only [List.setIfInBounds_toArray, List.set_cons_zero, List.set_cons_succ]
    refine Ord.take (i := 1) (d := 18) (v := ?vA1) rfl rfl (by as_aux_lemma => kernel_rfl) (by as_aux_lemma => kernel_rfl) (by as_aux_lemma => kernel_rfl) (fun _ _ _ h => h) (by rfl) ?hA1 (by assumption) ?_
    case hA1 => intro w hSw; go_simp; try with_reducible rfl
    simp only [List.setIfInBounds_toArray, List.set_cons_zero, List.set_cons_succ]
    refine Ord.take (i := 2) (d := 19) (v := ?vA2) rfl rfl (by as_aux_lemma => kernel_rfl) (by as_aux_lemma => kernel_rfl) (by as_aux_lemma => kernel_rfl) (fun _ _ _ h => h) (by rfl) ?hA2 (by assumption) ?_
    case hA2 => intro w hSw; go_simp; try with_reducible rfl
    simp only [List.setIfInBounds_toArray, List.set_cons_zero, List.set_cons_succ]
    refine Ord.take (i := 3) (d := 20) (v := ?vA3) rfl rfl (by as_aux_lemma => kernel_rfl) (by as_aux_lemma => kernel_rfl) (by as_aux_lemma => kernel_rfl) (fun _ _ _ h => h) (by rfl) ?hA3 (by assumption) ?_
    case hA3 => intro w hSw; have hc := (HNm1.out.later hSw).cell; go_simp; try with_reducible rfl
    simp only [List.setIfInBounds_toArray, List.set_cons_zero, List.set_cons_succ]
    refine Ord.take (i := 4) (d := 21) (v := ?vA4) rfl rfl (by as_aux_lemma => kernel_rfl) (by as_aux_lemma => kernel_rfl) (by as_aux_lemma => kernel_rfl) (fun _ _ _ h => h) (by rfl) ?hA4 (by assumption) ?_
    case hA4 => intro w hSw; go_simp; try with_reducible rfl
    simp only [List.setIfInBounds_toArray, List.set_cons_zero, List.set_cons_succ]
    refine Ord.take (i := 5) (d := 22) (v := ?vA5) rfl rfl (by as_aux_lemma => kernel_rfl) (by as_aux_lemma => kernel_rfl) (by as_aux_lemma => kernel_rfl) (fun _ _ _ h => h) (by rfl) ?hA5 (by assumption) ?_
    case hA5 => intro w hSw; have hc := (HX1.out.later hSw).c36; go_simp; try with_reducible rfl
    simp only [List.setIfInBounds_toArray, List.set_cons_zero, List.set_cons_succ]
    refine Ord.take (i := 6) (d := 23) (v := ?vA6) rfl rfl (by as_aux_lemma => kernel_rfl) (by as_aux_lemma => kernel_rfl) (by as_aux_lemma => kernel_rfl) (fun _ _ _ h => h) (by rfl) ?hA6 (by assumption) ?_
    case hA6 => intro w hSw; have hc := (HNm1.out.later hSw).look HP.out; go_simp; try with_reducible rfl
    simp only [List.setIfInBounds_toArray, List.set_cons_zero, List.set_cons_succ]
    refine Ord.take (i := 7) (d := 16) (v := ?vA7) rfl rfl (by as_aux_lemma => kernel_rfl) (by as_aux_lemma => kernel_rfl) (by as_aux_lemma => kernel_rfl) (fun _ _ _ h => h) (by rfl) ?hA7 (by assumption) ?_
    case hA7 => intro w hSw; go_simp; try with_reducible rfl
    simp only [List.setIfInBounds_toArray, List.set_cons_zero, List.set_cons_succ]
    refine Ord.take (i := 8) (d := 24) (v := ?vA8) rfl rfl (by as_aux_lemma => kernel_rfl) (by as_aux_lemma => kernel_rfl) (by as_aux_lemma => kernel_rfl) (fun _ _ _ h => h) (by rfl) ?hA8 (by assumption) ?_
    case hA8 => intro w hSw; go_simp; try with_reducible rfl
    simp only [List.setIfInBounds_toArray, List.set_cons_zero, List.set_cons_succ]
    refine Ord.take (i := 9) (d := 25) (v := ?vA9) rfl rfl (by as_aux_lemma => kernel_rfl) (by as_aux_lemma => kernel_rfl) (by as_aux_lemma => kernel_rfl) (fun _ _ _ h => h) (by rfl) ?hA9 (by assumption) ?_
    case hA9 => intro w hSw; go_simp; try with_reducible rfl
    simp only [List.setIfInBounds_toArray, List.set_cons_zero, List.set_cons_succ]
    refine wpAnyH_ready (rs := [10]) (by as_aux_lemma => kernel_rfl) (by simp) (AllReadyH.cons rfl (fun K hK => ?_) (AllReadyH.nil))
    rw [if_pos (by rfl)]
    refine wp_alloc_W 77 rfl _ HZ.out (some 6) rfl v0.heap.size rfl ?_
    intro v1 HG1 hB1 hZ1
    have hS1 : Below W1.heap.size W1 v1 := Bn hS0 hB1.out
    refine hK.out _ _ hS1 (fun _ => ?_)
    clear hK K
    try simp only [List.setIfInBounds_toArray, List.set_cons_zero, List.set_cons_succ]
    refine wpAnyH_ready (rs := [11]) (by as_aux_lemma => kernel_rfl) (by simp) (AllReadyH.cons rfl (fun K hK => ?_) (AllReadyH.nil))
    rw [if_pos (by rfl)]
    refine wp_store_W 77 _ _ rfl v0.heap.size ((fnd M r.path).getD flZ).cs.toArray rfl rfl 77 _ HG1.out Try.size77 rfl (Fl.one _) ?_
    intro v2 HG2 hB2 hZ2
    have hS2 : Below W1.heap.size W1 v2 := hS1.trans (bel_grown hB2.out hS0.size hS1.size)
    refine hK.out _ _ hS2 (fun _ => ?_)
    clear hK K
    try simp only [List.setIfInBounds_toArray, List.set_cons_zero, List.set_cons_succ]
    refine Ord.take (i := 12) (d := 7) (v := ?vA12) rfl rfl (by as_aux_lemma => kernel_rfl) (by as_aux_lemma => kernel_rfl) (by as_aux_lemma => kernel_rfl) (fun _ _ _ h => h) (by rfl) ?hA12 (by assumption) ?_
    case hA12 => intro w hSw; go_simp; try with_reducible rfl
    simp only [List.setIfInBounds_toArray, List.set_cons_zero, List.set_cons_succ]
    refine wpAnyH_done (by as_aux_lemma => kernel_rfl) ?_ _
    have HB3 := hid (HB1.out.trans (hS2.mono HB1.out.size))
    have HNm2 := HNm1.out.later hS2
    have c34 := (HX1.out.later hS2).c34
    have cn := HNm2.cell
    have ln := fun ty => HNm2.len ty
    generalize (fnd M r.path).isSome = BS at *
    generalize r.kind = kd at *
    generalize M.length = L at *
    clear HNm2 hS0 hS1 hS2
    cases BS with
    | false =>
      by_cases h3 : kd = 3
      · go_wp2
        go_ret
        exact ⟨by rw [HE.out, h3]; rfl, HB3.out⟩
      · by_cases h2 : kd = 2
        · by_cases hL : 1024 ≤ L
          · have hLz : (1024 : Int) ≤ (L : Int) := by omega
            subst h2
            go_wp2
            go_ret
            exact ⟨by rw [HE.out, show mayG true 2 false L = 3 from by unfold mayG; rw [if_neg (by simp), if_neg (by simp), if_pos ⟨rfl, rfl, hL⟩]]; rfl, HB3.out⟩
          · have hLz : ¬ (1024 : Int) ≤ (L : Int) := by omega
            subst h2
            go_wp2
            go_ret
            exact ⟨by rw [HE.out, show mayG true 2 false L = 0 from by unfold mayG; rw [if_neg (by simp), if_neg (by simp), if_neg (fun c => hL c.2.2)]]; rfl, HB3.out⟩
        · go_wp2
          go_ret
          exact ⟨by rw [HE.out, show mayG true kd false L = 0 from by unfold mayG; rw [if_neg (by simp), if_neg (fun c => h3 c.1), if_neg (fun c => h2 c.1)]]; rfl, HB3.out⟩
    | true =>
      have hE : Hid (mayG true kd true L = 0) := by show _ = _; unfold mayG; simp
      by_cases h3 : kd = 3
      · subst h3
        go_wp2
        go_ret
        exact ⟨by rw [HE.out, hE.out]; rfl, HB3.out⟩
      · by_cases h2 : kd = 2
        · subst h2
          go_wp2
          go_ret
          exact ⟨by rw [HE.out, hE.out]; rfl, HB3.out⟩
        · go_wp2
          go_ret
          exact ⟨by rw [HE.out, hE.out]; rfl, HB3.out⟩
end Go.Proofs.Ytcbjlnabbfkkeaa
