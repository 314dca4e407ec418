/-
  The contract of mac.Open.
-/
import Derived.Test.YtgnjicpmfpgdeaaDoorShSeal
import Derived.Test.YtgnjicpmfpgdeaaDoorShSame
namespace Go.Proofs.YtgnjicpmfpgdeaaDoor.Sh
open Go.RowKit Sha

/-- A digest's bytes out of a row. -/
theorem load_rd {W : World} {b o c : Nat} {l : List Nat} (hr : Rd W (.slice (some ⟨b, o, none⟩) l.length c) (some ⟨b, o, none⟩) c l) (hl : l.length = 32) : (Instr.loadAt 39 (.pointer (some ⟨b, o, none⟩))).run Tryd.prog W = .ok (.agg (arr .u8 l)) W := by
  refine run_loadAt_mid W b o 39 (lst .u8 l) _ (fun j v hv => ?_) Tryd.underlying39 rfl (by rw [lst_length, hl]; exact Tryd.size39')
  have hj : j < l.length := by have := (List.getElem?_eq_some_iff.1 hv).1; rw [lst_length] at this; exact this
  obtain ⟨b', o', hab', _, hc⟩ := hr.cells (by omega)
  injection hab' with hab'
  injection hab' with h1 h2
  subst h1 h2
  rw [hc j hj, ← hv]
  simp [lst, List.getD, List.getElem?_eq_getElem hj]

theorem open_short (a : Option Addr) (cap : Nat) (kn : Nat) (b : Option Addr) (capb n : Nat) (w : World) (hn : n < 32) :
    Calls Tryd.prog 32 #[.slice a kn cap, .slice b n capb] w fun e w' => e = .returned (.tuple #[.slice none 0 0, .int .i64 11]) ∧ Below w.heap.size w w' := by
  have h1 : (n : Int) - 32 < 0 := by omega
  go_enter Tryd.func32, Tryd.ntmps32
  go_wp2
  go_ret2
  exact ⟨rfl, Below.refl _ _⟩

set_option maxHeartbeats 1600000 in
set_option maxRecDepth 100000 in
theorem open_long (a : Option Addr) (cap : Nat) (key : List Nat) (b : Option Addr) (capb : Nat) (z : List Nat) (n : Nat) (w : World) (hl : Laid w) (hr : Rd w (.slice a key.length cap) a cap key) (hrb : Rd w (.slice b z.length capb) b capb z) (hk : key.length ≤ 100000) (hz : z.length ≤ 100000) (hn : z.length = n + 32) :
    Calls Tryd.prog 32 #[.slice a key.length cap, .slice b z.length capb] w fun e w' => ((eqB 32 (hmac key (z.take n)) (z.drop n) = true ∧ ∃ v, e = .returned (.tuple #[v, .int .i64 0]) ∧ w'.ownsRow w.heap.size 5 1 v n (V (z.take n))) ∨ (eqB 32 (hmac key (z.take n)) (z.drop n) = false ∧ e = .returned (.tuple #[.slice none 0 0, .int .i64 40]))) ∧ Below w.heap.size w w' := by
  have htl : (z.take n).length = n := by rw [List.length_take]; omega
  have hdl : (z.drop n).length = 32 := by rw [List.length_drop]; omega
  have hroom := hrb.room
  have hmost := hrb.most
  unfold maxLen at hmost
  have hrt := hrb.take n
  rw [htl] at hrt
  obtain ⟨a1, c1, hv1, hr1⟩ := mid_part hrb n 32 (by omega)
  rw [List.take_of_length_le (by omega)] at hr1
  have L1 := slice_rest b z.length capb n (by omega)
  rw [hn, hv1] at L1
  obtain ⟨b1, o1, ha1, _, _⟩ := hr1.cells (by omega)
  subst ha1
  obtain ⟨bb, ob, hab, _, _⟩ := hrb.cells (by omega)
  subst hab
  have LD : ∀ W : World, Below w.heap.size w W → (Instr.loadAt 39 (.pointer (some ⟨b1, o1, none⟩))).run Tryd.prog W = .ok (.agg (arr .u8 (z.drop n))) W := fun W hW => load_rd (by rw [hdl]; exact hr1.later hW) hdl
  have LA : ∀ W : World, (Instr.arrayAt 39 (.slice (some ⟨b1, o1, none⟩) 32 c1)).run Tryd.prog W = .ok (.pointer (some ⟨b1, o1, none⟩)) W := fun W => by simp [Instr.arrayAt, run_underlying Tryd.underlying39]
  have HSM := hid (fun (W : World) (h : Below w.heap.size w W) (g : Nat) (hp : Ps W (some ⟨g, 0, none⟩) 1 [z.take n]) => macOne a cap key ⟨g, 0, none⟩ (z.take n) W (hl.later h) (hr.later h) hp hk (by omega))
  have HSA := hid (fun W : World => same_word (hmac key (z.take n)) (z.drop n) W (hmac_length _ _) hdl)
  have HRT := hid hrt
  have HCL := hid (fun (W : World) (h : Below w.heap.size w W) => clone_some ⟨bb, ob, none⟩ capb (z.take n) W (by rw [htl]; exact hrt.later h) (by omega))
  rw [htl] at HCL
  have hnc : n ≤ capb := by omega
  have hnz : n ≤ 100000 := by omega
  clear hr hrb hl hrt hr1 hv1 hroom
  generalize hmac key (z.take n) = M at *
  generalize z.take n = zt at *
  generalize z.drop n = zd at *
  have hnn : ((z.length : Nat) : Int) - 32 = (n : Int) := by omega
  generalize z.length = zl at *
  subst hn
  clear hnn
  have hnn : (((n + 32 : Nat) : Int) - 32) = (n : Int) := by omega
  have hnn2 : ((n : Int) + 32 - 32) = (n : Int) := by omega
  have hn0 : ¬ (n : Int) < 0 := by omega
  generalize eqB 32 M zd = q at *
  go_enter Tryd.func32, Tryd.ntmps32
  go_wp2_with fail
  refine wp_region_held_drew (S := fun w' => Below w.heap.size w w') (by as_aux_lemma => kernel_rfl) (Below.refl _ _).drew (fun hS => ?_)
  generalize w.drew = wD at *
  refine Ord.take (i := 0) (d := 12) (v := ?v0) rfl rfl (by as_aux_lemma => kernel_rfl) (by as_aux_lemma => kernel_rfl) (by as_aux_lemma => kernel_rfl) (fun _ _ _ h => h) (by rfl) ?h0 (by assumption) ?_
  case h0 => intro w hSw; go_simp; try with_reducible rfl
  simp only [List.setIfInBounds_toArray, List.set_cons_zero, List.set_cons_succ]
  refine Ord.take (i := 1) (d := 13) (v := ?v1) rfl rfl (by as_aux_lemma => kernel_rfl) (by as_aux_lemma => kernel_rfl) (by as_aux_lemma => kernel_rfl) (fun _ _ _ h => h) (by rfl) ?h1 (by assumption) ?_
  case h1 => intro w hSw; go_simp; try with_reducible rfl
  simp only [List.setIfInBounds_toArray, List.set_cons_zero, List.set_cons_succ]
  refine Ord.take (i := 2) (d := 14) (v := ?v2) rfl rfl (by as_aux_lemma => kernel_rfl) (by as_aux_lemma => kernel_rfl) (by as_aux_lemma => kernel_rfl) (fun _ _ _ h => h) (by rfl) ?h2 (by assumption) ?_
  case h2 => intro w hSw; go_simp; try with_reducible rfl
  simp only [List.setIfInBounds_toArray, List.set_cons_zero, List.set_cons_succ]
  refine Ord.take (i := 3) (d := 15) (v := .slice (some ⟨bb, ob, none⟩) n capb) rfl rfl (by as_aux_lemma => kernel_rfl) (by as_aux_lemma => kernel_rfl) (by as_aux_lemma => kernel_rfl) (fun _ _ _ h => h) (by rfl) ?h3 (by assumption) ?_
  case h3 => intro w hSw; go_simp; try with_reducible rfl
  simp only [List.setIfInBounds_toArray, List.set_cons_zero, List.set_cons_succ]
  refine Ord.take (i := 6) (d := 18) (v := ?v6) rfl rfl (by as_aux_lemma => kernel_rfl) (by as_aux_lemma => kernel_rfl) (by as_aux_lemma => kernel_rfl) (fun _ _ _ h => h) (by rfl) ?h6 (by assumption) ?_
  case h6 => intro w hSw; go_simp; try with_reducible rfl
  simp only [List.setIfInBounds_toArray, List.set_cons_zero, List.set_cons_succ]
  refine Ord.take (i := 7) (d := 19) (v := ?v7) rfl rfl (by as_aux_lemma => kernel_rfl) (by as_aux_lemma => kernel_rfl) (by as_aux_lemma => kernel_rfl) (fun _ _ _ h => h) (by rfl) ?h7 (by assumption) ?_
  case h7 => intro w hSw; go_simp; try with_reducible rfl
  simp only [List.setIfInBounds_toArray, List.set_cons_zero, List.set_cons_succ]
  refine Ord.take (i := 8) (d := 20) (v := .slice (some ⟨b1, o1, none⟩) 32 c1) rfl rfl (by as_aux_lemma => kernel_rfl) (by as_aux_lemma => kernel_rfl) (by as_aux_lemma => kernel_rfl) (fun _ _ _ h => h) (by rfl) ?h8 (by assumption) ?_
  case h8 => intro w hSw; have hh := L1 w; go_simp; try with_reducible rfl
  simp only [List.setIfInBounds_toArray, List.set_cons_zero, List.set_cons_succ]
  refine Ord.take (i := 9) (d := 21) (v := .pointer (some ⟨b1, o1, none⟩)) rfl rfl (by as_aux_lemma => kernel_rfl) (by as_aux_lemma => kernel_rfl) (by as_aux_lemma => kernel_rfl) (fun _ _ _ h => h) (by rfl) ?h9 (by assumption) ?_
  case h9 => intro w hSw; have hh := LA w; go_simp; try with_reducible rfl
  simp only [List.setIfInBounds_toArray, List.set_cons_zero, List.set_cons_succ]
  refine Ord.take (i := 10) (d := 22) (v := .agg (arr .u8 zd)) rfl rfl (by as_aux_lemma => kernel_rfl) (by as_aux_lemma => kernel_rfl) (by as_aux_lemma => kernel_rfl) (fun _ _ _ h => h) (by rfl) ?h10 (by assumption) ?_
  case h10 => exact fun w hSw => run_load_op (p := .pointer (some ⟨b1, o1, none⟩)) rfl rfl (LD w hSw)
  simp only [List.setIfInBounds_toArray, List.set_cons_zero, List.set_cons_succ]
  refine wpAnyH_ready (rs := [4]) (by as_aux_lemma => kernel_rfl) (by simp) (AllReadyH.cons rfl (fun K hK => ?_) AllReadyH.nil)
  go_simp
  have hb4 := bel_alloc wD (.cells #[.slice (some ⟨bb, ob, none⟩) n capb] 22)
  have hp4 := Ps.one (HRT.out.later hS) wD.heap.size rfl
  have hS4 := Bn hS hb4
  refine hK.out _ _ hS4 (fun _ => ?_)
  clear hK K
  generalize hw4 : wD.alloc (.cells #[.slice (some ⟨bb, ob, none⟩) n capb] 22) = w4 at *
  have HC4 := hid (HSM.out w4 hS4 _ hp4)
  clear hb4 hp4 hw4
  refine wpAnyH_ready (rs := [5]) (by as_aux_lemma => kernel_rfl) (by simp) (AllReadyH.cons rfl (fun K hK => ?_) AllReadyH.nil)
  go_simp
  refine HC4.out.mono ?_
  rintro _ w5 ⟨rfl, hb5⟩
  have hS5 := Bn hS4 hb5
  refine hK.out _ _ hS5 (fun _ => ?_)
  clear hK K hb5 HC4
  refine wpAnyH_ready (rs := [11]) (by as_aux_lemma => kernel_rfl) (by simp) (AllReadyH.cons rfl (fun K hK => ?_) AllReadyH.nil)
  go_simp
  refine (HSA.out w5).mono ?_
  rintro _ w6 ⟨rfl, hb6⟩
  have hS6 := Bn hS5 hb6
  refine hK.out _ _ hS6 (fun _ => ?_)
  clear hK K hb6
  refine Ord.take (i := 12) (d := 24) (v := ?v12) rfl rfl (by as_aux_lemma => kernel_rfl) (by as_aux_lemma => kernel_rfl) (by as_aux_lemma => kernel_rfl) (fun _ _ _ h => h) (by rfl) ?h12 (by assumption) ?_
  case h12 => intro w hSw; go_simp; try with_reducible rfl
  simp only [List.setIfInBounds_toArray, List.set_cons_zero, List.set_cons_succ]
  refine wpAnyH_done (by as_aux_lemma => kernel_rfl) ?_ _
  have HS6 := hid hS6
  clear hS hS4 hS5 hS6 L1 LD LA HSM HSA HRT
  cases q with
  | false =>
    go_wp2
    go_ret2
    exact ⟨by simp, HS6.out⟩
  | true =>
    go_wp2_with fail
    go_at_call 50
    refine (HCL.out w6 HS6.out).mono ?_
    rintro _ w7 ⟨v7, rfl, hown7, hb7⟩
    have hzz := HS6.out.size
    have HE := hid (Bn HS6.out hb7)
    have hown : w7.ownsRow w.heap.size 5 1 v7 n (V zt) := by
      refine ⟨hown7.1, ?_⟩
      rcases hown7.2 with h | ⟨g, cp, cur, h1, h2, h3⟩
      · exact Or.inl h
      · exact Or.inr ⟨g, cp, cur, h1, Nat.le_trans hzz h2, h3⟩
    clear hown7 hb7 HCL
    go_wp2
    go_ret2
    exact ⟨by simpa using hown, HE.out⟩
end Go.Proofs.YtgnjicpmfpgdeaaDoor.Sh
