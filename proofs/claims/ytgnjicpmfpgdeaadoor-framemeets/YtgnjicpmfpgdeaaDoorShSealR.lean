/-
  The contracts of the document's Seal and Open.
-/
import Derived.Test.YtgnjicpmfpgdeaaDoorShOpen
import Derived.Test.YtgnjicpmfpgdeaaDoorShDerive
import Derived.Test.YtgnjicpmfpgdeaaDoorShPut
namespace Go.Proofs.YtgnjicpmfpgdeaaDoor.Sh
open Go.RowKit Sha

theorem own_low {w : World} {B B' n : Nat} {v : Value} {xs : List Value} (h : w.ownsRow B 5 1 v n xs) (hB : B' ≤ B) : w.ownsRow B' 5 1 v n xs := by
  refine ⟨h.1, ?_⟩
  rcases h.2 with h | ⟨g, cp, cur, h1, h2, h3⟩
  · exact Or.inl h
  · exact Or.inr ⟨g, cp, cur, h1, Nat.le_trans hB h2, h3⟩

/-- append of bytes behind a row of one's own, as an operation. -/
theorem wp_app_any (w : World) {o : Oper} {ac : Act} {K : Act → World → Prop} {Q : Exit → Act → World → Prop} (s x : Operand)
    (ho : o.op = .call { callee := .builtin .append, args := #[s, x], argTypes := #[22, 22] }) (B : Nat) (v : Value) (l : List Nat) (hs : ac.eval s = v) (hown : w.ownsRow B 5 1 v l.length (V l))
    (a : Option Addr) (cap : Nat) (zs : List Nat) (hx : ac.eval x = .slice a zs.length cap) (hrd : Rd w (.slice a zs.length cap) a cap zs) (hbd : l.length + zs.length ≤ 1000000) (hB : B ≤ w.heap.size)
    (h : ∀ v' w', w'.ownsRow B 5 1 v' (l ++ zs).length (V (l ++ zs)) → w.grownBy w' v.ownBlock → K (ac.put o.dst v') w') : o.wp Tryd.prog ac w K Q := by
  obtain ⟨i0, hi, hz0, hz1, hz2⟩ := info_parts Tryd.info5
  cases a with
  | none =>
    have hc := hrd.nil rfl
    have hm := hrd.room
    have hz : zs = [] := List.length_eq_zero_iff.1 (by omega)
    subst hz hc
    have hr := run_append_owned_none (P := Tryd.prog) (w := w) B 22 o.type 5 i0 1 Tryd.underlying22 hi v l.length _ hown
    unfold Oper.wp execOp
    simp only [ho, resolve, invoke, builtin, Sem.run_bind, Sem.run_pure, Result.andThen_ok, List.map_toArray, List.map_cons, List.map_nil, hs, hx, List.length_nil, hr]
    exact h v w (by simpa using hown) (grown_refl _ _)
  | some ad =>
    refine wp_append_own w s x 22 ho B 5 i0 (.int .u8 0) 1 1 Tryd.underlying22 hi hz0 hz1 hz2 rfl (by decide) v l.length _ hs hown ad zs.length cap (V zs) hx (by simp [V]) ?_ (V_one _) (by unfold maxLen; omega) (by omega) hB ?_
    · intro j u hj
      have hjl : j < zs.length := by
        have := (List.getElem?_eq_some_iff.1 hj).1
        simpa [V] using this
      obtain ⟨b, off, hb, _, hc⟩ := hrd.cells (by omega)
      have hb' := Option.some.inj hb
      subst hb'
      rw [Go.WideShapes.add_plain, hc j hjl, ← hj]
      simp [V, List.getD, List.getElem?_eq_getElem hjl]
    · intro v' w' h1 h2 _
      refine h v' w' ?_ h2
      rw [List.length_append, show V (l ++ zs) = V l ++ V zs from by simp [V]]
      exact h1

set_option maxHeartbeats 1600000 in
set_option maxRecDepth 100000 in
theorem seal_ref (a : Option Addr) (cap : Nat) (key : List Nat) (b : Option Addr) (capb : Nat) (z : List Nat) (w : World) (hr : Rd w (.slice a key.length cap) a cap key) (hrb : Rd w (.slice b z.length capb) b capb z) (hk : key.length ≤ 100000) (hz : z.length ≤ 100000) :
    Calls Tryd.prog 21 #[.slice a key.length cap, .slice b z.length capb] w fun e w' => ∃ v, e = .returned v ∧ w'.ownsRow w.heap.size 5 1 v (z ++ hmac key z).length (V (z ++ hmac key z)) ∧ Below w.heap.size w w' := by
  have HOF := hid (macOf_ref a cap key b capb z w hr hrb (by omega) (by omega))
  have HRB := hid hrb
  have hDl := hmac_length key z
  have HDT := hid (hmac_lt key z)
  clear hr hrb
  generalize hmac key z = D at *
  go_enter Tryd.func21, Tryd.ntmps21
  go_wp2_with fail
  go_at_call 34
  refine HOF.out.mono ?_
  rintro _ w2 ⟨rfl, hb2⟩
  obtain ⟨q3, f3, z3⟩ := put_new w2 D 39 w2.heap.size rfl
  have hn2 := heap_new w2 (.cells (arr .u8 z32) 39)
  have hsd : (arr .u8 D).size = 32 := by rw [arr_size, hDl]
  go_wp2_with (first
    | (refine wpList_alloc_at rfl 39 rfl (some 5) rfl (arr .u8 z32) Tryd.zero39 w2.heap.size rfl ?_)
    | (refine wpList_store_rowTo rfl 39 _ _ rfl rfl w2.heap.size (arr .u8 D) rfl rfl 39 _ hn2 (by rw [hsd]; exact Tryd.size39') (by rw [hsd]; rfl) (arr_one _ _) ?_))
  generalize (w2.alloc (.cells (arr .u8 z32) 39)).setRow w2.heap.size (arr .u8 D) = w3 at *
  have hB3 := Bn hb2 q3
  have hrd3 : Rd w3 (.slice (some ⟨w2.heap.size, 0, none⟩) D.length 32) (some ⟨w2.heap.size, 0, none⟩) 32 D := by rw [hDl]; exact Rd.block 32 hDl f3 (by decide) HDT.out
  have HRD := hid hrd3
  have hz3 := hB3.size
  refine wp_region_held_drew (S := fun w' => Below w.heap.size w w') (by as_aux_lemma => kernel_rfl) hB3.drew (fun hS => ?_)
  have hD := (Below.refl w3.heap.size w3).drew
  have hzw := hS.size
  clear hn2 q3 f3 hrd3 z3
  generalize w3.drew = wD at *
  refine Ord.take (i := 1) (d := 10) (v := ?v1) rfl rfl (by as_aux_lemma => kernel_rfl) (by as_aux_lemma => kernel_rfl) (by as_aux_lemma => kernel_rfl) (fun _ _ _ h => h) (by rfl) ?h1 (by assumption) ?_
  case h1 => intro w hSw; go_simp; try with_reducible rfl
  simp only [List.setIfInBounds_toArray, List.set_cons_zero, List.set_cons_succ]
  refine Ord.take (i := 3) (d := 12) (v := .slice (some ⟨w2.heap.size, 0, none⟩) 32 32) rfl rfl (by as_aux_lemma => kernel_rfl) (by as_aux_lemma => kernel_rfl) (by as_aux_lemma => kernel_rfl) (fun _ _ _ h => h) (by rfl) ?h3 (by assumption) ?_
  case h3 => intro w hSw; go_simp; try with_reducible rfl
  simp only [List.setIfInBounds_toArray, List.set_cons_zero, List.set_cons_succ]
  refine wpAnyH_ready (rs := [0]) (by as_aux_lemma => kernel_rfl) (by simp) (AllReadyH.cons rfl (fun K hK => ?_) AllReadyH.nil)
  go_simp
  have hb4 := bel_alloc wD (.cells #[] 5)
  have ho4 := own_lit0 wD
  have hbA := hb4
  have hS4 := Bn hS hb4
  have hD4 := Bn hD hb4
  have hs4 : (wD.alloc (.cells #[] 5)).heap.size = wD.heap.size + 1 := by simp
  refine hK.out _ _ hS4 (fun _ => ?_)
  clear hK K
  have hrb4 := HRB.out.later hS4
  have hrd4 := HRD.out.later hD4
  generalize hw4 : wD.alloc (.cells #[] 5) = w4 at *
  clear hw4
  refine wpAnyH_ready (rs := [2]) (by as_aux_lemma => kernel_rfl) (by simp) (AllReadyH.cons rfl (fun K hK => ?_) AllReadyH.nil)
  refine wp_app_any _ (.tmp 9) (.tmp 10) rfl wD.heap.size _ [] rfl ho4 b capb z rfl hrb4 (by simp; omega) (by omega) ?_
  intro v5 w5 ho5 hg5
  have hS5 : Below w.heap.size w w5 := hS4.grown hg5 (by omega) (fun j hj => by have := (ho4.lt j hj).1; omega)
  have hD5 : Below wD.heap.size wD w5 := hbA.grown hg5 (by omega) (fun j hj => (ho4.lt j hj).1)
  rw [List.nil_append] at ho5
  have hrd5 := HRD.out.later (Bn hD hD5)
  have hz5 := hD5.size
  refine hK.out _ _ hS5 (fun _ => ?_)
  clear hK K hg5 ho4 hrd4 hrb4
  refine Ord.put (d := 11) rfl ?_
  simp only [List.setIfInBounds_toArray, List.set_cons_zero, List.set_cons_succ]
  refine wpAnyH_ready (rs := [4]) (by as_aux_lemma => kernel_rfl) (by simp) (AllReadyH.cons rfl (fun K hK => ?_) AllReadyH.nil)
  refine wp_app_any _ (.tmp 11) (.tmp 12) rfl wD.heap.size _ z rfl ho5 _ 32 D (by rw [hDl]; rfl) hrd5 (by omega) (by omega) ?_
  intro v6 w6 ho6 hg6
  have hS6 : Below w.heap.size w w6 := hS5.grown hg6 (by omega) (fun j hj => by have := (ho5.lt j hj).1; omega)
  have hown := own_low ho6 hzw
  refine hK.out _ _ hS6 (fun _ => ?_)
  clear hK K hg6 ho5 ho6 hrd5
  refine Ord.put (d := 13) rfl ?_
  simp only [List.setIfInBounds_toArray, List.set_cons_zero, List.set_cons_succ]
  refine Ord.take (i := 5) (d := 4) (v := v6) rfl rfl (by as_aux_lemma => kernel_rfl) (by as_aux_lemma => kernel_rfl) (by as_aux_lemma => kernel_rfl) (fun _ _ _ h => h) (by rfl) ?h5 (by assumption) ?_
  case h5 => intro w hSw; go_simp; try with_reducible rfl
  simp only [List.setIfInBounds_toArray, List.set_cons_zero, List.set_cons_succ]
  refine wpAnyH_done (by as_aux_lemma => kernel_rfl) ?_ _
  have HS6 := hid hS6
  clear hS hS4 hS5 hS6 hD hD4 hD5 hbA hB3 hb2
  go_wp2
  go_ret
  exact ⟨_, rfl, hown, HS6.out⟩
end Go.Proofs.YtgnjicpmfpgdeaaDoor.Sh
