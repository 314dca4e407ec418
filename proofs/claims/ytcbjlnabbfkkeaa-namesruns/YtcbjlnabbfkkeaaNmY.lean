/-
  The document's Parts (56).
-/
import Derived.Test.YtcbjlnabbfkkeaaNmX
namespace Go.Proofs.Ytcbjlnabbfkkeaa
open Go.ChangeShapes Go.WideShapes Go.ChangeAt Go.RowKit Go.Deep Go.Lib

theorem wp_buildOne_W {P : Program} {o : Oper} {a : Act} {w : World} {K : Act → World → Prop} {Q : Exit → Act → World → Prop} (t e : TypeId) (x : Operand) (ho : o.op = .buildSlice t 1 #[(0, x)])
    (cells : Array Value) (ie : TypeInfo) (z : Value) (hu : P.underlying t = some (.slice e)) (hie : P.info? e = some ie) (hz : ie.zero = some z) (hs : ie.size = cells.size) (hp : 0 < cells.size) (hq : cells.size ≤ 1000) (hx : a.eval x = .agg cells) (N : Nat) (hN : N = w.heap.size)
    (h : ∀ W', Hid (W'.heap[N]? = some (.cells cells e)) → Hid (Below N w W') → K (a.put o.dst (.slice (some ⟨N, 0, none⟩) 1 1)) W') : o.wp P a w K Q := by
  subst hN
  refine wp_buildSlice t e 1 _ ho cells ie z hu hie hz (by rw [hs]; omega) (by rw [hs]; omega) ?_ (h _ (hid (heap_alc w _)) (hid (bel_alc w _)))
  have := Great.fill_whole (s := cells.size) hp [.agg cells] ((Array.range (1 * cells.size)).map (z.cells[· % z.cells.size]!)) (fun v hv => by simp at hv; subst hv; rfl) (by simp)
  rw [hs]
  simpa [hx, Value.cells] using this
set_option maxHeartbeats 6400000 in
set_option maxRecDepth 100000 in
theorem dparts_word (W : World) (a : Option Addr) (cap : Nat) (l : List Pc) (f z : Int) (h : Rp W a cap l) (h40 : l.length ≤ 40) (hnk : l.all nOk = true) (hf : 0 ≤ f) (hz : 0 ≤ z) (hfz : f + z ≤ 1048576) :
    Calls Try.prog 56 #[.slice a l.length cap, .int .i64 f, .int .i64 z] W fun e w' => ∃ a' cap', e = .returned (.slice a' (partL 0 f (f + z) l).length cap') ∧ Rw 35 ptC ptZ w' a' cap' (partL 0 f (f + z) l) ∧ (∀ p ∈ partL 0 f (f + z) l, p.x.1.length = 32) ∧ Below W.heap.size W w' := by
  have hr := h.room
  have hm := h.most
  unfold maxLen at hm
  have HR := hid h
  have HNK := hid hnk
  obtain ⟨i0, hi, hz0, hz1, hz2⟩ := info_parts Try.info64
  obtain ⟨len, hle⟩ : ∃ n, n = l.length := ⟨_, rfl⟩
  have HL := hid hle
  rw [← hle] at hr h40 ⊢
  clear h hle hnk
  go_enter Try.func56, Try.ntmps56
  go_wp2
  go_loopw [7, 8, 9] (fun x7 x8 x9 wr => ∃ (k : Nat) (acc : List Pt), k ≤ len ∧ acc.length ≤ k ∧ x9 = .int .i64 (k : Int) ∧ x8 = .int .i64 (sumP (l.take k)) ∧ Hid (wr.ownsRow W.heap.size 64 35 x7 acc.length (acc.flatMap ptC)) ∧ Hid (acc ++ partL (sumP (l.take k)) f (f + z) (l.drop k) = partL 0 f (f + z) l) ∧ Hid (∀ p ∈ acc, p.x.1.length = 32) ∧ Hid (Below W.heap.size W wr)) (fun _ _ x9 _ => len - (intOf x9).toNat)
  case atStart => exact ⟨0, [], by omega, by simp, rfl, rfl, World.ownsRow_nil _ _ _ _, rfl, (fun p hp => by cases hp), Below.refl _ _⟩
  case round =>
    obtain ⟨k, acc, hk, hak, rfl, rfl, HO, HA, HP, HX⟩ := hrel
    have hsb := sumP_bound (l.take k) (all_take l HNK.out k)
    have hs0 := hsb.1
    have hs1 : sumP (l.take k) ≤ 163840 := by
      have h1 := hsb.2
      have h2 : (l.take k).length ≤ 40 := by simp; omega
      omega
    clear hsb
    by_cases hkl : k < len
    · have hkz : (k : Int) < (len : Int) := by omega
      obtain ⟨b, o, rfl, hb, hc⟩ := HR.out.cells (by rw [← HL.out]; omega)
      have hx0 := hc k (by rw [← HL.out]; exact hkl)
      have hlen := (HR.out.get (j := k) (by rw [← HL.out]; exact hkl)).len
      have HST := hid (sumP_take l k (by rw [← HL.out]; exact hkl))
      have hdr := drop_pc l k (by rw [← HL.out]; exact hkl)
      have HXN : Hid (nOk (l.getD k pc0) = true) := List.all_eq_true.1 HNK.out _ (by simp [List.getD, List.getElem?_eq_getElem (show k < l.length by rw [← HL.out]; exact hkl)])
      rw [hdr] at HA
      generalize l.getD k pc0 = x at *
      generalize sumP (l.take k) = S0 at *
      have HA2 : Hid (acc ++ ((if max f S0 < min (f + z) (S0 + x.2) then [⟨x, max f S0 - S0, min (f + z) (S0 + x.2) - S0⟩] else []) ++ partL (S0 + x.2) f (f + z) (l.drop (k + 1))) = partL 0 f (f + z) l) := HA.out
      have hx2 : 1 ≤ x.2 ∧ x.2 ≤ 4096 := of_decide_eq_true HXN.out
      have hx1 := hx2.1
      have hx3 := hx2.2
      have HR0 : Hid (∀ X, Below W.heap.size W X → X.rangeAt b (o + k * 33) (pcC x)) := fun X hX => range_later hx0 hX hb
      have HXL := hid hlen
      have HCN : Hid (∀ X, Below W.heap.size W X → X.cell? ⟨b, o + k * 33 + 32, none⟩ = some (.int .i64 x.2)) := fun X hX => HR0.out X hX 32 _ (pcC_n HXL.out)
      have HRD : Hid (∀ X, Below W.heap.size W X → X.rangeAt b (o + k * 33) (x.1.map (Value.int .u8))) := fun X hX j v hv => by
        have hj : j < 32 := by
          have := (List.getElem?_eq_some_iff.1 hv).1
          simpa [HXL.out] using this
        refine HR0.out X hX j v ?_
        rw [pcC_d HXL.out j hj, ← hv]
        simp [List.getD, List.getElem?_eq_getElem (show j < x.1.length by rw [HXL.out]; exact hj)]
      have HDL : Hid ((x.1.map (Value.int .u8)).length = 32) := by show _ = _; simp [HXL.out]
      clear hx0 hlen hdr HA hc hb hx2
      go_wp2_with fail
      refine wp_region_held_drew (S := fun X => Below W.heap.size W X) (by kernel_rfl) (bel_drewS HX.out) (fun hS0 => ?_)
      have hB0 : Below wr.heap.size wr wr.drew := (Below.refl _ _).drew
      generalize wr.drew = v0 at *
      simp only [List.size_toArray, List.length_cons, List.length_nil, Nat.reduceAdd]
      refine Ord.take (i := 0) (d := 18) (v := ?vA0) rfl rfl (by as_aux_lemma => kernel_rfl) (by as_aux_lemma => kernel_rfl) (by as_aux_lemma => kernel_rfl) (fun _ _ _ h => h) (by rfl) ?hA0 (by assumption) ?_
      case hA0 => intro w hSw; go_simp; try first | with_reducible rfl | exact IntWalk.i64_in _ (by omega)
      simp only [List.setIfInBounds_toArray, List.set_cons_zero, List.set_cons_succ]
      refine Ord.take (i := 1) (d := 19) (v := ?vA1) rfl rfl (by as_aux_lemma => kernel_rfl) (by as_aux_lemma => kernel_rfl) (by as_aux_lemma => kernel_rfl) (fun _ _ _ h => h) (by rfl) ?hA1 (by assumption) ?_
      case hA1 => intro w hSw; go_simp; try first | with_reducible rfl | exact IntWalk.i64_in _ (by omega)
      simp only [List.setIfInBounds_toArray, List.set_cons_zero, List.set_cons_succ]
      refine Ord.take (i := 2) (d := 20) (v := .int .i64 (max f S0)) rfl rfl (by as_aux_lemma => kernel_rfl) (by as_aux_lemma => kernel_rfl) (by as_aux_lemma => kernel_rfl) (fun _ _ _ h => h) (by rfl) ?hA2 (by assumption) ?_
      case hA2 => intro w hSw; go_simp; try first | with_reducible rfl | exact IntWalk.i64_in _ (by omega)
      simp only [List.setIfInBounds_toArray, List.set_cons_zero, List.set_cons_succ]
      refine Ord.take (i := 3) (d := 21) (v := ?vA3) rfl rfl (by as_aux_lemma => kernel_rfl) (by as_aux_lemma => kernel_rfl) (by as_aux_lemma => kernel_rfl) (fun _ _ _ h => h) (by rfl) ?hA3 (by assumption) ?_
      case hA3 => intro w hSw; go_simp; try first | with_reducible rfl | exact IntWalk.i64_in _ (by omega)
      simp only [List.setIfInBounds_toArray, List.set_cons_zero, List.set_cons_succ]
      refine Ord.take (i := 4) (d := 22) (v := ?vA4) rfl rfl (by as_aux_lemma => kernel_rfl) (by as_aux_lemma => kernel_rfl) (by as_aux_lemma => kernel_rfl) (fun _ _ _ h => h) (by rfl) ?hA4 (by assumption) ?_
      case hA4 => intro w hSw; go_simp; try first | with_reducible rfl | exact IntWalk.i64_in _ (by omega)
      simp only [List.setIfInBounds_toArray, List.set_cons_zero, List.set_cons_succ]
      refine Ord.take (i := 5) (d := 23) (v := .int .i64 (f + z)) rfl rfl (by as_aux_lemma => kernel_rfl) (by as_aux_lemma => kernel_rfl) (by as_aux_lemma => kernel_rfl) (fun _ _ _ h => h) (by rfl) ?hA5 (by assumption) ?_
      case hA5 => intro w hSw; go_simp; try first | with_reducible rfl | exact IntWalk.i64_in _ (by omega)
      simp only [List.setIfInBounds_toArray, List.set_cons_zero, List.set_cons_succ]
      refine Ord.take (i := 6) (d := 24) (v := ?vA6) rfl rfl (by as_aux_lemma => kernel_rfl) (by as_aux_lemma => kernel_rfl) (by as_aux_lemma => kernel_rfl) (fun _ _ _ h => h) (by rfl) ?hA6 (by assumption) ?_
      case hA6 => intro w hSw; go_simp; try first | with_reducible rfl | exact IntWalk.i64_in _ (by omega)
      simp only [List.setIfInBounds_toArray, List.set_cons_zero, List.set_cons_succ]
      refine Ord.take (i := 7) (d := 25) (v := ?vA7) rfl rfl (by as_aux_lemma => kernel_rfl) (by as_aux_lemma => kernel_rfl) (by as_aux_lemma => kernel_rfl) (fun _ _ _ h => h) (by rfl) ?hA7 (by assumption) ?_
      case hA7 => intro w hSw; go_simp; try first | with_reducible rfl | exact IntWalk.i64_in _ (by omega)
      simp only [List.setIfInBounds_toArray, List.set_cons_zero, List.set_cons_succ]
      refine Ord.take (i := 8) (d := 26) (v := ?vA8) rfl rfl (by as_aux_lemma => kernel_rfl) (by as_aux_lemma => kernel_rfl) (by as_aux_lemma => kernel_rfl) (fun _ _ _ h => h) (by rfl) ?hA8 (by assumption) ?_
      case hA8 => intro w hSw; go_simp; try first | with_reducible rfl | exact IntWalk.i64_in _ (by omega)
      simp only [List.setIfInBounds_toArray, List.set_cons_zero, List.set_cons_succ]
      refine Ord.take (i := 9) (d := 27) (v := .pointer (some ⟨b, o + k * 33, none⟩)) rfl rfl (by as_aux_lemma => kernel_rfl) (by as_aux_lemma => kernel_rfl) (by as_aux_lemma => kernel_rfl) (fun _ _ _ h => h) (by rfl) ?hA9 (by assumption) ?_
      case hA9 => intro w hSw; go_simp; try first | with_reducible rfl | exact IntWalk.i64_in _ (by omega)
      simp only [List.setIfInBounds_toArray, List.set_cons_zero, List.set_cons_succ]
      refine Ord.take (i := 10) (d := 28) (v := .pointer (some ⟨b, o + k * 33 + 32, none⟩)) rfl rfl (by as_aux_lemma => kernel_rfl) (by as_aux_lemma => kernel_rfl) (by as_aux_lemma => kernel_rfl) (fun _ _ _ h => h) (by rfl) ?hA10 (by assumption) ?_
      case hA10 => intro w hSw; go_simp; try first | with_reducible rfl | exact IntWalk.i64_in _ (by omega)
      simp only [List.setIfInBounds_toArray, List.set_cons_zero, List.set_cons_succ]
      refine Ord.take (i := 11) (d := 29) (v := .int .i64 x.2) rfl rfl (by as_aux_lemma => kernel_rfl) (by as_aux_lemma => kernel_rfl) (by as_aux_lemma => kernel_rfl) (fun _ _ _ h => h) (by rfl) ?hA11 (by assumption) ?_
      case hA11 => intro w hSw; have hc := HCN.out _ hSw; go_simp; try first | with_reducible rfl | exact IntWalk.i64_in _ (by omega)
      simp only [List.setIfInBounds_toArray, List.set_cons_zero, List.set_cons_succ]
      refine Ord.take (i := 12) (d := 30) (v := .int .i64 (S0 + x.2)) rfl rfl (by as_aux_lemma => kernel_rfl) (by as_aux_lemma => kernel_rfl) (by as_aux_lemma => kernel_rfl) (fun _ _ _ h => h) (by rfl) ?hA12 (by assumption) ?_
      case hA12 => intro w hSw; go_simp; try first | with_reducible rfl | exact IntWalk.i64_in _ (by omega)
      simp only [List.setIfInBounds_toArray, List.set_cons_zero, List.set_cons_succ]
      refine Ord.take (i := 13) (d := 31) (v := .int .i64 (min (f + z) (S0 + x.2))) rfl rfl (by as_aux_lemma => kernel_rfl) (by as_aux_lemma => kernel_rfl) (by as_aux_lemma => kernel_rfl) (fun _ _ _ h => h) (by rfl) ?hA13 (by assumption) ?_
      case hA13 => intro w hSw; go_simp; try first | with_reducible rfl | exact IntWalk.i64_in _ (by omega)
      simp only [List.setIfInBounds_toArray, List.set_cons_zero, List.set_cons_succ]
      refine Ord.take (i := 14) (d := 10) (v := ?vA14) rfl rfl (by as_aux_lemma => kernel_rfl) (by as_aux_lemma => kernel_rfl) (by as_aux_lemma => kernel_rfl) (fun _ _ _ h => h) (by rfl) ?hA14 (by assumption) ?_
      case hA14 => intro w hSw; go_simp; try first | with_reducible rfl | exact IntWalk.i64_in _ (by omega)
      simp only [List.setIfInBounds_toArray, List.set_cons_zero, List.set_cons_succ]
      refine Ord.take (i := 15) (d := 11) (v := ?vA15) rfl rfl (by as_aux_lemma => kernel_rfl) (by as_aux_lemma => kernel_rfl) (by as_aux_lemma => kernel_rfl) (fun _ _ _ h => h) (by rfl) ?hA15 (by assumption) ?_
      case hA15 => intro w hSw; go_simp; try first | with_reducible rfl | exact IntWalk.i64_in _ (by omega)
      simp only [List.setIfInBounds_toArray, List.set_cons_zero, List.set_cons_succ]
      refine wpAnyH_done (by as_aux_lemma => kernel_rfl) ?_ _
      have hS0' := hid hS0
      have HO0 := hid (own_later HO.out hB0)
      have cN := HCN.out _ hS0
      have HRX := hid (HRD.out _ hS0)
      clear HO
      obtain ⟨p, hp⟩ : ∃ p, p = max f S0 := ⟨_, rfl⟩
      obtain ⟨q, hq⟩ : ∃ q, q = min (f + z) (S0 + x.2) := ⟨_, rfl⟩
      have HPQ := hid (And.intro hp hq)
      rw [← hp, ← hq] at HA2 ⊢
      have hp0 : 0 ≤ p ∧ p ≤ 2000000 := by omega
      have hq0 : 0 ≤ q ∧ q ≤ 2000000 := by omega
      clear hp hq
      by_cases hpq : p < q
      · rw [if_pos hpq] at HA2
        have HBU := hid (built64 x.2 (p - S0) (q - S0) x.1 HXL.out)
        have HPL : Hid ((ptC ⟨(x.1, x.2), p - S0, q - S0⟩).length = 35) := ptC_len HXL.out
        have HZ0 : Hid (W.heap.size ≤ v0.heap.size) := hS0.size
        have hak2 : acc.length ≤ 40 := by omega
        go_wp2_with fail
        refine wp_region_held_drew (S := fun X => Below W.heap.size W X) (by kernel_rfl) (bel_drewS hS0'.out) (fun hS1 => ?_)
        have hB1 : Below v0.heap.size v0 v0.drew := (Below.refl _ _).drew
        generalize v0.drew = v1 at *
        simp only [List.size_toArray, List.length_cons, List.length_nil, Nat.reduceAdd]
        refine Ord.take (i := 0) (d := 35) (v := ?vD0) rfl rfl (by as_aux_lemma => kernel_rfl) (by as_aux_lemma => kernel_rfl) (by as_aux_lemma => kernel_rfl) (fun _ _ _ h => h) (by rfl) ?hD0 (by assumption) ?_
        case hD0 => intro w hSw; go_simp; try first | with_reducible rfl | exact IntWalk.i64_in _ (by omega)
        simp only [List.setIfInBounds_toArray, List.set_cons_zero, List.set_cons_succ]
        refine Ord.take (i := 1) (d := 36) (v := ?vD1) rfl rfl (by as_aux_lemma => kernel_rfl) (by as_aux_lemma => kernel_rfl) (by as_aux_lemma => kernel_rfl) (fun _ _ _ h => h) (by rfl) ?hD1 (by assumption) ?_
        case hD1 => intro w hSw; go_simp; try first | with_reducible rfl | exact IntWalk.i64_in _ (by omega)
        simp only [List.setIfInBounds_toArray, List.set_cons_zero, List.set_cons_succ]
        refine Ord.take (i := 2) (d := 37) (v := ?vD2) rfl rfl (by as_aux_lemma => kernel_rfl) (by as_aux_lemma => kernel_rfl) (by as_aux_lemma => kernel_rfl) (fun _ _ _ h => h) (by rfl) ?hD2 (by assumption) ?_
        case hD2 => intro w hSw; go_simp; try first | with_reducible rfl | exact IntWalk.i64_in _ (by omega)
        simp only [List.setIfInBounds_toArray, List.set_cons_zero, List.set_cons_succ]
        refine Ord.take (i := 3) (d := 38) (v := .pointer (some ⟨b, o + k * 33, none⟩)) rfl rfl (by as_aux_lemma => kernel_rfl) (by as_aux_lemma => kernel_rfl) (by as_aux_lemma => kernel_rfl) (fun _ _ _ h => h) (by rfl) ?hD3 (by assumption) ?_
        case hD3 => intro w hSw; go_simp; try first | with_reducible rfl | exact IntWalk.i64_in _ (by omega)
        simp only [List.setIfInBounds_toArray, List.set_cons_zero, List.set_cons_succ]
        refine Ord.take (i := 4) (d := 39) (v := .pointer (some ⟨b, o + k * 33, none⟩)) rfl rfl (by as_aux_lemma => kernel_rfl) (by as_aux_lemma => kernel_rfl) (by as_aux_lemma => kernel_rfl) (fun _ _ _ h => h) (by rfl) ?hD4 (by assumption) ?_
        case hD4 => intro w hSw; go_simp; try first | with_reducible rfl | exact IntWalk.i64_in _ (by omega)
        simp only [List.setIfInBounds_toArray, List.set_cons_zero, List.set_cons_succ]
        refine Ord.take (i := 5) (d := 40) (v := .agg (x.1.map (Value.int .u8)).toArray) rfl rfl (by as_aux_lemma => kernel_rfl) (by as_aux_lemma => kernel_rfl) (by as_aux_lemma => kernel_rfl) (fun _ _ _ h => h) (by rfl) ?hD5 (by assumption) ?_
        case hD5 => intro w hSw; exact exec_load 32 (.tmp 39) rfl b (o + k * 33) rfl (run_loadVar_mid w b (o + k * 33) 32 (x.1.map (Value.int .u8)) _ (HRD.out _ hSw) Try.underlying32 rfl (by rw [HDL.out]; exact Try.size32))
        simp only [List.setIfInBounds_toArray, List.set_cons_zero, List.set_cons_succ]
        refine Ord.take (i := 6) (d := 41) (v := ?vD6) rfl rfl (by as_aux_lemma => kernel_rfl) (by as_aux_lemma => kernel_rfl) (by as_aux_lemma => kernel_rfl) (fun _ _ _ h => h) (by rfl) ?hD6 (by assumption) ?_
        case hD6 => intro w hSw; go_simp; try first | with_reducible rfl | exact IntWalk.i64_in _ (by omega)
        simp only [List.setIfInBounds_toArray, List.set_cons_zero, List.set_cons_succ]
        refine Ord.take (i := 7) (d := 42) (v := ?vD7) rfl rfl (by as_aux_lemma => kernel_rfl) (by as_aux_lemma => kernel_rfl) (by as_aux_lemma => kernel_rfl) (fun _ _ _ h => h) (by rfl) ?hD7 (by assumption) ?_
        case hD7 => intro w hSw; go_simp; try first | with_reducible rfl | exact IntWalk.i64_in _ (by omega)
        simp only [List.setIfInBounds_toArray, List.set_cons_zero, List.set_cons_succ]
        refine Ord.take (i := 8) (d := 43) (v := .pointer (some ⟨b, o + k * 33, none⟩)) rfl rfl (by as_aux_lemma => kernel_rfl) (by as_aux_lemma => kernel_rfl) (by as_aux_lemma => kernel_rfl) (fun _ _ _ h => h) (by rfl) ?hD8 (by assumption) ?_
        case hD8 => intro w hSw; go_simp; try first | with_reducible rfl | exact IntWalk.i64_in _ (by omega)
        simp only [List.setIfInBounds_toArray, List.set_cons_zero, List.set_cons_succ]
        refine Ord.take (i := 9) (d := 44) (v := .pointer (some ⟨b, o + k * 33 + 32, none⟩)) rfl rfl (by as_aux_lemma => kernel_rfl) (by as_aux_lemma => kernel_rfl) (by as_aux_lemma => kernel_rfl) (fun _ _ _ h => h) (by rfl) ?hD9 (by assumption) ?_
        case hD9 => intro w hSw; go_simp; try first | with_reducible rfl | exact IntWalk.i64_in _ (by omega)
        simp only [List.setIfInBounds_toArray, List.set_cons_zero, List.set_cons_succ]
        refine Ord.take (i := 10) (d := 45) (v := .int .i64 x.2) rfl rfl (by as_aux_lemma => kernel_rfl) (by as_aux_lemma => kernel_rfl) (by as_aux_lemma => kernel_rfl) (fun _ _ _ h => h) (by rfl) ?hD10 (by assumption) ?_
        case hD10 => intro w hSw; have hc := HCN.out _ hSw; go_simp; try first | with_reducible rfl | exact IntWalk.i64_in _ (by omega)
        simp only [List.setIfInBounds_toArray, List.set_cons_zero, List.set_cons_succ]
        refine Ord.take (i := 11) (d := 46) (v := ?vD11) rfl rfl (by as_aux_lemma => kernel_rfl) (by as_aux_lemma => kernel_rfl) (by as_aux_lemma => kernel_rfl) (fun _ _ _ h => h) (by rfl) ?hD11 (by assumption) ?_
        case hD11 => intro w hSw; go_simp; try first | with_reducible rfl | exact IntWalk.i64_in _ (by omega)
        simp only [List.setIfInBounds_toArray, List.set_cons_zero, List.set_cons_succ]
        refine Ord.take (i := 12) (d := 47) (v := ?vD12) rfl rfl (by as_aux_lemma => kernel_rfl) (by as_aux_lemma => kernel_rfl) (by as_aux_lemma => kernel_rfl) (fun _ _ _ h => h) (by rfl) ?hD12 (by assumption) ?_
        case hD12 => intro w hSw; go_simp; try first | with_reducible rfl | exact IntWalk.i64_in _ (by omega)
        simp only [List.setIfInBounds_toArray, List.set_cons_zero, List.set_cons_succ]
        refine Ord.take (i := 13) (d := 48) (v := .int .i64 (p - S0)) rfl rfl (by as_aux_lemma => kernel_rfl) (by as_aux_lemma => kernel_rfl) (by as_aux_lemma => kernel_rfl) (fun _ _ _ h => h) (by rfl) ?hD13 (by assumption) ?_
        case hD13 => intro w hSw; go_simp; try first | with_reducible rfl | exact IntWalk.i64_in _ (by omega)
        simp only [List.setIfInBounds_toArray, List.set_cons_zero, List.set_cons_succ]
        refine Ord.take (i := 14) (d := 49) (v := ?vD14) rfl rfl (by as_aux_lemma => kernel_rfl) (by as_aux_lemma => kernel_rfl) (by as_aux_lemma => kernel_rfl) (fun _ _ _ h => h) (by rfl) ?hD14 (by assumption) ?_
        case hD14 => intro w hSw; go_simp; try first | with_reducible rfl | exact IntWalk.i64_in _ (by omega)
        simp only [List.setIfInBounds_toArray, List.set_cons_zero, List.set_cons_succ]
        refine Ord.take (i := 15) (d := 50) (v := ?vD15) rfl rfl (by as_aux_lemma => kernel_rfl) (by as_aux_lemma => kernel_rfl) (by as_aux_lemma => kernel_rfl) (fun _ _ _ h => h) (by rfl) ?hD15 (by assumption) ?_
        case hD15 => intro w hSw; go_simp; try first | with_reducible rfl | exact IntWalk.i64_in _ (by omega)
        simp only [List.setIfInBounds_toArray, List.set_cons_zero, List.set_cons_succ]
        refine Ord.take (i := 16) (d := 51) (v := .int .i64 (q - S0)) rfl rfl (by as_aux_lemma => kernel_rfl) (by as_aux_lemma => kernel_rfl) (by as_aux_lemma => kernel_rfl) (fun _ _ _ h => h) (by rfl) ?hD16 (by assumption) ?_
        case hD16 => intro w hSw; go_simp; try first | with_reducible rfl | exact IntWalk.i64_in _ (by omega)
        simp only [List.setIfInBounds_toArray, List.set_cons_zero, List.set_cons_succ]
        refine Ord.take (i := 17) (d := 52) (v := .agg (ptC ⟨(x.1, x.2), p - S0, q - S0⟩).toArray) rfl rfl (by as_aux_lemma => kernel_rfl) (by as_aux_lemma => kernel_rfl) (by as_aux_lemma => kernel_rfl) (fun _ _ _ h => h) (by rfl) ?hD17 (by assumption) ?_
        case hD17 => intro w hSw; exact exec_build 64 _ rfl (by simp only [List.map_toArray, List.map_cons, List.map_nil]; exact HBU.out)
        simp only [List.setIfInBounds_toArray, List.set_cons_zero, List.set_cons_succ]
        refine wpAnyH_ready (rs := [18]) (by as_aux_lemma => kernel_rfl) (by simp) (AllReadyH.cons rfl (fun K hK => ?_) (AllReadyH.nil))
        rw [if_pos (by rfl)]
        refine wp_buildOne_W 60 64 _ rfl (ptC ⟨(x.1, x.2), p - S0, q - S0⟩).toArray i0 _ Try.underlying60 hi hz0 (by rw [hz1, List.size_toArray, HPL.out]) (by rw [List.size_toArray, HPL.out]; decide) (by rw [List.size_toArray, HPL.out]; decide) rfl v1.heap.size rfl ?_
        intro v2 HG2 HB2
        have hS2 : Below W.heap.size W v2 := Bn hS1 HB2.out
        refine hK.out _ _ hS2 (fun _ => ?_)
        clear hK K
        try simp only [List.setIfInBounds_toArray, List.set_cons_zero, List.set_cons_succ]
        refine wpAnyH_ready (rs := [19]) (by as_aux_lemma => kernel_rfl) (by simp) (AllReadyH.cons rfl (fun K hK => ?_) (AllReadyH.nil))
        rw [if_pos (by rfl)]
        refine wp_append_own _ _ _ 60 rfl W.heap.size 64 i0 _ 35 56 Try.underlying60 hi hz0 hz1 hz2 rfl (by decide) _ _ _ rfl (own_later HO0.out (Bn hB1 HB2.out)) ⟨v1.heap.size, 0, none⟩ 1 1 (ptC ⟨(x.1, x.2), p - S0, q - S0⟩) rfl (by rw [HPL.out]) (fun j u hu => (by rw [add_plain, Nat.zero_add]; exact (Joins.cell_of_block HG2.out j).trans (by rw [List.getElem?_toArray]; exact hu))) (ptC_one _) (by unfold maxLen; omega) (by omega) hS2.size (fun v5 W5 ho5 hg5 _ => ?_)
        have hS5 : Below W.heap.size W W5 := hS2.trans ((Below.refl _ _).grown hg5 hS2.size (fun j hj => (HO0.out.lt j hj).1))
        have HB5 := hid hS5
        have HO5 : Hid (W5.ownsRow W.heap.size 64 35 v5 (acc ++ [(⟨x, p - S0, q - S0⟩ : Pt)]).length ((acc ++ [(⟨x, p - S0, q - S0⟩ : Pt)]).flatMap ptC)) := by
          show World.ownsRow _ _ _ _ _ _ _
          rw [List.length_append, List.flatMap_append]
          simpa using ho5
        have cN5 := HCN.out _ HB5.out
        clear ho5 hg5 HO0
        refine hK.out _ _ hS5 (fun _ => ?_)
        clear hK K
        try simp only [List.setIfInBounds_toArray, List.set_cons_zero, List.set_cons_succ]
        refine Ord.take (i := 20) (d := 7) (v := ?vD20) rfl rfl (by as_aux_lemma => kernel_rfl) (by as_aux_lemma => kernel_rfl) (by as_aux_lemma => kernel_rfl) (fun _ _ _ h => h) (by rfl) ?hD20 (by assumption) ?_
        case hD20 => intro w hSw; go_simp; try with_reducible rfl
        try simp only [List.setIfInBounds_toArray, List.set_cons_zero, List.set_cons_succ]
        refine wpAnyH_done (by as_aux_lemma => kernel_rfl) ?_ _
        go_wp2
        go_roundw
        case rel => exact ⟨k + 1, acc ++ [(⟨x, p - S0, q - S0⟩ : Pt)], by omega, by rw [List.length_append]; simp; omega, by go_num, by rw [HST.out], HO5.out, by rw [HST.out, List.append_assoc]; exact HA2.out, (fun p hp => by
          rcases List.mem_append.1 hp with h | h
          · exact HP.out p h
          · rw [List.mem_singleton.1 h]; exact HXL.out), HB5.out⟩
        case measure => simp [intOf]; omega
      · rw [if_neg hpq] at HA2
        go_wp2
        go_roundw
        case rel => exact ⟨k + 1, acc, by omega, by omega, by go_num, by rw [HST.out], HO0.out, by rw [HST.out]; exact HA2.out, HP.out, hS0'.out⟩
        case measure => simp [intOf]; omega
    · have hke : k = len := by omega
      have HAE : Hid (acc = partL 0 f (f + z) l) := by
        have h1 := HA.out
        rw [show l.drop k = [] from List.drop_eq_nil_of_le (by rw [← HL.out]; omega)] at h1
        show acc = _
        simpa [partL] using h1
      subst hke
      obtain ⟨a', cap', hv, hrw, _⟩ := Rw.own (z := ptZ) HO.out (fun p hp => ptC_len (HP.out p hp))
      subst hv
      have HRW := hid hrw
      clear hrw hs0 hs1 HA HO
      rw [HAE.out] at HRW HP ⊢
      go_wp2
      go_ret
      exact ⟨_, _, rfl, HRW.out, HP.out, HX.out⟩
end Go.Proofs.Ytcbjlnabbfkkeaa
