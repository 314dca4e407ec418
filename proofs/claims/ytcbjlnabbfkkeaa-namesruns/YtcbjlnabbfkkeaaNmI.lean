/-
  Rows of structs of any kind, what Seek tells of some pieces (mathematics), and the search for a place: the contracts of parts' closure and of sort.Search over it.
-/
import Derived.Test.YtcbjlnabbfkkeaaNmH
namespace Go.Proofs.Ytcbjlnabbfkkeaa
open Go.ChangeShapes Go.WideShapes Go.ChangeAt Go.RowKit Go.Deep Go.Lib

/-- The slice at a reads as the structs l, each of sz cells C. -/
structure Rw {α : Type} (sz : Nat) (C : α → List Value) (z : α) (w : World) (a : Option Addr) (cap : Nat) (l : List α) : Prop where
  room : l.length ≤ cap
  most : cap ≤ maxLen
  none0 : a = none → cap = 0
  cells : 0 < l.length → ∃ b off, a = some ⟨b, off, none⟩ ∧ b < w.heap.size ∧ ∀ j, j < l.length → w.rangeAt b (off + j * sz) (C (l.getD j z))
section
variable {α : Type} {sz : Nat} {C : α → List Value} {z : α}
theorem Rw.later {w w' : World} {a : Option Addr} {cap : Nat} {l : List α} (h : Rw sz C z w a cap l) (hb : Below w.heap.size w w') : Rw sz C z w' a cap l := by
  refine ⟨h.room, h.most, h.none0, fun h0 => ?_⟩
  obtain ⟨b, off, ha, hbw, hc⟩ := h.cells h0
  exact ⟨b, off, ha, Nat.lt_of_lt_of_le hbw hb.size, fun j hj => range_later (hc j hj) hb hbw⟩
theorem Rw.grown {w w' : World} {a : Option Addr} {cap g : Nat} {l : List α} (h : Rw sz C z w a cap l) (hg : w.grownBy w' (some g)) (hne : ∀ b off, a = some ⟨b, off, none⟩ → b ≠ g) : Rw sz C z w' a cap l := by
  refine ⟨h.room, h.most, h.none0, fun h0 => ?_⟩
  obtain ⟨b, off, ha, hbw, hc⟩ := h.cells h0
  have hb := hg.block b hbw (fun e => hne b off ha (by injection e))
  refine ⟨b, off, ha, Nat.lt_of_lt_of_le hbw hg.size, fun j hj i v hv => ?_⟩
  rw [World.cell?_of_block (w' := w') (w := w) hb]
  exact hc j hj i v hv
theorem Rw.nil (w : World) : Rw sz C z w none 0 [] := ⟨Nat.le_refl _, by unfold maxLen; exact Nat.zero_le _, fun _ => rfl, fun h => absurd h (by simp)⟩
theorem flatW_len (l : List α) (h : ∀ x ∈ l, (C x).length = sz) : (l.flatMap C).length = l.length * sz := by
  induction l with
  | nil => simp
  | cons x l ih =>
    rw [List.flatMap_cons, List.length_append, h x (by simp), ih (fun y hy => h y (by simp [hy])), List.length_cons, Nat.add_mul]
    omega
theorem flatW_at (l : List α) (h : ∀ x ∈ l, (C x).length = sz) : ∀ j, j < l.length → ∀ i u, (C (l.getD j z))[i]? = some u → (l.flatMap C)[j * sz + i]? = some u := by
  induction l with
  | nil => intro j hj; simp at hj
  | cons x l ih =>
    intro j hj i u hu
    have hx := h x (by simp)
    rw [List.flatMap_cons]
    cases j with
    | zero =>
      have hu' : (C x)[i]? = some u := hu
      have hi : i < (C x).length := (List.getElem?_eq_some_iff.1 hu').1
      rw [show 0 * sz + i = i from by omega, List.getElem?_append_left hi]
      exact hu'
    | succ j =>
      have e : (j + 1) * sz + i = sz + (j * sz + i) := by rw [Nat.add_mul]; omega
      rw [e, List.getElem?_append_right (by rw [hx]; omega), hx, show sz + (j * sz + i) - sz = j * sz + i from by omega]
      exact ih (fun y hy => h y (by simp [hy])) j (by simp at hj; omega) i u (by simpa using hu)
theorem Rw.own {w : World} {base e : Nat} {v : Value} {l : List α} (h : w.ownsRow base e sz v l.length (l.flatMap C)) (hf : ∀ x ∈ l, (C x).length = sz) : ∃ a cap, v = .slice a l.length cap ∧ Rw sz C z w a cap l ∧ ∀ b off, a = some ⟨b, off, none⟩ → base ≤ b := by
  rcases h.2 with ⟨rfl, hn⟩ | ⟨g, cap, cur, rfl, hbg, hg, hc, hm, hs, ht⟩
  · rw [hn]
    exact ⟨none, 0, rfl, ⟨by omega, by unfold maxLen; omega, fun _ => rfl, fun h0 => by omega⟩, fun _ _ h => by cases h⟩
  · refine ⟨some ⟨g, 0, none⟩, cap, rfl, ⟨hc, hm, (fun h => by cases h), fun _ => ⟨g, 0, rfl, (Array.getElem?_eq_some_iff.1 hg).1, fun j hj i u hu => ?_⟩⟩, fun b off e => ?_⟩
    · have := flatW_at (C := C) (z := z) l hf j hj i u hu
      rw [← ht] at this
      rw [Nat.zero_add]
      refine (Joins.cell_of_block hg _).trans ?_
      have hlt : j * sz + i < (cur.toList.take (l.length * sz)).length := (List.getElem?_eq_some_iff.1 this).1
      rw [List.getElem?_take_of_lt (by simp at hlt; omega)] at this
      simpa using this
    · injection e with e
      injection e with e
      omega
end

/-- What is wanted of a piece. -/
structure Pt where
  x : Pc
  from_ : Int
  to_ : Int
def ptZ : Pt := ⟨(z32, 0), 0, 0⟩
def ptC (p : Pt) : List Value := pcC p.x ++ [.int .i64 p.from_, .int .i64 p.to_]
/-- What is wanted of the pieces, the first of which begins at s, for the bytes from f up to t. -/
def partL : Int → Int → Int → List Pc → List Pt
  | _, _, _, [] => []
  | s, f, t, x :: l => (if max f s < min t (s + x.2) then [⟨x, max f s - s, min t (s + x.2) - s⟩] else []) ++ partL (s + x.2) f t l
theorem part_from : ∀ (l : List Pc) (s f f' t : Int), l.all nOk = true → f ≤ s → f' ≤ s → partL s f t l = partL s f' t l
  | [], _, _, _, _, _, _, _ => rfl
  | x :: l, s, f, f', t, ha, h1, h2 => by
    rw [List.all_cons, Bool.and_eq_true] at ha
    have hx : 1 ≤ x.2 ∧ x.2 ≤ 4096 := of_decide_eq_true ha.1
    rw [partL, partL, part_from l (s + x.2) f f' t ha.2 (by omega) (by omega), show max f s = s from by omega, show max f' s = s from by omega]
theorem part_none : ∀ (l : List Pc) (s f t : Int), t ≤ f ∨ t ≤ s → l.all nOk = true → partL s f t l = []
  | [], _, _, _, _, _ => rfl
  | x :: l, s, f, t, h, ha => by
    rw [List.all_cons, Bool.and_eq_true] at ha
    have hx : 1 ≤ x.2 ∧ x.2 ≤ 4096 := of_decide_eq_true ha.1
    rw [partL, part_none l (s + x.2) f t (by omega) ha.2, if_neg (by omega)]
    rfl
theorem sumP_take (l : List Pc) (k : Nat) (h : k < l.length) : sumP (l.take (k + 1)) = sumP (l.take k) + (l.getD k pc0).2 := by
  rw [take_pc l k h, sumP_app]
  simp [sumP]
theorem drop_pc (l : List Pc) (k : Nat) (h : k < l.length) : l.drop k = l.getD k pc0 :: l.drop (k + 1) := by
  rw [List.drop_eq_getElem_cons h]
  simp [List.getD, List.getElem?_eq_getElem h]
/-- Pieces that end ahead of the place give nothing. -/
theorem part_skip (l : List Pc) (f t : Int) : ∀ k, k ≤ l.length → (k = 0 ∨ sumP (l.take k) ≤ f) → l.all nOk = true → partL 0 f t l = partL (sumP (l.take k)) f t (l.drop k)
  | 0, _, _, _ => by simp [sumP]
  | k + 1, hk, h, ha => by
    have h1 := sumP_take l k (by omega)
    have hn : nOk (l.getD k pc0) = true := List.all_eq_true.1 ha _ (by simp [List.getD, List.getElem?_eq_getElem (show k < l.length by omega)])
    have hx : 1 ≤ (l.getD k pc0).2 ∧ (l.getD k pc0).2 ≤ 4096 := of_decide_eq_true hn
    rcases h with h | h
    · omega
    · rw [part_skip l f t k (by omega) (.inr (by omega)) ha, drop_pc l k (by omega), partL, if_neg (by omega), h1]
      rfl
/-- One round of parts. -/
theorem part_step (l : List Pc) (f t : Int) (k : Nat) (hk : k < l.length) (ha : l.all nOk = true) (h1 : sumP (l.take k) ≤ f) (h2 : f < sumP (l.take (k + 1))) (h3 : f < t) :
    partL (sumP (l.take k)) f t (l.drop k) = ⟨l.getD k pc0, f - sumP (l.take k), min (sumP (l.take (k + 1))) t - sumP (l.take k)⟩ :: partL (sumP (l.take (k + 1))) (min (sumP (l.take (k + 1))) t) t (l.drop (k + 1)) := by
  have hs := sumP_take l k hk
  rw [drop_pc l k hk, partL, if_pos (by omega), ← hs, show max f (sumP (l.take k)) = f from by omega, show min t (sumP (l.take (k + 1))) = min (sumP (l.take (k + 1))) t from by omega]
  rw [part_from (l.drop (k + 1)) (sumP (l.take (k + 1))) f (min (sumP (l.take (k + 1))) t) t ?_ (by omega) (by omega)]
  · rfl
  · rw [List.all_eq_true]; intro y hy; exact List.all_eq_true.1 ha y (List.mem_of_mem_drop hy)
theorem ends_at : ∀ (l : List Pc) (s : Int) (k : Nat), k < l.length → (endsL s l).getD k 0 = s + sumP (l.take (k + 1))
  | [], _, k, h => by simp at h
  | x :: l, s, 0, _ => by simp [endsL, sumP]
  | x :: l, s, k + 1, h => by
    have := ends_at l (s + x.2) k (by simpa using h)
    simp only [endsL, List.getD_cons_succ, List.take_succ_cons, sumP]
    rw [this]
    omega

set_option maxHeartbeats 1600000 in
set_option maxRecDepth 100000 in
theorem clos_word (W : World) (bF bI : Nat) (f : Fl) (from_ : Int) (hF : W.heap[bF]? = some (.cells f.cs.toArray 77)) (hI : W.cell? ⟨bI, 0, none⟩ = some (.int .i64 from_)) (he : Ri W .i64 f.e f.ecap (endsL 0 f.ps)) (h : Nat) (hh : h < f.ps.length) :
    Calls Try.prog 63 #[.int .i64 (h : Int), .pointer (some ⟨bF, 0, none⟩), .pointer (some ⟨bI, 0, none⟩)] W fun e w' => e = .returned (.bool (decide (from_ < sumP (f.ps.take (h + 1))))) ∧ ∃ m, w' = W.drewN m := by
  have c4 : W.cell? ⟨bF, 4, none⟩ = some (.slice f.e f.ps.length f.ecap) := (Joins.cell_of_block hF 4).trans rfl
  have hro := he.room
  have hmo := he.most
  unfold maxLen at hmo
  rw [ends_len] at hro
  obtain ⟨b, off, hab, hbw, hc⟩ := he.cells (by rw [ends_len]; omega)
  have hch := hc h (by rw [ends_len]; exact hh)
  rw [ends_at _ _ _ hh, Int.zero_add] at hch
  rw [hab] at c4
  have hz : (h : Int) < (f.ps.length : Int) := by omega
  generalize sumP (f.ps.take (h + 1)) = S at *
  generalize f.ps.length = n at *
  clear hc hab he hF
  go_enter Try.func63, Try.ntmps63
  go_wp2_with fail
  go_quiet (fail)
  go_wp2
  go_ret
  exact ⟨rfl, _, rfl⟩
set_option maxHeartbeats 3200000 in
set_option maxRecDepth 100000 in
theorem search_word (W : World) (bF bI : Nat) (f : Fl) (from_ : Int) (hF : W.heap[bF]? = some (.cells f.cs.toArray 77)) (hI : W.cell? ⟨bI, 0, none⟩ = some (.int .i64 from_)) (he : Ri W .i64 f.e f.ecap (endsL 0 f.ps)) (hn : f.ps.length ≤ 4096) :
    Calls Try.prog 62 #[.int .i64 (f.ps.length : Int), .func (.func 63) #[] #[.pointer (some ⟨bF, 0, none⟩), .pointer (some ⟨bI, 0, none⟩)]] W fun e w' => ∃ k : Nat, e = .returned (.int .i64 (k : Int)) ∧ k ≤ f.ps.length ∧ (0 < k → sumP (f.ps.take k) ≤ from_) ∧ (k < f.ps.length → from_ < sumP (f.ps.take (k + 1))) ∧ ∃ m, w' = W.drewN m := by
  have HC := hid (fun m h hh => clos_word (W.drewN m) bF bI f from_ hF hI (he.later (bel_drewN (Below.refl _ _) m)) h hh)
  obtain ⟨l, hl⟩ : ∃ l, l = f.ps := ⟨_, rfl⟩
  rw [← hl] at HC hn ⊢
  obtain ⟨n, hnl⟩ : ∃ n, n = l.length := ⟨_, rfl⟩
  rw [← hnl] at hn HC ⊢
  clear hF hI he hl hnl
  go_enter Try.func62, Try.ntmps62
  go_wp2
  go_loopw [5, 6] (fun x5 x6 wr => ∃ i j : Nat, i ≤ j ∧ j ≤ n ∧ x5 = .int .i64 (i : Int) ∧ x6 = .int .i64 (j : Int) ∧ Hid (0 < i → sumP (l.take i) ≤ from_) ∧ Hid (j < n → from_ < sumP (l.take (j + 1))) ∧ Hid (∃ m, wr = W.drewN m)) (fun x5 x6 _ => (intOf x6).toNat - (intOf x5).toNat)
  case atStart => exact ⟨0, n, by omega, by omega, rfl, rfl, (fun h => by omega), (fun h => by omega), 0, rfl⟩
  case round =>
    obtain ⟨i, j, hij, hjn, rfl, rfl, H1, H2, HW⟩ := hrel
    by_cases hlt : i < j
    · have hz : (i : Int) < (j : Int) := by omega
      obtain ⟨h, hh⟩ : ∃ h, h = (i + j) / 2 := ⟨_, rfl⟩
      have HH : Hid (((i : Int) + (j : Int)) / 2 = (h : Int)) := by show _ = _; omega
      have HB : Hid (i ≤ h ∧ h < j) := by show _ ∧ _; omega
      obtain ⟨m, hm⟩ := HW.out
      subst hm
      clear HW hh
      go_wp2_with fail
      rw [HH.out]
      refine (HC.out m h (by have := HB.out; omega)).mono ?_
      rintro _ w0 ⟨rfl, m2, rfl⟩
      by_cases hd : from_ < sumP (l.take (h + 1))
      · rw [decide_eq_true hd]
        have HD := hid hd
        clear hd
        go_wp2
        go_round
        case rel => exact ⟨i, h, HB.out.1, by have := HB.out; omega, rfl, rfl, H1.out, (fun _ => HD.out), _, rfl⟩
        case measure => have := HB.out; simp [intOf]; omega
      · rw [decide_eq_false hd]
        have HD := hid hd
        have hh4 : (h : Int) ≤ 4096 := by have := HB.out; omega
        clear hd
        go_wp2
        go_round
        case rel => exact ⟨h + 1, j, by have := HB.out; omega, hjn, by go_num, rfl, (fun _ => by have := HD.out; omega), H2.out, _, rfl⟩
        case measure => have := HB.out; simp [intOf]; omega
    · have hi : i = j := by omega
      have hz : ¬ (i : Int) < (j : Int) := by omega
      go_wp2
      go_ret
      exact ⟨j, rfl, hjn, by rw [← hi]; exact H1.out, H2.out, HW.out⟩
end Go.Proofs.Ytcbjlnabbfkkeaa
