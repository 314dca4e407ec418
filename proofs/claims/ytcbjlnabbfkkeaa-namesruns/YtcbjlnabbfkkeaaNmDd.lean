/-
  What the document's Of (18) makes of no files; both sides go alike.
-/
import Derived.Test.YtcbjlnabbfkkeaaNmDc
namespace Go.Proofs.Ytcbjlnabbfkkeaa
open Go.ChangeShapes Go.WideShapes Go.ChangeAt Go.RowKit Go.Deep Go.Lib

def DApps : List Rec → List Fi → List Fi → Prop
  | [], L, L' => L' = L
  | r :: l, L, L' => dmayE L r = 0 ∧ ∃ L1, DApp r L L1 ∧ DApps l L1 L'
theorem dapps_snoc {r : Rec} : ∀ {l : List Rec} {L L1 L' : List Fi}, DApps l L L1 → dmayE L1 r = 0 → DApp r L1 L' → DApps (l ++ [r]) L L'
  | [], L, L1, L', h, h1, h2 => by
    have h : L1 = L := h
    subst h
    exact ⟨h1, L', h2, rfl⟩
  | x :: l, L, L1, L', h, h1, h2 => by
    obtain ⟨hx, L2, ha, hl⟩ := h
    exact ⟨hx, L2, ha, dapps_snoc hl h1 h2⟩
theorem dins_len (p : ByteArray) (f : Fi) : ∀ (q : Bool) (l : List Fi), (dins p f q l).length ≤ l.length + 1
  | true, l => by rw [dins_true]; exact Nat.le_trans (List.length_filter_le _ _) (Nat.le_succ _)
  | false, [] => by simp [dins]
  | false, x :: l => by
    rw [dins]
    have h1 := dins_len p f false l
    have h2 : (dins p f true l).length ≤ l.length := by rw [dins_true]; exact List.length_filter_le _ _
    cases hg : geP x.path p <;> by_cases hx : x.path = p <;> simp [hx] <;> omega
theorem DApp.len {r : Rec} {L L' : List Fi} (h : DApp r L L') : L'.length ≤ L.length + 1 := by
  unfold DApp at h
  split at h
  · obtain ⟨i, _, _, _, _, rfl⟩ := h
    exact dins_len _ _ _ _
  · rw [h]; exact Nat.le_succ _
theorem both_full : ∀ (l : List Rec) {M M' : List Fl} {L L' : List Fi}, AppsR l M M' → DApps l L L' → Rel M L → Rel M' L'
  | [], _, _, _, _, ha, hd, h => by
    have ha : _ = _ := ha
    have hd : _ = _ := hd
    subst ha
    subst hd
    exact h
  | r :: l, _, _, _, _, ⟨_, M1, ha, ha'⟩, ⟨_, L1, hd, hd'⟩, h => both_full l ha' hd' (h.step ha hd)
theorem full_left : ∀ (l : List Rec) (k : Nat) {M M' : List Fl} {L L' : List Fi}, AppsR l M M' → k < l.length → DApps (l.take k) L L' → Rel M L → dmayE L' (l.getD k recZ) = 0
  | [], k, _, _, _, _, _, hk, _, _ => by simp at hk
  | r :: l, 0, _, _, _, _, ⟨h0, _⟩, _, hd, h => by
    have hd : _ = _ := hd
    subst hd
    show dmayE _ r = 0
    rw [h.may, h0]
  | r :: l, k + 1, _, _, _, _, ⟨_, M1, ha, ha'⟩, hk, ⟨_, L1, hd, hd'⟩, h => full_left l k ha' (by simp at hk; omega) hd' (h.step ha hd)
theorem full_right : ∀ (l : List Rec) (k : Nat) {M M' : List Fl} {L L' : List Fi}, DApps l L L' → k < l.length → AppsR (l.take k) M M' → Rel M L → mayE M' (l.getD k recZ) = 0
  | [], k, _, _, _, _, _, hk, _, _ => by simp at hk
  | r :: l, 0, _, _, _, _, ⟨h0, _⟩, _, ha, h => by
    have ha : _ = _ := ha
    subst ha
    show mayE _ r = 0
    rw [← h.may, h0]
  | r :: l, k + 1, _, _, _, _, ⟨_, L1, hd, hd'⟩, hk, ⟨_, M1, ha, ha'⟩, h => full_right l k hd' (by simp at hk; omega) ha' (h.step ha hd)
theorem take_getD (l : List Rec) {k m : Nat} (h : k < m) : (l.take m).getD k recZ = l.getD k recZ := by
  simp [List.getD, h]
theorem fail_le (l : List Rec) {k m : Nat} {M : List Fl} {L : List Fi} (hk : k < l.length) (hm : m < l.length) (ha : AppsR (l.take k) [] M) (hd : DApps (l.take m) [] L) (hM : mayE M (l.getD k recZ) ≠ 0) (hL : dmayE L (l.getD m recZ) ≠ 0) : k = m := by
  rcases Nat.lt_trichotomy k m with h | h | h
  · have h1 := full_right (l.take m) k hd (by simp; omega) (by rw [List.take_take, Nat.min_eq_left (Nat.le_of_lt h)]; exact ha) Rel.zero
    rw [take_getD l h] at h1
    exact absurd h1 hM
  · exact h
  · have h1 := full_left (l.take k) m ha (by simp; omega) (by rw [List.take_take, Nat.min_eq_left (Nat.le_of_lt h)]; exact hd) Rel.zero
    rw [take_getD l h] at h1
    exact absurd h1 hL
/-- What the document's Of answers. -/
def DofP (w : World) (l : List Rec) (e : Ending) (w' : World) : Prop :=
  (∃ L d a cap, DApps l [] L ∧ e = .returned (.tuple #[.pointer (some ⟨d, 0, none⟩), .int .i64 (l.length : Int), .int .i64 0]) ∧ Dn w' d a cap L ∧ Below w.heap.size w w') ∨
  (∃ k L, k < l.length ∧ DApps (l.take k) [] L ∧ dmayE L (l.getD k recZ) ≠ 0 ∧ e = .returned (.tuple #[.pointer none, .int .i64 (k : Int), .int .i64 (dmayE L (l.getD k recZ))]) ∧ Below w.heap.size w w')
set_option maxHeartbeats 6400000 in
set_option maxRecDepth 100000 in
theorem dof_word (a : Option Addr) (cap : Nat) (l : List Rec) (w : World) (hr : Rr w a cap l) (h25 : l.length ≤ 1000) :
    Calls Try.prog 18 #[.slice a l.length cap] w (DofP w l) := by
  have hroom := hr.room
  have hmost := hr.most
  unfold maxLen at hmost
  have HR := hid hr
  obtain ⟨len, hle⟩ : ∃ n, n = l.length := ⟨_, rfl⟩
  have HL := hid hle
  have HPP : Hid (∀ e w', DofP w l e w' ↔ ((∃ L d a cap, DApps l [] L ∧ e = .returned (.tuple #[.pointer (some ⟨d, 0, none⟩), .int .i64 (len : Int), .int .i64 0]) ∧ Dn w' d a cap L ∧ Below w.heap.size w w') ∨
    (∃ k L, k < len ∧ DApps (l.take k) [] L ∧ dmayE L (l.getD k recZ) ≠ 0 ∧ e = .returned (.tuple #[.pointer none, .int .i64 (k : Int), .int .i64 (dmayE L (l.getD k recZ))]) ∧ Below w.heap.size w w'))) := by
    intro e w'
    rw [hle]
    exact Iff.rfl
  generalize DofP w l = PP at *
  rw [← hle] at hroom h25 ⊢
  clear hr hle
  have HB0 := hid (bel_alc w (.cells #[.slice none 0 0] 29))
  have HD0 : Hid (Dn (w.alloc (.cells #[.slice none 0 0] 29)) w.heap.size none 0 []) := ⟨heap_alc w _, ⟨Rw.nil _, fun i hi => by cases hi⟩⟩
  obtain ⟨W1, hW1⟩ : ∃ W1, W1 = w.alloc (.cells #[.slice none 0 0] 29) := ⟨_, rfl⟩
  rw [← hW1] at HB0 HD0
  have HW1 := hid hW1
  have HDL : Hid (w.heap.size < W1.heap.size) := (Array.getElem?_eq_some_iff.1 HD0.out.blk).1
  clear hW1
  go_enter Try.func18, Try.ntmps18
  go_wp2
  rw [← HW1.out]
  go_loopw [6] (fun x6 wr => ∃ (k : Nat) (L : List Fi) (a' : Option Addr) (cap' : Nat), k ≤ len ∧ x6 = .int .i64 (k : Int) ∧ Hid (DApps (l.take k) [] L) ∧ Hid (Dn wr w.heap.size a' cap' L) ∧ Hid (L.length ≤ k) ∧ Hid (Below w.heap.size w wr)) (fun x6 _ => len - (intOf x6).toNat)
  case atStart => exact ⟨0, [], none, 0, by omega, rfl, rfl, HD0.out, Nat.le_refl _, HB0.out⟩
  case round =>
    obtain ⟨k, L, a', cap', hk, rfl, HA, HD, HLL, HB⟩ := hrel
    clear HD0 HB0
    by_cases hlt : k < len
    · have hkz : (k : Int) < (len : Int) := by omega
      obtain ⟨b, off, rfl, hbw, hc⟩ := HR.out.cells (by rw [← HL.out]; omega)
      have hrg := (hc k (by rw [← HL.out]; exact hlt))
      have HRG : Hid (wr.rangeAt b (off + k * 38) (l.getD k recZ).cs) := fun j v hv => (HB.out.cell (p := ⟨b, off + k * 38 + j, none⟩) hbw).trans (hrg j v hv)
      have hok := (HR.out.get (j := k) (by rw [← HL.out]; exact hlt)).later HB.out
      have HTK := hid (take_rec l k (by rw [← HL.out]; exact hlt))
      obtain ⟨x, hx⟩ : ∃ x, x = l.getD k recZ := ⟨_, rfl⟩
      have HXX := hid hx
      rw [← hx] at HRG hok HTK
      have HLX := hid (Rec.cs_len hok.len)
      have HAP := hid (dapply_word wr w.heap.size a' cap' L HD.out (by have := HLL.out; omega) x hok)
      clear hrg hc hok hx
      go_wp2_with (first | refine wpList_load_P rfl 36 _ rfl b (off + k * 38) rfl x.cs _ HRG.out Try.underlying36 rfl (by rw [HLX.out]; exact Try.size36) ?_ | fail)
      refine HAP.out.mono ?_
      rintro _ W4 ⟨rfl, a4, cap4, L4, hd4, ha4, hg4⟩
      have HD4 := hid hd4
      have HA4 := hid ha4
      have HB4 : Hid (Below w.heap.size w W4) := HB.out.trans (bel_grown hg4 (Nat.le_refl _) HB.out.size)
      have HL4 : Hid (L4.length ≤ k + 1) := by have h1 := ha4.len; have h2 := HLL.out; show _ ≤ _; omega
      clear hd4 ha4 hg4 HAP
      obtain ⟨E, hE⟩ : ∃ E, E = dmayE L x := ⟨_, rfl⟩
      have HE := hid hE
      rw [← hE]
      clear hE
      by_cases h0 : E = 0
      · subst h0
        go_wp2
        go_round
        case rel => exact ⟨k + 1, L4, a4, cap4, by omega, by go_num, by show DApps _ _ _; rw [HTK.out]; exact dapps_snoc HA.out HE.out.symm HA4.out, HD4.out, HL4.out, HB4.out⟩
        case measure => simp [intOf]; omega
      · have HE0 := hid h0
        go_wp2
        refine (HPP.out _ _).2 (.inr ⟨k, L, hlt, HA.out, ?_, ?_, HB4.out⟩)
        · rw [← HXX.out, ← HE.out]; exact HE0.out
        · rw [← HXX.out, ← HE.out]; rfl
    · have hkl : k = len := by omega
      have HT : Hid (l.take k = l) := List.take_of_length_le (by rw [← HL.out]; omega)
      rw [HT.out] at HA
      go_wp2
      exact (HPP.out _ _).2 (.inl ⟨L, w.heap.size, a', cap', HA.out, rfl, HD.out, HB.out⟩)
end Go.Proofs.Ytcbjlnabbfkkeaa
