/-
  What records make of no files: the contract of Of.
-/
import Derived.Test.YtcbjlnabbfkkeaaNmG
import Derived.Test.YtcbjlnabbfkkeaaRcOa
namespace Go.Proofs.Ytcbjlnabbfkkeaa
open Go.ChangeShapes Go.WideShapes Go.ChangeAt Go.RowKit Go.Deep Go.Lib

/-- Records, each of which can be done, one behind the other. -/
def AppsR : List Rec → List Fl → List Fl → Prop
  | [], M, M' => M' = M
  | r :: l, M, M' => mayE M r = 0 ∧ ∃ M1, AppR r M M1 ∧ AppsR l M1 M'
theorem apps_snoc {r : Rec} : ∀ {l : List Rec} {M M1 M' : List Fl}, AppsR l M M1 → mayE M1 r = 0 → AppR r M1 M' → AppsR (l ++ [r]) M M'
  | [], M, M1, M', h, h1, h2 => by
    have h : M1 = M := h
    subst h
    exact ⟨h1, M', h2, rfl⟩
  | x :: l, M, M1, M', h, h1, h2 => by
    obtain ⟨hx, M2, ha, hl⟩ := h
    exact ⟨hx, M2, ha, apps_snoc hl h1 h2⟩
theorem take_rec (l : List Rec) (k : Nat) (h : k < l.length) : l.take (k + 1) = l.take k ++ [l.getD k recZ] := by
  rw [List.take_add_one]
  simp [List.getD, List.getElem?_eq_getElem h]
/-- What Of answers. -/
def OfP (B : Nat) (w : World) (l : List Rec) (e : Ending) (w' : World) : Prop :=
  (∃ M, AppsR l [] M ∧ e = .returned (.tuple #[.pointer (some ⟨w.heap.size + 1, 0, none⟩), .int .i64 (l.length : Int), .int .i64 0]) ∧ Nm B w' (w.heap.size + 1) w.heap.size M ∧ Below w.heap.size w w') ∨
  (∃ k M, k < l.length ∧ AppsR (l.take k) [] M ∧ mayE M (l.getD k recZ) ≠ 0 ∧ e = .returned (.tuple #[.pointer none, .int .i64 (k : Int), .int .i64 (mayE M (l.getD k recZ))]) ∧ Below w.heap.size w w')
set_option maxHeartbeats 6400000 in
set_option maxRecDepth 100000 in
theorem of_word (B : Nat) (a : Option Addr) (cap : Nat) (l : List Rec) (w : World) (hr : Rr w a cap l) (hB : B ≤ w.heap.size + 2) :
    Calls Try.prog 17 #[.slice a l.length cap] w (OfP B w l) := by
  have hroom := hr.room
  have hmost := hr.most
  unfold maxLen at hmost
  have HR := hid hr
  have HNW := hid (new_word B w)
  have HBB := hid hB
  have HZ := hid Try.zero36
  obtain ⟨len, hle⟩ : ∃ n, n = l.length := ⟨_, rfl⟩
  have HL := hid hle
  have HPP : Hid (∀ e w', OfP B w l e w' ↔ ((∃ M, AppsR l [] M ∧ e = .returned (.tuple #[.pointer (some ⟨w.heap.size + 1, 0, none⟩), .int .i64 (len : Int), .int .i64 0]) ∧ Nm B w' (w.heap.size + 1) w.heap.size M ∧ Below w.heap.size w w') ∨
    (∃ k M, k < len ∧ AppsR (l.take k) [] M ∧ mayE M (l.getD k recZ) ≠ 0 ∧ e = .returned (.tuple #[.pointer none, .int .i64 (k : Int), .int .i64 (mayE M (l.getD k recZ))]) ∧ Below w.heap.size w w'))) := by
    intro e w'
    rw [hle]
    exact Iff.rfl
  generalize OfP B w l = PP at *
  rw [← hle] at hroom ⊢
  clear hr hle hB
  go_enter Try.func17, Try.ntmps17
  go_wp2_with fail
  refine HNW.out.mono ?_
  rintro _ W1 ⟨rfl, hn1, hb1⟩
  have HN1 := hid hn1
  have HB1 := hid hb1
  have HS1 : Hid (w.heap.size + 2 ≤ W1.heap.size) := by have := hn1.lt.1; show _ ≤ _; omega
  clear hn1 hb1 HNW
  go_wp2
  go_loopw [12] (fun x12 wr => ∃ (k : Nat) (M : List Fl), k ≤ len ∧ x12 = .int .i64 (k : Int) ∧ Hid (AppsR (l.take k) [] M) ∧ Hid (Nm B wr (w.heap.size + 1) w.heap.size M) ∧ Hid (Below w.heap.size w wr) ∧ Hid (w.heap.size + 2 ≤ wr.heap.size)) (fun x12 _ => len - (intOf x12).toNat)
  case atStart => exact ⟨0, [], by omega, rfl, rfl, HN1.out, HB1.out, HS1.out⟩
  case round =>
    obtain ⟨k, M, hk, rfl, HA, HN, HB, HS⟩ := hrel
    by_cases hlt : k < len
    · have hkz : (k : Int) < (len : Int) := by omega
      obtain ⟨b, off, rfl, hbw, hc⟩ := HR.out.cells (by rw [← HL.out]; omega)
      have hrg := (hc k (by rw [← HL.out]; exact hlt))
      have HRG : Hid (wr.rangeAt b (off + k * 38) (l.getD k recZ).cs) := fun j v hv => (HB.out.cell (p := ⟨b, off + k * 38 + j, none⟩) hbw).trans (hrg j v hv)
      have hok := (HR.out.get (j := k) (by rw [← HL.out]; exact hlt)).later HB.out
      have HTK := hid (take_rec l k (by rw [← HL.out]; exact hlt))
      obtain ⟨x, hx⟩ : ∃ x, x = l.getD k recZ := ⟨_, rfl⟩
      have HXX := hid hx
      rw [← hx] at HRG hok HTK
      have HLX := hid (Rec.cs_len hok.len)
      have HSX := hid (size_recs hok.len)
      have HZX : Hid (recZ.cs.toArray.size = x.cs.toArray.size) := by show _ = _; rw [Rec.cs_size hok.len]; rfl
      have HOK := hid hok
      clear hrg hc hok hx
      go_wp2_with (first | refine wpList_load_g rfl 36 _ rfl b (off + k * 38) rfl x.cs _ HRG.out Try.underlying36 rfl (by rw [HLX.out]; exact Try.size36) ?_ | refine wpList_alloc_W rfl 36 rfl (some 7) rfl _ HZ.out wr.heap.size rfl ?_ | fail)
      intro W2 HG2 HB2 HS2
      go_wp2_with (first | refine wpList_store_W rfl 36 _ _ rfl rfl wr.heap.size x.cs.toArray rfl rfl 36 _ HG2.out HSX.out HZX.out (all_oneCell_toArray (Rec.cs_one _)) ?_ | fail)
      intro W3 HG3 HB3 HS3
      have HY3 : Hid (Below wr.heap.size wr W3) := HB2.out.trans (bel_grown HB3.out (Nat.le_refl _) HB2.out.size)
      have HR3 := hid (blk_range HG3.out)
      have HAP := hid (apply_word W3 _ _ M B (HN.out.later HY3.out) x (HOK.out.later HY3.out) (by have h1 := HBB.out; have h2 := HS.out; have h3 := HY3.out.size; omega))
      go_wp2_with (first | refine wpList_load_g rfl 36 _ rfl wr.heap.size 0 rfl x.cs _ HR3.out Try.underlying36 rfl (by rw [HLX.out]; exact Try.size36) ?_ | fail)
      refine HAP.out.mono ?_
      rintro _ W4 ⟨rfl, M', hn4, ha4, hg4⟩
      have HN4 := hid hn4
      have HA4 := hid ha4
      have HB4 : Hid (Below w.heap.size w W4) := (Bn HB.out HY3.out).trans (bel_grown hg4 (Nat.le_refl _) (Nat.le_trans HB.out.size HY3.out.size))
      have HS4 : Hid (w.heap.size + 2 ≤ W4.heap.size) := Nat.le_trans HS.out (Nat.le_trans HY3.out.size hg4.size)
      clear hn4 ha4 hg4 HAP HR3 HG3 HB3 HG2 HB2 HN
      obtain ⟨E, hE⟩ : ∃ E, E = mayE M x := ⟨_, rfl⟩
      have HE := hid hE
      rw [← hE]
      clear hE
      by_cases h0 : E = 0
      · subst h0
        go_wp2
        go_round
        case rel => exact ⟨k + 1, M', by omega, by go_num, by show AppsR _ _ _; rw [HTK.out]; exact apps_snoc HA.out HE.out.symm HA4.out, HN4.out, HB4.out, HS4.out⟩
        case measure => simp [intOf]; omega
      · have HE0 := hid h0
        go_wp2
        refine (HPP.out _ _).2 (.inr ⟨k, M, hlt, HA.out, ?_, ?_, HB4.out⟩)
        · rw [← HXX.out, ← HE.out]; exact HE0.out
        · rw [← HXX.out, ← HE.out]; rfl
    · have hkl : k = len := by omega
      have HT : Hid (l.take k = l) := List.take_of_length_le (by rw [← HL.out]; omega)
      rw [HT.out] at HA
      go_wp2
      exact (HPP.out _ _).2 (.inl ⟨M, HA.out, rfl, HN.out, HB.out⟩)
end Go.Proofs.Ytcbjlnabbfkkeaa
