/-
  What is wanted of a path's file: the contract of Seek.
-/
import Derived.Test.YtcbjlnabbfkkeaaNmJ
namespace Go.Proofs.Ytcbjlnabbfkkeaa
open Go.ChangeShapes Go.WideShapes Go.ChangeAt Go.RowKit Go.Deep Go.Lib

def sekF (f : Fl) (from_ size : Int) : Int × List Pt := if from_ < 0 ∨ size < 0 ∨ f.size - size < from_ then (5, []) else (0, partL 0 from_ (from_ + size) f.ps)
def sekO (M : List Fl) (s : ByteArray) (from_ size : Int) : Int × List Pt :=
  match fnd M s with
  | none => (150, [])
  | some f => sekF f from_ size
/-- A row of parts, with an error. -/
def SekP (w : World) (r : Int × List Pt) (e : Ending) (w' : World) : Prop :=
  ∃ a cap, e = .returned (.tuple #[.slice a r.2.length cap, .int .i64 r.1]) ∧ Rw 35 ptC ptZ w' a cap r.2 ∧ (∀ b off, a = some ⟨b, off, none⟩ → w.heap.size ≤ b) ∧ Below w.heap.size w w'
set_option maxHeartbeats 3200000 in
set_option maxRecDepth 100000 in
theorem seek_no (W : World) (v : Value) (s : ByteArray) (from_ size : Int) (h : Nob W v) : Calls Try.prog 23 #[v, .string s, .int .i64 from_, .int .i64 size] W (SekP W (4, [])) := by
  have HN := hid (at_no W v s h)
  have HZ : Hid (∀ w, (zeroValue 77).run Try.prog w = .ok (.agg flZ.cs.toArray) w) := Try.zero77
  clear h
  go_enter Try.func23, Try.ntmps23
  go_wp2_with fail
  refine HN.out.mono ?_
  rintro _ W1 ⟨rfl, hb1⟩
  have HB1 := hid hb1
  clear hb1 HN
  go_wp2_with (first | refine wpList_alloc_W rfl 77 rfl (some 10) rfl _ HZ.out W1.heap.size rfl ?_ | fail)
  intro W2 HG2 HB2 HS2
  go_wp2_with (first | refine wpList_store_W rfl 77 _ _ rfl rfl W1.heap.size flZ.cs.toArray rfl rfl 77 _ HG2.out Try.size77 rfl (Fl.one _) ?_ | fail)
  intro W3 HG3 HB3 HS3
  have HX : Hid (Below W.heap.size W W3) := Bn HB1.out (HB2.out.trans (bel_grown HB3.out (Nat.le_refl _) HB2.out.size))
  go_wp2
  go_ret2
  exact ⟨none, 0, rfl, Rw.nil _, (fun _ _ h => by cases h), HX.out⟩
set_option maxHeartbeats 6400000 in
set_option maxRecDepth 100000 in
theorem seek_word (W : World) (n g : Nat) (M : List Fl) (B : Nat) (h : Nm B W n g M) (s : ByteArray) (hs : s.size ≤ maxLen) (from_ size : Int) (w1 : (Lit.int .i64 from_).wf = true) (w2 : (Lit.int .i64 size).wf = true) :
    Calls Try.prog 23 #[.pointer (some ⟨n, 0, none⟩), .string s, .int .i64 from_, .int .i64 size] W (SekP W (sekO M s from_ size)) := by
  have HAT := hid (at_word W n g M B h s hs)
  have HZ : Hid (∀ w, (zeroValue 77).run Try.prog w = .ok (.agg flZ.cs.toArray) w) := Try.zero77
  have HOK : Hid (∀ f, fnd M s = some f → Fok W f) := fun f hf => by
    obtain ⟨D, h⟩ := h
    exact h.ok f (fnd_mem hf)
  have hw1 := wf_i64 w1
  have hw2 := wf_i64 w2
  clear h hs w1 w2
  have hq : sekO M s from_ size = (match fnd M s with | none => (150, []) | some f => sekF f from_ size) := rfl
  have ha : atE M s = if (fnd M s).isSome then 0 else 150 := rfl
  cases hf : fnd M s with
  | none =>
    rw [hf] at hq ha HAT
    rw [hq]
    rw [ha] at HAT
    clear hq ha HOK hw1 hw2
    go_enter Try.func23, Try.ntmps23
    go_wp2_with fail
    refine HAT.out.mono ?_
    rintro _ W1 ⟨rfl, hb1⟩
    have HB1 := hid hb1
    clear hb1 HAT
    go_wp2_with (first | refine wpList_alloc_W rfl 77 rfl (some 10) rfl _ HZ.out W1.heap.size rfl ?_ | fail)
    intro W2 HG2 HB2 HS2
    go_wp2_with (first | refine wpList_store_W rfl 77 _ _ rfl rfl W1.heap.size flZ.cs.toArray rfl rfl 77 _ HG2.out Try.size77 rfl (Fl.one _) ?_ | fail)
    intro W3 HG3 HB3 HS3
    have HX : Hid (Below W.heap.size W W3) := Bn HB1.out (HB2.out.trans (bel_grown HB3.out (Nat.le_refl _) HB2.out.size))
    go_wp2
    go_ret2
    exact ⟨none, 0, rfl, Rw.nil _, (fun _ _ h => by cases h), HX.out⟩
  | some f =>
    rw [hf] at hq ha HAT
    have HF := hid (HOK.out f hf)
    have hsz := HF.out.most
    have hsp := (sumP_bound _ HF.out.nok).1
    rw [← HF.out.size] at hsp
    rw [hq]
    rw [ha] at HAT
    clear hq ha HOK hf
    go_enter Try.func23, Try.ntmps23
    go_wp2_with fail
    refine HAT.out.mono ?_
    rintro _ W1 ⟨rfl, hb1⟩
    have HB1 := hid hb1
    clear hb1 HAT
    go_wp2_with (first | refine wpList_alloc_W rfl 77 rfl (some 10) rfl _ HZ.out W1.heap.size rfl ?_ | fail)
    intro W2 HG2 HB2 HS2
    go_wp2_with (first | refine wpList_store_W rfl 77 _ _ rfl rfl W1.heap.size f.cs.toArray rfl rfl 77 _ HG2.out Try.size77 rfl (Fl.one _) ?_ | fail)
    intro W3 HG3 HB3 HS3
    have HX : Hid (Below W.heap.size W W3) := Bn HB1.out (HB2.out.trans (bel_grown HB3.out (Nat.le_refl _) HB2.out.size))
    have HR := hid (blk_range HG3.out)
    have c1 : W3.cell? ⟨W1.heap.size, 1, none⟩ = some (.int .i64 f.size) := (Joins.cell_of_block HG3.out 1).trans rfl
    have HFO := hid (HF.out.later HX.out)
    have HQ : Hid (sekF f from_ size = if from_ < 0 ∨ size < 0 ∨ f.size - size < from_ then (5, []) else (0, partL 0 from_ (from_ + size) f.ps)) := rfl
    clear HF HB2 HB3 HG2
    by_cases h1 : from_ < 0
    · have HE : Hid (sekF f from_ size = (5, [])) := HQ.out.trans (if_pos (.inl h1))
      clear HQ
      go_wp2
      go_ret2
      rw [HE.out]
      exact ⟨none, 0, rfl, Rw.nil _, (fun _ _ h => by cases h), HX.out⟩
    · by_cases h2 : size < 0
      · have HE : Hid (sekF f from_ size = (5, [])) := HQ.out.trans (if_pos (.inr (.inl h2)))
        clear HQ
        go_wp2
        go_ret2
        rw [HE.out]
        exact ⟨none, 0, rfl, Rw.nil _, (fun _ _ h => by cases h), HX.out⟩
      · by_cases h3 : f.size - size < from_
        · have HE : Hid (sekF f from_ size = (5, [])) := HQ.out.trans (if_pos (.inr (.inr h3)))
          clear HQ
          go_wp2
          go_ret2
          rw [HE.out]
          exact ⟨none, 0, rfl, Rw.nil _, (fun _ _ h => by cases h), HX.out⟩
        · have HE : Hid (sekF f from_ size = (0, partL 0 from_ (from_ + size) f.ps)) := HQ.out.trans (if_neg (by omega))
          have h4 : 0 ≤ size := by omega
          have h5 : from_ + size ≤ 1048576 := by omega
          have h6 : 0 ≤ from_ := by omega
          have HPW := hid (parts_word W3 f HFO.out from_ (from_ + size) (by omega) (by omega) (by omega))
          clear HQ
          go_wp2_with (first | refine wpList_load_g rfl 77 _ rfl W1.heap.size 0 rfl f.cs _ HR.out Try.underlying77 rfl Try.size77 ?_ | fail)
          refine HPW.out.mono ?_
          rintro _ W4 ⟨a', cap', rfl, hrw, hfar, hb4⟩
          have HRW := hid hrw
          have HFAR := hid (fun b off e => Nat.le_trans HX.out.size (hfar b off e))
          have HB4 := hid (Bn HX.out hb4)
          clear hrw hfar hb4
          go_wp2
          go_ret2
          rw [HE.out]
          exact ⟨a', cap', rfl, HRW.out, HFAR.out, HB4.out⟩
end Go.Proofs.Ytcbjlnabbfkkeaa
