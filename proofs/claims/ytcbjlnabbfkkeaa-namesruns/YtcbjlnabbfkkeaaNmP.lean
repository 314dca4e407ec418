/-
  A file as it is told: the contracts of told and Stat.
-/
import Derived.Test.YtcbjlnabbfkkeaaNmM
namespace Go.Proofs.Ytcbjlnabbfkkeaa
open Go.ChangeShapes Go.WideShapes Go.ChangeAt Go.RowKit Go.Deep Go.Lib

/-- The told file g says what f is; its pieces lie at B or behind. -/
structure Fig (B : Nat) (w : World) (f : Fl) (g : Fi) : Prop where
  path : g.path = f.path
  size : g.size = f.size
  seq : g.seq = f.seq
  ps : g.ps = f.ps
  row : Rp w g.a g.cap g.ps
  far : ∀ b off, g.a = some ⟨b, off, none⟩ → B ≤ b
theorem Fig.later {B : Nat} {w w' : World} {f : Fl} {g : Fi} (h : Fig B w f g) (hb : Below w.heap.size w w') : Fig B w' f g := ⟨h.path, h.size, h.seq, h.ps, h.row.later hb, h.far⟩
theorem Fig.mono {B C : Nat} {w : World} {f : Fl} {g : Fi} (h : Fig B w f g) (hB : C ≤ B) : Fig C w f g := ⟨h.path, h.size, h.seq, h.ps, h.row, fun b o e => Nat.le_trans hB (h.far b o e)⟩
theorem Fi.no8 (f : Fi) : ∀ u ∈ f.cs, ∀ z, u ≠ .int .u8 z := by
  intro u hu z
  simp only [Fi.cs, List.mem_cons, List.not_mem_nil, or_false] at hu
  rcases hu with rfl | rfl | rfl | rfl <;> (intro e; cases e)
set_option maxHeartbeats 6400000 in
set_option maxRecDepth 100000 in
theorem told_word (W : World) (f : Fl) (hf : Fok W f) : Calls Try.prog 40 #[.agg f.cs.toArray] W fun e w' => ∃ g : Fi, e = .returned (.agg g.cs.toArray) ∧ Fig W.heap.size w' f g ∧ Below W.heap.size W w' := by
  have HS1 : Hid (W.heap.size + 1 = (W.alloc (.cells f.cs.toArray 77)).heap.size) := by show _ = _; simp
  have HX0 := hid (heap_alc W (.cells f.cs.toArray 77))
  have HB0 := hid (bel_alc W (.cells f.cs.toArray 77))
  have HY := hid Try.zero51
  have HF := hid hf
  clear hf
  go_enter Try.func40, Try.ntmps40
  go_wp2_with (first | refine wpList_alloc_W rfl 51 rfl (some 2) rfl _ HY.out (W.heap.size + 1) HS1.out ?_ | fail)
  intro W1 HG1 HB1 HSz1
  have HX1 := hid (blk_later HX0.out (by rw [← HS1.out]; exact HB1.out))
  have HBw : Hid (Below W.heap.size W W1) := HB0.out.trans (HB1.out.mono (Nat.le_succ _))
  have c3 : W1.cell? ⟨W.heap.size, 3, none⟩ = some (.slice f.a f.ps.length f.cap) := (Joins.cell_of_block HX1.out 3).trans rfl
  have HCW := hid (clone_word f.a f.cap f.ps W1 (HF.out.row.later HBw.out) HF.out.few)
  obtain ⟨n, hn⟩ : ∃ n, n = f.ps.length := ⟨_, rfl⟩
  have HN := hid hn
  rw [← hn] at c3 HCW
  clear hn
  go_wp2_with fail
  refine HCW.out.mono ?_
  rintro _ W2 ⟨a', cap', rfl, hr2, hfar, hb2⟩
  have HX2 := hid (blk_later HX1.out hb2)
  have HG2 := hid (blk_later HG1.out hb2)
  have HB2 := hid (Bn HBw.out hb2)
  have HR2 := hid hr2
  have HFAR := hid (fun b off e => Nat.le_trans HBw.out.size (hfar b off e))
  have c3' : W2.cell? ⟨W.heap.size, 3, none⟩ = some (.slice f.a n f.cap) := by rw [HN.out]; exact (Joins.cell_of_block HX2.out 3).trans rfl
  have u3 := Joins.unfrozen_of_block HX2.out 3
  obtain ⟨W3, hW3⟩ : ∃ W3, W3 = W2.setCell ⟨W.heap.size, 3, none⟩ (.slice a' n cap') := ⟨_, rfl⟩
  have HGS : Hid (W2.grownBy W3 (some W.heap.size)) := by show World.grownBy _ _ _; rw [hW3]; exact grown_setCell _ _ _ _
  obtain ⟨g, hg⟩ : ∃ g : Fi, g = ⟨f.path, f.size, f.seq, f.ps, a', cap'⟩ := ⟨_, rfl⟩
  have HX3 : Hid (W3.heap[W.heap.size]? = some (.cells (g.cs ++ [Value.slice f.e f.ps.length f.ecap]).toArray 77)) := by
    show _ = _
    rw [hW3, Joins.block_setCell HX2.out, hg, HN.out]
    rfl
  have HR3 : Hid (W3.rangeAt W.heap.size 0 g.cs) := fun j v hv => by
    rw [Nat.zero_add, Joins.cell_of_block HX3.out j, List.getElem?_toArray, List.getElem?_append_left (List.getElem?_eq_some_iff.1 hv).1]
    exact hv
  have HG3 : Hid (W3.heap[W.heap.size + 1]? = some (.cells fiZ.cs.toArray 51)) := (HGS.out.block _ (blk_lt HG2.out) (fun e => by have e2 : W.heap.size + 1 = W.heap.size := Option.some.inj e; omega)).trans HG2.out
  have HRP3 : Hid (Rp W3 a' cap' f.ps) := HR2.out.grown HGS.out (fun _ b off e => by have := HFAR.out b off e; have h2 := hfar b off e; have := HBw.out.size; have := HSz1.out; omega)
  have HFIG : Hid (Fig W.heap.size W3 f g) := by
    show Fig _ _ _ _
    rw [hg]
    exact ⟨rfl, rfl, rfl, rfl, HRP3.out, HFAR.out⟩
  have HB3 : Hid (Below W.heap.size W W3) := HB2.out.trans (bel_grown HGS.out (Nat.le_refl _) HB2.out.size)
  have HLG : Hid (g.cs.length = 4) := rfl
  subst hW3
  clear hr2 hb2 hg hfar HCW c3
  go_wp2_with (first | refine wpList_load_g rfl 51 _ rfl W.heap.size 0 rfl g.cs _ HR3.out Try.underlying51 rfl Try.size51 ?_ | refine wpList_store_W rfl 51 _ _ rfl rfl (W.heap.size + 1) g.cs.toArray rfl rfl 51 _ HG3.out Try.size51 rfl (Fi.one _) ?_ | fail)
  intro W4 HG4 HB4 HS4
  go_wp2
  refine bodyPost_ret (results_cell_row (ty := 51) rfl _ _ _ _ _ _ _ rfl HG4.out Try.underlying51 rfl Try.size51) rfl ⟨g, rfl, ?_, HB3.out.trans (bel_grown HB4.out (Nat.le_succ _) HB3.out.size)⟩
  have h := HFIG.out
  exact ⟨h.path, h.size, h.seq, h.ps, h.row.grown HB4.out (fun h0 b o e => h.row.ne HG3.out (Fi.no8 _) h0 b o e), h.far⟩
/-- What Stat answers. -/
def StatP (W : World) (M : List Fl) (s : ByteArray) (e : Ending) (w' : World) : Prop :=
  Below W.heap.size W w' ∧ ((fnd M s = none ∧ e = .returned (.tuple #[.agg fiZ.cs.toArray, .int .i64 150])) ∨ ∃ (f : Fl) (g : Fi), fnd M s = some f ∧ e = .returned (.tuple #[.agg g.cs.toArray, .int .i64 0]) ∧ Fig W.heap.size w' f g)
set_option maxHeartbeats 6400000 in
set_option maxRecDepth 100000 in
theorem stat_word (W : World) (n g : Nat) (M : List Fl) (B : Nat) (h : Nm B W n g M) (s : ByteArray) (hs : s.size ≤ maxLen) :
    Calls Try.prog 22 #[.pointer (some ⟨n, 0, none⟩), .string s] W (StatP W M s) := by
  have HAT := hid (fun V (hb : Below W.heap.size W V) => at_word V n g M B (h.later hb) s hs)
  have HZ : Hid (∀ w, (zeroValue 77).run Try.prog w = .ok (.agg flZ.cs.toArray) w) := Try.zero77
  have HY := hid Try.zero51
  have HBU : Hid (Try.prog.built 51 [] = some fiZ.cs.toArray) := by show _ = _; kernel_rfl
  have HOK : Hid (∀ f, fnd M s = some f → Fok W f) := fun f hf => by
    obtain ⟨D, h⟩ := h
    exact h.ok f (fnd_mem hf)
  have ha : atE M s = if (fnd M s).isSome then 0 else 150 := rfl
  have HPP : Hid (∀ e w', StatP W M s e w' ↔ (Below W.heap.size W w' ∧ ((fnd M s = none ∧ e = .returned (.tuple #[.agg fiZ.cs.toArray, .int .i64 150])) ∨ ∃ (f : Fl) (g : Fi), fnd M s = some f ∧ e = .returned (.tuple #[.agg g.cs.toArray, .int .i64 0]) ∧ Fig W.heap.size w' f g))) := fun _ _ => Iff.rfl
  clear h hs
  generalize StatP W M s = PP at *
  cases hf : fnd M s with
  | none =>
    rw [hf] at ha HAT HPP
    rw [ha] at HAT
    clear ha HOK hf
    go_enter Try.func22, Try.ntmps22
    go_wp2_with (first | refine wpList_alloc_W rfl 51 rfl (some 4) rfl _ HY.out W.heap.size rfl ?_ | fail)
    intro W1 HG1 HB1 HS1
    go_wp2_with fail
    refine (HAT.out _ HB1.out).mono ?_
    rintro _ W2 ⟨rfl, hb2⟩
    have HB2 := hid (Bn HB1.out hb2)
    have HG2 := hid (blk_later HG1.out hb2)
    clear hb2 HAT
    go_wp2_with (first | refine wpList_alloc_W rfl 77 rfl (some 6) rfl _ HZ.out W2.heap.size rfl ?_ | fail)
    intro W3 HG3 HB3 HS3
    go_wp2_with (first | refine wpList_store_W rfl 77 _ _ rfl rfl W2.heap.size flZ.cs.toArray rfl rfl 77 _ HG3.out Try.size77 rfl (Fl.one _) ?_ | fail)
    intro W4 HG4 HB4 HS4
    have HX : Hid (Below W2.heap.size W2 W4) := HB3.out.trans (bel_grown HB4.out (Nat.le_refl _) HB3.out.size)
    have HG5 := hid (blk_later HG2.out HX.out)
    go_wp2_with (first | refine wpList_buildTo rfl 51 _ rfl (some 16) rfl fiZ.cs.toArray (Eq.trans (congrArg (Try.prog.built 51) (by simp only [List.map_toArray, List.map_nil])) HBU.out) ?_ | refine wpList_store_W rfl 51 _ _ rfl rfl W.heap.size fiZ.cs.toArray rfl rfl 51 _ HG5.out Try.size51 rfl (Fi.one _) ?_ | fail)
    intro W6 HG6 HB6 HS6
    go_wp2
    refine bodyPost_ret (results_row_tmp rfl _ _ W.heap.size _ rfl (fi_load HG6.out)) rfl ((HPP.out _ _).2 ⟨(Bn HB2.out HX.out).trans (bel_grown HB6.out (Nat.le_refl _) (Nat.le_trans HB2.out.size HX.out.size)), .inl ⟨by simp, rfl⟩⟩)
  | some f =>
    rw [hf] at ha HAT HPP
    have HF := hid (HOK.out f hf)
    rw [ha] at HAT
    clear ha HOK hf
    go_enter Try.func22, Try.ntmps22
    go_wp2_with (first | refine wpList_alloc_W rfl 51 rfl (some 4) rfl _ HY.out W.heap.size rfl ?_ | fail)
    intro W1 HG1 HB1 HS1
    go_wp2_with fail
    refine (HAT.out _ HB1.out).mono ?_
    rintro _ W2 ⟨rfl, hb2⟩
    have HB2 := hid (Bn HB1.out hb2)
    have HG2 := hid (blk_later HG1.out hb2)
    clear hb2 HAT
    go_wp2_with (first | refine wpList_alloc_W rfl 77 rfl (some 6) rfl _ HZ.out W2.heap.size rfl ?_ | fail)
    intro W3 HG3 HB3 HS3
    go_wp2_with (first | refine wpList_store_W rfl 77 _ _ rfl rfl W2.heap.size f.cs.toArray rfl rfl 77 _ HG3.out Try.size77 rfl (Fl.one _) ?_ | fail)
    intro W4 HG4 HB4 HS4
    have HX : Hid (Below W2.heap.size W2 W4) := HB3.out.trans (bel_grown HB4.out (Nat.le_refl _) HB3.out.size)
    have HG5 := hid (blk_later HG2.out HX.out)
    have HB5 := hid (Bn HB2.out HX.out)
    have HR := hid (blk_range HG4.out)
    have HTD := hid (told_word W4 f (HF.out.later HB5.out))
    go_wp2_with (first | refine wpList_load_g rfl 77 _ rfl W2.heap.size 0 rfl f.cs _ HR.out Try.underlying77 rfl Try.size77 ?_ | fail)
    refine HTD.out.mono ?_
    rintro _ W5 ⟨g, rfl, hfig, hb5⟩
    have HFIG := hid hfig
    have HG6 := hid (blk_later HG5.out hb5)
    have HB6 := hid (Bn HB5.out hb5)
    clear hfig hb5 HTD
    go_wp2_with (first | refine wpList_store_W rfl 51 _ _ rfl rfl W.heap.size g.cs.toArray rfl rfl 51 _ HG6.out Try.size51 rfl (Fi.one _) ?_ | fail)
    intro W6 HG7 HB7 HS7
    go_wp2
    have h := HFIG.out
    refine bodyPost_ret (results_row_tmp rfl _ _ W.heap.size _ rfl (fi_load HG7.out)) rfl ((HPP.out _ _).2 ⟨HB6.out.trans (bel_grown HB7.out (Nat.le_refl _) HB6.out.size), .inr ⟨f, g, rfl, rfl, ?_⟩⟩)
    exact ⟨h.path, h.size, h.seq, h.ps, h.row.grown HB7.out (fun h0 b o e => h.row.ne HG6.out (Fi.no8 _) h0 b o e), fun b o e => Nat.le_trans HB5.out.size (h.far b o e)⟩
end Go.Proofs.Ytcbjlnabbfkkeaa
