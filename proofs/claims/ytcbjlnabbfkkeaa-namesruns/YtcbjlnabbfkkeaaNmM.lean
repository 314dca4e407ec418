/-
  A path's file as it is told, and what a namespace that nobody made answers: the contracts of told, Stat, and of List, Digests, Copy of nobody's.
-/
import Derived.Test.YtcbjlnabbfkkeaaNmL
namespace Go.Proofs.Ytcbjlnabbfkkeaa
open Go.ChangeShapes Go.WideShapes Go.ChangeAt Go.RowKit Go.Deep Go.Lib

/-- A file as it is told, with the place of its pieces. -/
structure Fi where
  path : ByteArray
  size : Int
  seq : Int
  ps : List Pc
  a : Option Addr
  cap : Nat
def Fi.cs (f : Fi) : List Value := [.string f.path, .int .i64 f.size, .int .i64 f.seq, .slice f.a f.ps.length f.cap]
def fiZ : Fi := ⟨ByteArray.empty, 0, 0, [], none, 0⟩
theorem Try.zero51 : ∀ w, (zeroValue 51).run Try.prog w = .ok (.agg fiZ.cs.toArray) w := fun w => by kernel_rfl
theorem Try.size51 : (Try.prog.info? 51).map (·.size) = some 4 := by kernel_rfl
theorem Fi.one (f : Fi) : f.cs.toArray.all (·.oneCell') = true := by simp [Fi.cs, Value.oneCell']
theorem fi_load {w : World} {b : Nat} {f : Fi} (h : w.heap[b]? = some (.cells f.cs.toArray 51)) : (loadVar 51 ⟨b, 0, none⟩).run Try.prog w = .ok (.agg f.cs.toArray) w :=
  run_loadVar_row (P := Try.prog) w b 51 51 f.cs.toArray (0, 0) _ h Try.underlying51 rfl Try.size51
set_option maxHeartbeats 3200000 in
set_option maxRecDepth 100000 in
theorem stat_no (W : World) (v : Value) (s : ByteArray) (h : Nob W v) : Calls Try.prog 22 #[v, .string s] W fun e w' => e = .returned (.tuple #[.agg fiZ.cs.toArray, .int .i64 4]) ∧ Below W.heap.size W w' := by
  have HN := hid (fun V (hb : Below W.heap.size W V) => at_no V v s (h.later hb))
  have HZ : Hid (∀ w, (zeroValue 77).run Try.prog w = .ok (.agg flZ.cs.toArray) w) := Try.zero77
  have HY := hid Try.zero51
  have HBU : Hid (Try.prog.built 51 [] = some fiZ.cs.toArray) := by show _ = _; kernel_rfl
  clear h
  go_enter Try.func22, Try.ntmps22
  go_wp2_with (first | refine wpList_alloc_W rfl 51 rfl (some 4) rfl _ HY.out W.heap.size rfl ?_ | fail)
  intro W1 HG1 HB1 HS1
  go_wp2_with fail
  refine (HN.out _ HB1.out).mono ?_
  rintro _ W2 ⟨rfl, hb2⟩
  have HB2 := hid (Bn HB1.out hb2)
  have HG2 := hid (blk_later HG1.out hb2)
  clear hb2 HN
  go_wp2_with (first | refine wpList_alloc_W rfl 77 rfl (some 6) rfl _ HZ.out W2.heap.size rfl ?_ | fail)
  intro W3 HG3 HB3 HS3
  go_wp2_with (first | refine wpList_store_W rfl 77 _ _ rfl rfl W2.heap.size flZ.cs.toArray rfl rfl 77 _ HG3.out Try.size77 rfl (Fl.one _) ?_ | fail)
  intro W4 HG4 HB4 HS4
  have HX : Hid (Below W2.heap.size W2 W4) := HB3.out.trans (bel_grown HB4.out (Nat.le_refl _) HB3.out.size)
  have HG5 := hid (blk_later HG2.out HX.out)
  go_wp2_with (first | refine wpList_buildTo rfl 51 _ rfl (some 16) rfl fiZ.cs.toArray (Eq.trans (congrArg (Try.prog.built 51) (by simp only [List.map_toArray, List.map_nil])) HBU.out) ?_ | refine wpList_store_W rfl 51 _ _ rfl rfl W.heap.size fiZ.cs.toArray rfl rfl 51 _ HG5.out Try.size51 rfl (Fi.one _) ?_ | fail)
  intro W6 HG6 HB6 HS6
  go_wp2
  exact bodyPost_ret (results_row_tmp rfl _ _ W.heap.size _ rfl (fi_load HG6.out)) rfl ⟨rfl, (Bn HB2.out HX.out).trans (bel_grown HB6.out (Nat.le_refl _) (Nat.le_trans HB2.out.size HX.out.size))⟩
set_option maxRecDepth 100000 in
theorem list_no (W : World) (v : Value) (s : ByteArray) (h : Nob W v) : Calls Try.prog 20 #[v, .string s] W fun e w' => e = .returned (.slice none 0 0) ∧ w' = W := by
  have HN := hid (made_no W v h)
  clear h
  go_enter Try.func20, Try.ntmps20
  go_wp2_with fail
  refine HN.out.mono ?_
  rintro _ w0 ⟨rfl, hw⟩
  obtain rfl := hw.symm
  clear hw HN
  go_wp2
  go_ret
  exact ⟨rfl, rfl⟩
set_option maxRecDepth 100000 in
theorem digests_no (W : World) (v : Value) (h : Nob W v) : Calls Try.prog 25 #[v] W fun e w' => e = .returned (.slice none 0 0) ∧ w' = W := by
  have HN := hid (made_no W v h)
  clear h
  go_enter Try.func25, Try.ntmps25
  go_wp2_with fail
  refine HN.out.mono ?_
  rintro _ w0 ⟨rfl, hw⟩
  obtain rfl := hw.symm
  clear hw HN
  go_wp2
  go_ret
  exact ⟨rfl, rfl⟩
set_option maxRecDepth 100000 in
theorem copy_no (W : World) (v : Value) (h : Nob W v) : Calls Try.prog 24 #[v] W fun e w' => e = .returned (.pointer none) ∧ w' = W := by
  have HN := hid (made_no W v h)
  clear h
  go_enter Try.func24, Try.ntmps24
  go_wp2_with fail
  refine HN.out.mono ?_
  rintro _ w0 ⟨rfl, hw⟩
  obtain rfl := hw.symm
  clear hw HN
  go_wp2
  go_ret
  exact ⟨rfl, rfl⟩
end Go.Proofs.Ytcbjlnabbfkkeaa
