/-
  Told files sorted by their paths: cmp.Compare (43), List's closure (42), slices.SortFunc (41).
-/
import Derived.Test.YtcbjlnabbfkkeaaNmS
import Derived.Sort.LotA
import Derived.Sort.Walk0
namespace Go.Proofs.Ytcbjlnabbfkkeaa
open Go.ChangeShapes Go.WideShapes Go.ChangeAt Go.RowKit Go.Deep Go.Lib

def cmpS (a b : ByteArray) : Int := if Op.bytesLess a.toList b.toList = true then -1 else if (!(Op.bytesLess a.toList b.toList || a.toList == b.toList)) = true then 1 else 0
set_option maxHeartbeats 1600000 in
set_option maxRecDepth 100000 in
theorem nan_word (a : ByteArray) (w : World) : Calls Try.prog 61 #[.string a] w fun e w' => e = .returned (.bool false) ∧ w' = w := by
  go_enter Try.func61, Try.ntmps61
  go_wp2
  go_ret
  exact ⟨by simp, rfl⟩
set_option maxHeartbeats 1600000 in
set_option maxRecDepth 100000 in
theorem cmp_word (a b : ByteArray) (w : World) : Calls Try.prog 43 #[.string a, .string b] w fun e w' => e = .returned (.int .i64 (cmpS a b)) ∧ w' = w := by
  unfold cmpS
  have HN := hid nan_word
  go_enter Try.func43, Try.ntmps43
  go_wp2_with fail
  refine (HN.out _ _).mono ?_
  rintro _ w0 ⟨rfl, hw⟩
  obtain rfl := hw.symm
  clear hw
  go_wp2_with fail
  refine (HN.out _ _).mono ?_
  rintro _ w0 ⟨rfl, hw⟩
  obtain rfl := hw.symm
  clear hw
  cases hq : Op.bytesLess a.toList b.toList with
  | true =>
    go_wp2
    go_ret
    exact ⟨by simp, rfl⟩
  | false =>
    cases hp : (a.toList == b.toList) with
    | true =>
      go_wp2
      all_goals (go_ret; exact ⟨by simp_all, rfl⟩)
    | false =>
      go_wp2
      all_goals (go_ret; exact ⟨by simp_all, rfl⟩)
instance : Inhabited Fi := ⟨fiZ⟩
set_option maxHeartbeats 1600000 in
set_option maxRecDepth 100000 in
theorem cmpFi_word (x y : Fi) (w : World) : Calls Try.prog 42 #[.agg x.cs.toArray, .agg y.cs.toArray] w fun e w' => e = .returned (.int .i64 (cmpS x.path y.path)) ∧ w' = (w.alloc (.cells x.cs.toArray 51)).alloc (.cells y.cs.toArray 51) := by
  have HC := hid (fun V => cmp_word x.path y.path V)
  have hs : (w.alloc (.cells x.cs.toArray 51)).heap.size = w.heap.size + 1 := by simp
  have g1 := heap_old _ (.cells y.cs.toArray 51) (heap_alc w (.cells x.cs.toArray 51))
  have g2 := heap_alc (w.alloc (.cells x.cs.toArray 51)) (.cells y.cs.toArray 51)
  rw [hs] at g2
  have c1 : ((w.alloc (.cells x.cs.toArray 51)).alloc (.cells y.cs.toArray 51)).cell? ⟨w.heap.size, 0, none⟩ = some (.string x.path) := (Joins.cell_of_block g1 0).trans rfl
  have c2 : ((w.alloc (.cells x.cs.toArray 51)).alloc (.cells y.cs.toArray 51)).cell? ⟨w.heap.size + 1, 0, none⟩ = some (.string y.path) := (Joins.cell_of_block g2 0).trans rfl
  clear hs g1 g2
  go_enter Try.func42, Try.ntmps42
  go_wp2_with fail
  refine (HC.out _).mono ?_
  rintro _ w0 ⟨rfl, hw⟩
  obtain rfl := hw.symm
  clear hw
  go_wp2
  go_ret
  exact ⟨rfl, rfl⟩
def cfF (x y : Fi) : Int := cmpS x.path y.path
def ltF (x y : Fi) : Bool := Op.bytesLess x.path.toList y.path.toList
theorem ltOf_cf : ltOf cfF = ltF := by
  funext x y
  unfold ltOf cfF cmpS ltF
  cases Op.bytesLess x.path.toList y.path.toList <;> cases (x.path.toList == y.path.toList) <;> rfl
theorem ltF_str (x y : Fi) : ltF x y = Sort.ltStr x.path.toList y.path.toList := bytesLess_eq _ _
theorem swoF : Sort.SWO (ltOf cfF) := by
  rw [ltOf_cf]
  exact ⟨fun x => by rw [ltF_str]; exact Sort.swo_ltStr.irrefl _, fun x y z h1 h2 => by rw [ltF_str] at *; exact Sort.swo_ltStr.trans _ _ _ h1 h2, fun x y z h1 h2 => by rw [ltF_str] at *; exact Sort.swo_ltStr.ntrans _ _ _ h1 h2⟩
theorem cmpLaysF (blk off size : Nat) (w : World) : CmpLays Try.prog 42 #[] Fi.cs 4 cfF blk off size w := fun m os dk _ x y => by
  refine (cmpFi_word x y _).mono ?_
  rintro _ w' ⟨rfl, rfl⟩
  refine ⟨rfl, 0, #[.cells x.cs.toArray 51, .cells y.cs.toArray 51], ?_⟩
  show _ = Sort.grow (sortWorldK Fi.cs 4 w blk off m dk os) _
  rw [Sort.alloc_eq_grow, Sort.alloc_eq_grow, Sort.grow_grow]
  rfl
theorem sortW_grown (w : World) (g n : Nat) (d : Array Fi) (os : Array Obj) : w.grownBy (sortWorldK Fi.cs 4 w g 0 n d os) (some g) := by
  refine ⟨rfl, rfl, rfl, ?_, fun k hk hne => ?_⟩
  · exact size_sortWorldK_c (k := 4) Fi.cs w g 0 n d os
  · have hgk : g ≠ k := fun e => hne (by rw [e])
    show ((w.heap.modify g _) ++ os)[k]? = w.heap[k]?
    rw [Array.getElem?_append_left (by simpa using hk), Array.getElem?_modify, if_neg hgk]
theorem sorted_word (w : World) (g cap : Nat) (L : List Fi) (base : Nat) (h : w.ownsRow base 51 4 (.slice (some ⟨g, 0, none⟩) L.length cap) L.length (L.flatMap Fi.cs)) (hn : L.length ≤ 100000) :
    Calls Try.prog 41 #[.slice (some ⟨g, 0, none⟩) L.length cap, .func (.func 42) #[] #[]] w fun e w' => e = .returned (.tuple #[]) ∧ ∃ L' : List Fi, L'.Perm L ∧ L'.Pairwise (fun x y => ltF y x = false) ∧ Rw 4 Fi.cs fiZ w' (some ⟨g, 0, none⟩) cap L' ∧ w.grownBy w' (some g) := by
  obtain ⟨a, cap', hv, hr, _⟩ := Rw.own (z := fiZ) h (fun _ _ => rfl)
  injection hv with hv1 hv2 hv3
  subst hv1
  subst hv3
  have hlen : ∀ x : Fi, x.cs.length = 4 := fun _ => rfl
  obtain ⟨cur, hcur⟩ : ∃ cur, w.heap[g]? = some (.cells cur 51) := by
    rcases h.2 with ⟨h1, _⟩ | ⟨g2, cap2, cur, h1, _, h3, _⟩
    · cases h1
    · injection h1 with h1
      injection h1 with h1
      injection h1 with h1
      subst h1
      exact ⟨cur, h3⟩
  have hg : g < w.heap.size := (Array.getElem?_eq_some_iff.1 hcur).1
  have hroom := hr.room
  have hmost := hr.most
  have hH : Go.Sort.HoldsK Fi.cs 4 w g 0 L.toArray := fun j hj => by
    rw [Go.Sort.size_flatK] at hj
    have hj2 : j < L.length * 4 := by simpa using hj
    refine ⟨?_, Joins.unfrozen_of_block hcur _⟩
    obtain ⟨b, off, e, _, hc⟩ := hr.cells (by omega)
    injection e with e
    injection e with e1 e2
    subst e1
    subst e2
    rw [Go.Sort.get_flatK _ _ _ _ hj]
    have hq : j / 4 < L.length := by omega
    have h1 := hc (j / 4) hq (j % 4) ((L.toArray[j / 4]!).cs)[j % 4]! ?_
    · rw [show (0 : Nat) + j / 4 * 4 + j % 4 = 0 + j from by omega] at h1
      exact h1
    · have h2 : L.toArray[j / 4]! = L.getD (j / 4) fiZ := by simp [hq, List.getD]
      rw [h2]
      have h3 : j % 4 < (L.getD (j / 4) fiZ).cs.length := by rw [hlen]; omega
      rw [getElem!_pos (L.getD (j / 4) fiZ).cs (j % 4) h3]
      exact List.getElem?_eq_getElem h3
  have haE : ∀ W, (isAgg 51).run Try.prog W = .ok true W := fun W => by kernel_rfl
  have hzE : ∀ W, (Go.sizeOf 51).run Try.prog W = .ok 4 W := fun W => by kernel_rfl
  have heg : ∀ args W, (callFunc 42 args).run Try.prog W = .ok (.enter 42 args) W := fun args W => by kernel_rfl
  have key := AnyQ.slices_SortFunc (P := Try.prog) Try.sortFiles 4 haE hzE Fi.cs hlen (fun x v hv => List.all_eq_true.1 (by simpa using Fi.one x) v hv) cfF swoF 42 #[] g 0 cap L.toArray w heg (cmpLaysF g 0 _ w) hH hg (by simp; omega)
  have hsz : L.toArray.size = L.length := by simp
  rw [hsz] at key
  refine key.mono ?_
  rintro e w' ⟨rfl, d', n, os, hp, hs, rfl⟩
  have hds : d'.size = L.length := hp.1.trans hsz
  have hH2 := holdsK_sortWorldK Fi.cs 4 w g 0 n L.toArray d' os hg hH hp.1
  refine ⟨rfl, d'.toList, ?_, ?_, ⟨by simp [hds]; omega, hmost, (fun h => by cases h), fun h0 => ⟨g, 0, rfl, lt_sortWorldK Fi.cs 4 w g 0 n d' os hg, fun j hj c v hv => ?_⟩⟩, sortW_grown w g n d' os⟩
  · have h1 := hp.2.2
    have e1 : d'.extract 0 L.length = d' := by rw [← hds]; simp
    have e2 : L.toArray.extract 0 L.length = L.toArray := by rw [← hsz]; simp
    rw [e1, e2] at h1
    simpa using h1
  · rw [List.pairwise_iff_getElem]
    intro i j hi hj hij
    have h1 := hs i j (Nat.zero_le _) hij (by simpa [hds] using hj)
    rw [ltOf_cf] at h1
    have hi' : i < d'.size := by simpa using hi
    have hj' : j < d'.size := by simpa using hj
    rw [getElem!_pos d' i hi', getElem!_pos d' j hj'] at h1
    simpa using h1
  · have hj' : j < d'.size := by simpa using hj
    have h3 : c < (d'.toList.getD j fiZ).cs.length := (List.getElem?_eq_some_iff.1 hv).1
    have h4 := (hH2.cell (i := j) (c := c) hj' (by rw [hlen] at h3; exact h3)).1
    have h5 : d'[j]! = d'.toList.getD j fiZ := by
      rw [getElem!_pos d' j hj']
      simp [List.getD, hj']
    rw [h5, getElem!_pos (d'.toList.getD j fiZ).cs c h3] at h4
    rw [h4, ← hv]
    exact (List.getElem?_eq_getElem h3).symm
end Go.Proofs.Ytcbjlnabbfkkeaa
