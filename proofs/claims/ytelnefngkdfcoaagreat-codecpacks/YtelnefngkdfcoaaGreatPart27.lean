/-
  A number so many times: the contracts of bits.Mul64, bits.Mul at 1 and of slices.Repeat of one number.
-/
import Derived.Test.YtelnefngkdfcoaaGreatPart10
import Derived.Test.YtelnefngkdfcoaaGreatPart20
import Derived.Test.YtelnefngkdfcoaaGreatPart26
import Derived.Laws.CopyOwn
import Derived.Laws.BitsAllLaws
namespace Go.Proofs.YtelnefngkdfcoaaGreat
open Go.RowKit

theorem and_low (n : Nat) (hn : n < 4294967296) : bits .and .u64 (n : Int) 4294967295 = (n : Int) := by
  rw [show (4294967295 : Int) = ((4294967295 : Nat) : Int) from rfl, u64_and_nat n 4294967295 (by omega) (by omega)]
  have := Nat.and_two_pow_sub_one_of_lt_two_pow (x := n) (n := 32) (by omega)
  rw [show 2 ^ 32 - 1 = 4294967295 from rfl] at this
  rw [this]
theorem mul64_word (n : Nat) (hn : n ≤ 100000) (w : World) : Calls Tryz.prog 123 #[.int .u64 1, .int .u64 (n : Int)] w fun e w' => e = .returned (.tuple #[.int .u64 0, .int .u64 (n : Int)]) ∧ w' = w := by
  have h1 := and_low n (by omega)
  have h2 : bits .and .u64 1 4294967295 = 1 := and_low 1 (by decide)
  have h3 : (n : Int) / 2 ^ 32 = 0 := by omega
  have h4 : (n : Int) / 4294967296 = 0 := by omega
  have h5 : bits .and .u64 0 4294967295 = 0 := and_low 0 (by decide)
  go_enter Tryz.func123, Tryz.ntmps123
  go_wp2
  go_ret2
  exact ⟨rfl, rfl⟩
theorem mul_word (n : Nat) (hn : n ≤ 100000) (w : World) : Calls Tryz.prog 116 #[.int .u64 1, .int .u64 (n : Int)] w fun e w' => e = .returned (.tuple #[.int .u64 0, .int .u64 (n : Int)]) ∧ w' = w := by
  have HM := hid (mul64_word n hn w)
  go_enter Tryz.func116, Tryz.ntmps116
  go_wp2_with fail
  refine HM.out.mono ?_
  rintro _ w1 ⟨rfl, hw⟩
  obtain rfl := hw.symm
  clear HM hw
  go_wp2_with fail
  go_ret2
  exact ⟨rfl, rfl⟩
def repL (z : Int) (n k : Nat) : List Int := List.replicate k z ++ List.replicate (n - k) 0
theorem repL_length (z : Int) (n k : Nat) (h : k ≤ n) : (repL z n k).length = n := by simp [repL]; omega
theorem repL_full (z : Int) (n : Nat) : repL z n n = List.replicate n z := by simp [repL]
theorem repL_splice (z : Int) (n k m : Nat) : splice ((repL z n k).map (Value.int .i64)) k (List.replicate m (Value.int .i64 z)) = (repL z n (k + m)).map (Value.int .i64) := by
  unfold splice repL
  simp only [List.map_append, List.map_replicate, List.length_replicate]
  rw [List.take_append_of_le_length (by simp), List.take_of_length_le (by simp), List.drop_append, List.drop_of_length_le (by simp), List.nil_append, List.drop_replicate]
  rw [← List.append_assoc, List.replicate_append_replicate]
  congr 2
  simp
  omega
set_option maxHeartbeats 3200000 in
set_option maxRecDepth 100000 in
theorem repeat_word (g n : Nat) (z : Int) (w : World) (hc : w.cell? ⟨g, 0, none⟩ = some (.int .i64 z)) (hn : n ≤ 1000) :
    Calls Tryz.prog 98 #[.slice (some ⟨g, 0, none⟩) 1 1, .int .i64 (n : Int)] w fun e w' => e = .returned (.slice (some ⟨w.heap.size, 0, none⟩) n n) ∧ w'.heap[w.heap.size]? = some (.cells ((List.replicate n z).map (Value.int .i64)).toArray 3 (0, 0)) ∧ Below w.heap.size w w' := by
  obtain ⟨i0, hi, hz0, hz1, hz2⟩ := info_parts Tryz.info3'
  have HM := hid (mul_word n (by omega) w)
  have HC := hid hc
  have hnn : ¬ (n : Int) < 0 := by omega
  have hbig : (n : Int) < 18446744073709551616 := by omega
  have HGL := hid (cell_lt hc)
  have HN := hid hn
  clear hc hn
  go_enter Tryz.func98, Tryz.ntmps98
  go_wp2_with fail
  refine HM.out.mono ?_
  rintro _ w1 ⟨rfl, hw⟩
  obtain rfl := hw.symm
  clear HM hw
  clear hbig hnn
  have hb9 : decide ((9223372036854775807 : Int) < (n : Int)) = false := by have := HN.out; simp; omega
  have hb8 : decide ((9223372036854775807 : Nat) < n) = false := by have := HN.out; simp; omega
  have hb7 : wrap64 (n : Int) = (n : Int) := by have := HN.out; exact wrap64_id (by omega) (by omega)
  go_wp2_with (at_make; refine wpList_make_full _ rfl _ _ 51 rfl w.heap.size 3 i0 (.int .i64 0) 1 Tryz.underlying51 hi hz0 hz1 .i64 .i64 _ _ n rfl rfl (by have := HN.out; first | rfl | omega) (by have := HN.out; first | rfl | omega) ?b2 ?b3 ?b4 ?_)
  case b2 => have := HN.out; rw [hz2]; omega
  case b3 => have := HN.out; unfold maxLen; omega
  case b4 => exact Nat.le_refl _
  intro w2 hown0 hgrow
  have HB2 : Hid (Below w.heap.size w w2) := (Below.refl _ _).grown hgrow (Nat.le_refl _) (fun k hk => by cases hk)
  have HG2 : Hid (w2.heap[w.heap.size]? = some (.cells ((repL z n 0).map (Value.int .i64)).toArray 3 (0, 0))) := by
    rw [toList_madeCells_one] at hown0
    rcases hown0.2 with ⟨h, _⟩ | ⟨g', cap', cur, h1, _, h3, _, _, h6, h7⟩
    · cases h
    · simp only [Value.slice.injEq, Option.some.injEq, Addr.mk.injEq] at h1
      obtain ⟨⟨rfl, _, _⟩, _, rfl⟩ := h1
      show _ = _
      rw [h3]
      have e : cur = ((repL z n 0).map (Value.int .i64)).toArray := by
        apply Array.toList_inj.1
        rw [List.take_of_length_le (by rw [Array.length_toList, h6]; exact Nat.le_refl _)] at h7
        rw [h7]
        simp [repL]
      rw [e]
  have HC2 : Hid (w2.cell? ⟨g, 0, none⟩ = some (.int .i64 z)) := (HB2.out.cell (p := ⟨g, 0, none⟩) HGL.out).trans HC.out
  clear hown0 hgrow
  obtain ⟨k0, hk0⟩ : ∃ k, k = Nat.min 1 n := ⟨_, rfl⟩
  have hk1 : k0 ≤ n := by rw [hk0]; exact Nat.min_le_right _ _
  have hk2 : k0 = 0 → n = 0 := by rw [hk0]; intro h; unfold Nat.min at h; omega
  have hk3 : k0 ≤ 1 := by rw [hk0]; exact Nat.min_le_left _ _
  have HCC1 : Hid ((List.replicate k0 (Value.int .i64 z)).length = Nat.min 1 n) := by show _ = _; rw [List.length_replicate, hk0]
  have HCC2 : Hid (0 < (List.replicate k0 (Value.int .i64 z)).length → (some (⟨w.heap.size, 0, none⟩ : Addr)) = some ⟨w.heap.size, 0, none⟩ ∧ ∃ ad, (some (⟨g, 0, none⟩ : Addr)) = some ad ∧ ∀ j v, (List.replicate k0 (Value.int .i64 z))[j]? = some v → w2.cell? (ad.add j) = some v) := by
    intro hp
    refine ⟨rfl, _, rfl, fun j v hj => ?_⟩
    rw [List.getElem?_replicate] at hj
    split at hj
    · have : j = 0 := by omega
      subst this
      rw [Go.WideShapes.add_plain, ← hj]
      exact HC2.out
    · cases hj
  have HCC3 : Hid (0 + (List.replicate k0 (Value.int .i64 z)).length ≤ ((repL z n 0).map (Value.int .i64)).length) := by
    show _ ≤ _
    rw [List.length_replicate, List.length_map, repL_length z n 0 (by omega)]; omega
  have HCC4 : Hid (∀ v ∈ List.replicate k0 (Value.int .i64 z), v.oneCell' = true) := by intro v hv; rw [List.eq_of_mem_replicate hv]; rfl
  have HK0 := hid hk0
  have HK2 := hid hk2
  clear hk0 hk2
  go_wp2_with (refine wpList_copy_splice rfl _ _ 51 51 rfl 3 Tryz.underlying51 (by kernel_rfl) (some ⟨w.heap.size, 0, none⟩) (some ⟨g, 0, none⟩) n n 1 1 rfl rfl w.heap.size 0 ((repL z n 0).map (Value.int .i64)) 3 HG2.out (List.replicate k0 (.int .i64 z)) HCC1.out HCC2.out HCC3.out HCC4.out w.heap.size w HB2.out (Nat.le_refl _) ?_)
  intro w3 HG3 hB3
  rw [repL_splice z n 0 k0, Nat.zero_add] at HG3
  have HB3 := hid hB3
  clear HG2 HB2 HC2 hB3 HC HCC1 HCC2 HCC3 HCC4
  go_wp2_with fail
  go_loopw [8] (fun x wr => ∃ k : Nat, x = .int .i64 (k : Int) ∧ k ≤ n ∧ Hid (k = 0 → n = 0) ∧ Hid (wr.heap[w.heap.size]? = some (.cells ((repL z n k).map (Value.int .i64)).toArray 3 (0, 0))) ∧ Hid (Below w.heap.size w wr)) (fun x _ => n - (intOf x).toNat)
  case atStart => exact ⟨k0, rfl, hk1, HK2, HG3, HB3⟩
  case round =>
    obtain ⟨k, rfl, hk, HK, HG, HB⟩ := hrel
    clear HG3 HB3 HK2 HK0 hk3
    by_cases hlt : k < n
    · have hki : (k : Int) < (n : Int) := by omega
      have hkl : (k : Int) ≤ (n : Int) := by omega
      have hk0 : ¬ (k : Int) < 0 := by omega
      have hnk : ¬ n = k := by omega
      go_wp2_with fail
      refine wp_region_held_drew (S := fun _ => True) (by kernel_rfl) trivial (fun hS => ?_)
      refine Ord.take (i := 0) (d := 38) (v := ?v0) rfl rfl (by as_aux_lemma => kernel_rfl) (by as_aux_lemma => kernel_rfl) (by as_aux_lemma => kernel_rfl) (fun _ _ _ h => h) (by rfl) ?h0 trivial ?_
      case h0 => intro w hSw; go_simp; try with_reducible rfl
      simp only [List.setIfInBounds_toArray, List.set_cons_zero, List.set_cons_succ]
      refine Ord.take (i := 1) (d := 39) (v := ?v1) rfl rfl (by as_aux_lemma => kernel_rfl) (by as_aux_lemma => kernel_rfl) (by as_aux_lemma => kernel_rfl) (fun _ _ _ h => h) (by rfl) ?h1 trivial ?_
      case h1 => intro w hSw; go_simp; try with_reducible rfl
      simp only [List.setIfInBounds_toArray, List.set_cons_zero, List.set_cons_succ]
      refine Ord.take (i := 2) (d := 40) (v := ?v2) rfl rfl (by as_aux_lemma => kernel_rfl) (by as_aux_lemma => kernel_rfl) (by as_aux_lemma => kernel_rfl) (fun _ _ _ h => h) (by rfl) ?h2 trivial ?_
      case h2 => intro w hSw; go_simp; try with_reducible rfl
      simp only [List.setIfInBounds_toArray, List.set_cons_zero, List.set_cons_succ]
      refine Ord.take (i := 3) (d := 41) (v := ?v3) rfl rfl (by as_aux_lemma => kernel_rfl) (by as_aux_lemma => kernel_rfl) (by as_aux_lemma => kernel_rfl) (fun _ _ _ h => h) (by rfl) ?h3 trivial ?_
      case h3 => intro w hSw; go_simp; try with_reducible rfl
      simp only [List.setIfInBounds_toArray, List.set_cons_zero, List.set_cons_succ]
      refine Ord.take (i := 4) (d := 42) (v := ?v4) rfl rfl (by as_aux_lemma => kernel_rfl) (by as_aux_lemma => kernel_rfl) (by as_aux_lemma => kernel_rfl) (fun _ _ _ h => h) (by rfl) ?h4 trivial ?_
      case h4 => intro w hSw; go_simp; try with_reducible rfl
      simp only [List.setIfInBounds_toArray, List.set_cons_zero, List.set_cons_succ]
      refine Ord.take (i := 5) (d := 43) (v := ?v5) rfl rfl (by as_aux_lemma => kernel_rfl) (by as_aux_lemma => kernel_rfl) (by as_aux_lemma => kernel_rfl) (fun _ _ _ h => h) (by rfl) ?h5 trivial ?_
      case h5 => intro w hSw; go_simp; try with_reducible rfl
      simp only [List.setIfInBounds_toArray, List.set_cons_zero, List.set_cons_succ]
      refine Ord.take (i := 6) (d := 44) (v := ?v6) rfl rfl (by as_aux_lemma => kernel_rfl) (by as_aux_lemma => kernel_rfl) (by as_aux_lemma => kernel_rfl) (fun _ _ _ h => h) (by rfl) ?h6 trivial ?_
      case h6 => intro w hSw; go_simp; try with_reducible rfl
      simp only [List.setIfInBounds_toArray, List.set_cons_zero, List.set_cons_succ]
      obtain ⟨m, hm⟩ : ∃ m, m = Nat.min k (n - k) := ⟨_, rfl⟩
      have hmn : k + m ≤ n := by have h : Nat.min k (n - k) ≤ n - k := Nat.min_le_right k (n - k); rw [← hm] at h; omega
      have hm0 : 0 < m := by have hk' : ¬ k = 0 := fun e => by have := HK.out e; omega
                             rw [hm]; exact Nat.lt_min.2 ⟨by omega, by omega⟩
      have hmk : m ≤ k := by rw [hm]; exact Nat.min_le_left _ _
      have hG := HG.out
      have HBD := hid HB.out.drew
      refine wpAnyH_ready (rs := [7]) (by as_aux_lemma => kernel_rfl) (by simp) (AllReadyH.cons rfl (fun K hK => ?_) AllReadyH.nil)
      refine step_copy_splice rfl _ _ 51 51 rfl 3 Tryz.underlying51 (by kernel_rfl) (some ⟨w.heap.size, k, none⟩) (some ⟨w.heap.size, 0, none⟩) (n - k) (n - k) k n rfl rfl w.heap.size k ((repL z n k).map (Value.int .i64)) 3 hG (List.replicate m (.int .i64 z)) ?c1 ?c2 ?c3 ?c4 w.heap.size w HBD.out (Nat.le_refl _) ?_
      case c1 => rw [List.length_replicate, hm]
      case c2 =>
        intro _
        refine ⟨rfl, _, rfl, fun j v hj => ?_⟩
        rw [List.getElem?_replicate] at hj
        split at hj
        · rename_i hjm
          rw [Go.WideShapes.add_plain, Nat.zero_add, ← hj]
          refine (Joins.cell_of_block (w := wr.drew) hG j).trans ?_
          simp only [List.getElem?_toArray, repL, List.map_append, List.map_replicate]
          rw [List.getElem?_append_left (by simp; omega), List.getElem?_replicate, if_pos (by omega)]
        · cases hj
      case c3 => rw [List.length_replicate, List.length_map, repL_length z n k hk]; exact hmn
      case c4 => intro v hv; rw [List.eq_of_mem_replicate hv]; rfl
      intro w4 HG4 hB4
      rw [repL_splice z n k m] at HG4
      have HB4 := hid hB4
      refine hK.out _ _ trivial (fun _ => ?_)
      clear hK K hG HBD hB4
      have HM2 := hid hm
      clear hm
      refine Ord.take (i := 8) (d := 46) (v := ?v8) rfl rfl (by as_aux_lemma => kernel_rfl) (by as_aux_lemma => kernel_rfl) (by as_aux_lemma => kernel_rfl) (fun _ _ _ h => h) (by rfl) ?h8 trivial ?_
      case h8 => intro w hSw; go_simp; try with_reducible rfl
      simp only [List.setIfInBounds_toArray, List.set_cons_zero, List.set_cons_succ]
      refine Ord.take (i := 9) (d := 8) (v := ?v9) rfl rfl (by as_aux_lemma => kernel_rfl) (by as_aux_lemma => kernel_rfl) (by as_aux_lemma => kernel_rfl) (fun _ _ _ h => h) (by rfl) ?h9 trivial ?_
      case h9 => intro w hSw; go_simp; try with_reducible rfl
      simp only [List.setIfInBounds_toArray, List.set_cons_zero, List.set_cons_succ]
      refine wpAnyH_done (by as_aux_lemma => kernel_rfl) ?_ _
      go_wp2_with fail
      have hwr : IntKind.i64.wrap ((k : Int) + (m : Int)) = ((k + m : Nat) : Int) := by
        have := HN.out
        rw [IntWalk.i64_in _ ⟨by omega, by omega⟩]; omega
      rw [hwr]
      exact ⟨⟨k + m, rfl, hmn, fun h => by omega, HG4, HB4⟩, by simp only [intOf]; omega⟩
    · have : k = n := by omega
      subst this
      go_wp2_with fail
      go_ret
      have hG := HG.out
      rw [repL_full] at hG
      exact ⟨rfl, hG, HB.out⟩
end Go.Proofs.YtelnefngkdfcoaaGreat
/-
  Lengths out of runs: the contract of the reader's lengths.
-/
namespace Go.Proofs.YtelnefngkdfcoaaGreat
open Go.RowKit Hf

def lensG (n : Nat) : Nat → List Int → List Int → Option (List Int × List Int)
  | 0, _, _ => none
  | f + 1, l, zs => if l.length < n then
      match zs with
      | [] => none
      | c :: zs1 => match numO (n - l.length) zs1 with
        | none => none
        | some (m, rs) => lensG n f (l ++ List.replicate m c) rs
    else some (l, zs)
theorem lensG_succ (n f : Nat) (l zs : List Int) : lensG n (f + 1) l zs = if l.length < n then
      match zs with
      | [] => none
      | c :: zs1 => match numO (n - l.length) zs1 with
        | none => none
        | some (m, rs) => lensG n f (l ++ List.replicate m c) rs
    else some (l, zs) := by cases zs <;> rfl
def lensR (n : Nat) (zs : List Int) : Option (List Int × List Int) := lensG n (zs.length + 1) [] zs
theorem numO_rng {n : Nat} {zs rs : List Int} {m : Nat} (h : numO n zs = some (m, rs)) : m ≤ n ∧ rs.length ≤ zs.length := by
  unfold numO at h
  split at h
  · rename_i hc
    simp only [Option.some.injEq, Prod.mk.injEq] at h
    obtain ⟨rfl, rfl⟩ := h
    refine ⟨by have := hc.2; omega, by rw [List.length_drop]; omega⟩
  · cases h
def lenAt (g : Nat) (w : World) : Nat :=
  match w.cell? ⟨g, 0, none⟩ with
  | some (.slice _ l _) => l
  | _ => 0
theorem Rr.lenAt {w0 w : World} {g : Nat} {t : TypeId} {tl : List Value} {a : Option Addr} {cap : Nat} {zs : List Int} (h : Rr w0 w g t tl a cap zs) : lenAt g w = zs.length := by
  have c0 := Joins.cell_of_block h.blk 0
  simp only [List.getElem?_toArray, List.getElem?_cons_zero] at c0
  unfold Go.Proofs.YtelnefngkdfcoaaGreat.lenAt
  rw [c0]
theorem Rr.lt {w0 w : World} {g : Nat} {t : TypeId} {tl : List Value} {a : Option Addr} {cap : Nat} {zs : List Int} (h : Rr w0 w g t tl a cap zs) : g < w.heap.size := (Array.getElem?_eq_some_iff.1 h.blk).1

def LnsPost (w0 w : World) (g : Nat) (t : TypeId) (tl : List Value) (r : Option (List Int × List Int)) (e : Ending) (w' : World) : Prop :=
  match r with
  | none => e = .panicked faultC ∧ Fa g w w' ∧ Below w0.heap.size w0 w'
  | some (l, rs) => ∃ v, e = .returned v ∧ w'.ownsRow w.heap.size 3 1 v l.length (l.map (Value.int .i64)) ∧ (∃ a cap, Rr w0 w' g t tl a cap rs) ∧ Fa g w w'

theorem own_apart {w w' : World} {B g e size n : Nat} {v : Value} {xs : List Value} (h : w.ownsRow B e size v n xs) (hg : g < B) (hf : Fg g w w') : w'.ownsRow B e size v n xs := by
  rcases h.2 with ⟨h1, h2⟩ | ⟨k, cap, cur, h1, h2, h3, h4⟩
  · exact ⟨h.1, .inl ⟨h1, h2⟩⟩
  · exact ⟨h.1, .inr ⟨k, cap, cur, h1, h2, (hf.same k (by omega)).trans h3, h4⟩⟩
set_option maxHeartbeats 6400000 in
set_option maxRecDepth 100000 in
theorem rlens_word (w0 w : World) (g : Nat) (t : TypeId) (tl : List Value) (a : Option Addr) (cap n : Nat) (zs : List Int) (h : Rr w0 w g t tl a cap zs) (hn : n ≤ 1000) :
    Calls Tryz.prog 70 #[.pointer (some ⟨g, 0, none⟩), .int .i64 (n : Int)] w (LnsPost w0 w g t tl (lensR n zs)) := by
  obtain ⟨i0, hi, hz0, hz1, hz2⟩ := info_parts Tryz.info3'
  obtain ⟨R, hR⟩ : ∃ R, R = lensR n zs := ⟨_, rfl⟩
  rw [← hR]
  have HST : Hid (w.ownsRow w.heap.size 3 1 (.slice none 0 0) ([] : List Int).length (([] : List Int).map (Value.int .i64)) ∧ (∃ a cap, Rr w0 w g t tl a cap zs) ∧ Fa g w w ∧ ∃ f, zs.length < f ∧ lensG n f [] zs = R) :=
    ⟨⟨rfl, .inl ⟨rfl, rfl⟩⟩, ⟨a, cap, h⟩, Fa.refl g w, zs.length + 1, by omega, by rw [hR]; rfl⟩
  have HGW := hid h.lt
  have HW0 := hid h.bel.size
  have HN := hid hn
  clear h hR hn
  go_enter Tryz.func70, Tryz.ntmps70
  go_wp2_with fail
  go_loopw [5, 6, 7] (fun x _ _ wr => ∃ (l zs' : List Int) (c : Nat) (a : Option Addr), x = .slice a l.length c ∧ l.length ≤ n ∧ Hid (wr.ownsRow w.heap.size 3 1 (.slice a l.length c) l.length (l.map (Value.int .i64)) ∧ (∃ a cap, Rr w0 wr g t tl a cap zs') ∧ Fa g w wr ∧ ∃ f, zs'.length < f ∧ lensG n f l zs' = R)) (fun _ _ _ wr => lenAt g wr)
  case atStart => exact ⟨[], zs, 0, none, rfl, Nat.zero_le _, HST.out⟩
  case round =>
    clear HST
    obtain ⟨l, zs', lc, la, rfl, hl, HX⟩ := hrel
    obtain ⟨hown, ⟨ra, rc, hRr⟩, hFa, f, hf, hlg⟩ := HX.out
    clear HX
    obtain ⟨ll, hll⟩ : ∃ k, k = l.length := ⟨_, rfl⟩
    have HLL := hid hll
    rw [← hll] at hl hown ⊢
    obtain ⟨f', rfl⟩ : ∃ f', f = f' + 1 := ⟨f - 1, by omega⟩
    rw [lensG_succ, ← hll] at hlg
    clear hll
    by_cases hlt : ll < n
    · have hli : (ll : Int) < (n : Int) := by omega
      rw [if_pos hlt] at hlg
      cases zs' with
      | nil =>
        dsimp only at hlg
        subst hlg
        have HNX := hid (next_none w0 wr g t tl ra rc hRr)
        have HF := hid hFa
        have HB := hid hRr.bel
        clear hown hRr hFa hf
        go_wp2_with fail
        go_at_call 85
        refine HNX.out.mono ?_
        rintro _ w1 ⟨rfl, hw⟩
        obtain rfl := hw.symm
        exact ⟨rfl, rfl, HF.out, HB.out⟩
      | cons z zs1 =>
        have HNX := hid (next_some w0 wr g t tl ra rc z zs1 hRr)
        have hz8 := wf_u8 (by have := hRr.row.fits 0; simpa using this : (Lit.int .u8 z).wf = true)
        have HLA := hid hRr.lenAt
        have HRR := hid hRr
        have HOW := hid hown
        have HFA := hid hFa
        have HF := hid hf
        have HLG := hid hlg
        dsimp only at HLG
        obtain ⟨zn, hzn⟩ := Int.eq_ofNat_of_zero_le hz8.1
        subst hzn
        have hzl : zn < 256 := by omega
        clear hRr hown hFa hf hlg hz8
        go_wp2_with fail
        go_at_call 85
        refine HNX.out.mono ?_
        rintro _ w1 ⟨rfl, a1, c1, rfl, hr1⟩
        have hR1 := HRR.out.put hr1
        have HR1 := hid hR1
        have HF1 := hid (HFA.out.trans ((Fg.refl g wr).put (i := 0) (.slice a1 zs1.length c1)).fa)
        have HO1 : Hid ((wr.setCell ⟨g, 0, none⟩ (.slice a1 zs1.length c1)).ownsRow w.heap.size 3 1 (.slice la ll lc) ll (l.map (Value.int .i64))) := own_apart HOW.out HGW.out ((Fg.refl g wr).put (i := 0) (.slice a1 zs1.length c1))
        clear HRR HFA HOW hr1 hR1 HNX
        generalize wr.setCell ⟨g, 0, none⟩ (.slice a1 zs1.length c1) = w1 at *
        obtain ⟨d, hd⟩ : ∃ d, d = n - ll := ⟨_, rfl⟩
        have HD := hid hd
        rw [← hd] at HLG
        have hsub : (n : Int) - (ll : Int) = (d : Int) := by omega
        have hsw : wrap64 (d : Int) = (d : Int) := by have := HN.out; exact wrap64_id (by omega) (by omega)
        clear hd
        cases hnu : numO d zs1 with
        | none =>
          rw [hnu] at HLG
          have hR := HLG.out
          dsimp only at hR
          subst hR
          have HNU := hid (number_none w0 w1 g t tl a1 c1 d zs1 HR1.out (by have := HN.out; have := HD.out; omega) hnu)
          have HB := hid HR1.out.bel
          clear HLG hnu
          go_wp2_with fail
          go_at_call 71
          refine HNU.out.mono ?_
          rintro _ w2 ⟨rfl, hw⟩
          obtain rfl := hw.symm
          exact ⟨rfl, rfl, HF1.out, HB.out⟩
        | some mr =>
          obtain ⟨m, rs⟩ := mr
          rw [hnu] at HLG
          have HNU := hid (number_some w0 w1 g t tl a1 c1 d zs1 HR1.out (by have := HN.out; have := HD.out; omega) m rs hnu)
          obtain ⟨hm1, hm2⟩ := numO_rng hnu
          have HM2 := hid hm2
          have HML : Hid (ll + m ≤ n) := by have := HD.out; show _ ≤ _; omega
          clear hnu hm1 hm2
          go_wp2_with fail
          go_at_call 71
          refine HNU.out.mono ?_
          rintro _ w2 ⟨rfl, a2, c2, rfl, hr2⟩
          have HR2 := hid (HR1.out.put hr2)
          have HF2 := hid (HF1.out.trans ((Fg.refl g w1).put (i := 0) (.slice a2 rs.length c2)).fa)
          have HO2 : Hid ((w1.setCell ⟨g, 0, none⟩ (.slice a2 rs.length c2)).ownsRow w.heap.size 3 1 (.slice la ll lc) ll (l.map (Value.int .i64))) := own_apart HO1.out HGW.out ((Fg.refl g w1).put (i := 0) (.slice a2 rs.length c2))
          clear HR1 HF1 HO1 hr2 HNU hsub hsw
          generalize w1.setCell ⟨g, 0, none⟩ (.slice a2 rs.length c2) = w3 at *
          have HRW : Hid (Calls Tryz.prog 98 #[.slice (some ⟨w3.heap.size, 0, none⟩) 1 1, .int .i64 (m : Int)] (w3.alloc (.cells #[.int .i64 (zn : Int)] 3)) fun e w' => e = .returned (.slice (some ⟨w3.heap.size + 1, 0, none⟩) m m) ∧ w'.heap[w3.heap.size + 1]? = some (.cells ((List.replicate m (zn : Int)).map (Value.int .i64)).toArray 3 (0, 0)) ∧ Below (w3.heap.size + 1) (w3.alloc (.cells #[.int .i64 (zn : Int)] 3)) w') := by
            have h1 := repeat_word w3.heap.size m (zn : Int) (w3.alloc (.cells #[.int .i64 (zn : Int)] 3)) (Joins.cell_of_block (heap_new w3 (.cells #[.int .i64 (zn : Int)] 3)) 0) (by have := HN.out; have := HML.out; omega)
            rw [World.size_alloc] at h1
            exact h1
          have HR3 := hid (HR2.out.keep (Below.heap_alloc w3 (.cells #[.int .i64 (zn : Int)] 3) g HR2.out.lt) (HR2.out.bel.alloc HR2.out.bel.size _))
          have HF3 := hid (HF2.out.trans (Fa.alloc g w3 (.cells #[.int .i64 (zn : Int)] 3)))
          have HO3 := hid (HO2.out.alloc (.cells #[.int .i64 (zn : Int)] 3))
          clear HR2 HF2 HO2
          go_wp2_with fail
          refine HRW.out.mono ?_
          rintro _ w5 ⟨rfl, hg5, hb5⟩
          have hsz3 : (w3.alloc (.cells #[.int .i64 (zn : Int)] 3)).heap.size = w3.heap.size + 1 := World.size_alloc ..
          rw [← hsz3] at hb5
          have HR5 := hid (HR3.out.keep (hb5.block g HR3.out.lt) (Bn HR3.out.bel hb5))
          have HF5 := hid (HF3.out.trans (Fa.below hb5))
          have HO5 := hid (own_later HO3.out hb5)
          have HNW : Hid (∀ j u, ((List.replicate m (zn : Int)).map (Value.int .i64))[j]? = some u → w5.cell? (Addr.add ⟨w3.heap.size + 1, 0, none⟩ j) = some u) := by
            intro j u hj
            rw [Go.WideShapes.add_plain, Nat.zero_add, ← hj]
            refine (Joins.cell_of_block hg5 j).trans ?_
            rw [List.getElem?_toArray]
          have HSZ5 : Hid (w.heap.size ≤ w5.heap.size) := HF5.out.size
          clear HR3 HF3 HO3 HRW hg5 hb5 hsz3
          go_wp2_with (at_builtin; refine wpList_append_own _ rfl _ _ 51 rfl w.heap.size 3 i0 (.int .i64 0) 1 8 Tryz.underlying51 hi hz0 hz1 hz2 rfl (by decide) _ _ _ rfl HO5.out ⟨w3.heap.size + 1, 0, none⟩ m m ((List.replicate m (zn : Int)).map (Value.int .i64)) rfl ?c1 HNW.out ?c2 ?c3 ?c4 HSZ5.out ?_)
          case c1 => simp
          case c2 => intro u hu; obtain ⟨y, _, rfl⟩ := List.mem_map.1 hu; rfl
          case c3 => have := HN.out; have := HML.out; unfold maxLen; omega
          case c4 => have := HN.out; have := HML.out; omega
          intro v6 w6 hown6 hgrow6 hv6
          have hnb : ∀ k, (Value.slice la ll lc).ownBlock = some k → w.heap.size ≤ k := fun k hk => by
            rcases HO5.out.2 with ⟨hv, _⟩ | ⟨g', cap', cur', hv, hB', _⟩
            · rw [hv] at hk; cases hk
            · rw [hv] at hk
              simp only [Value.ownBlock, Option.some.injEq] at hk
              omega
          have HR6 := hid (HR5.out.keep (hgrow6.block g HR5.out.lt (fun e => by have := hnb g e.symm; have := HGW.out; omega)) (HR5.out.bel.grown hgrow6 HR5.out.bel.size (fun k hk => Nat.le_trans HW0.out (hnb k hk))))
          have HF6 : Hid (Fa g w w6) := ⟨Nat.le_trans HF5.out.size hgrow6.size, fun i hi hn => (hgrow6.block i (Nat.lt_of_lt_of_le hi HF5.out.size) (fun e => by have := hnb i e.symm; omega)).trans (HF5.out.same i hi hn)⟩
          obtain ⟨l2, hl2⟩ : ∃ x, x = l ++ List.replicate m (zn : Int) := ⟨_, rfl⟩
          have hll2 : l2.length = ll + m := by rw [hl2, List.length_append, List.length_replicate, ← HLL.out]
          have hown7 : w6.ownsRow w.heap.size 3 1 v6 l2.length (l2.map (Value.int .i64)) := by rw [hll2, hl2, List.map_append, List.map_replicate]; exact hown6
          obtain ⟨a6, c6, hv6'⟩ : ∃ a6 c6, v6 = .slice a6 l2.length c6 := by
            rcases hown7.2 with ⟨h1, h2⟩ | ⟨g', cap', cur', h1, _⟩
            · exact ⟨none, 0, by rw [h2]; exact h1⟩
            · exact ⟨_, _, h1⟩
          subst hv6'
          have HO7 := hid hown7
          have HLG2 : Hid (lensG n f' l2 rs = R) := by rw [hl2]; exact HLG.out
          have HL2 : Hid (l2.length ≤ n) := by show _ ≤ _; rw [hll2]; exact HML.out
          clear hown6 hgrow6 hv6 hnb hl2 hll2 hown7 HR5 HF5 HO5 HNW HSZ5
          generalize hl3 : l2.length = l3 at *
          have HL3 := hid hl3
          clear hl3
          go_wp2_with fail
          refine ⟨⟨l2, rs, c6, a6, by rw [HL3.out], by rw [HL3.out]; exact HL2.out, by rw [HL3.out]; exact HO7.out, ⟨_, _, HR6.out⟩, HF6.out, f', ?_, HLG2.out⟩, ?_⟩
          · have h1 := HF.out
            have h2 := HM2.out
            rw [List.length_cons] at h1
            omega
          · have h1 := HR6.out.lenAt
            have h2 := HLA.out
            have h3 := HM2.out
            rw [List.length_cons] at h2
            show lenAt g w6 < lenAt g wr
            omega
    · rw [if_neg hlt] at hlg
      subst hlg
      have HOW := hid hown
      have HRR := hid hRr
      have HFA := hid hFa
      clear hown hRr hFa
      have hli : ¬ (ll : Int) < (n : Int) := by omega
      go_wp2_with fail
      go_ret
      refine ⟨_, rfl, ?_, ⟨_, _, HRR.out⟩, HFA.out⟩
      rw [← HLL.out]
      exact HOW.out
end Go.Proofs.YtelnefngkdfcoaaGreat
