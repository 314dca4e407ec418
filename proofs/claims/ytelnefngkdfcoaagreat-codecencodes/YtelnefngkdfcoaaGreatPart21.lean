/-
  How many bytes tokens make: the contracts of lz's Size and of the document's.
-/
import Derived.Test.YtelnefngkdfcoaaGreatPart08
import Derived.Lib.AppendZerosOnto
import Derived.Lib.SliceRun
import Derived.Lib.Walk
import Derived.Laws.AppendOwnNone
namespace Go.Proofs.YtelnefngkdfcoaaGreat
open Go.RowKit Lz

def sumZ : List Tkz → Int
  | [] => 0
  | t :: l => t.2.1 + sumZ l
def allB (l : List Tkz) : Bool := l.all fun t => chkZ t == 0
def sizeO (l : List Tkz) : Int × Int := if allB l = true then (if 65536 < sumZ l then (0, 2) else (sumZ l, 0)) else (0, 60)

theorem sumZ_append (a b : List Tkz) : sumZ (a ++ b) = sumZ a + sumZ b := by
  induction a with
  | nil => simp [sumZ]
  | cons t a ih => simp only [List.cons_append, sumZ, ih]; omega
theorem chk_or (t : Tkz) : chkZ t = 0 ∨ chkZ t = 60 := by unfold chkZ; split <;> simp
theorem chk_len {t : Tkz} (h : chkZ t = 0) : 1 ≤ t.2.1 ∧ t.2.1 ≤ 258 := by
  have hk : kindZ t ≠ 0 := fun e => by unfold chkZ at h; rw [if_pos e] at h; omega
  have hf := flt_kind t
  rcases kind_three t with k | k | k
  · exact absurd k hk
  · have := hf.1 k; omega
  · have := hf.2 k; omega
theorem take_getD (l : List Tkz) (k : Nat) (h : k < l.length) : l.take (k + 1) = l.take k ++ [l.getD k tk0] := by
  rw [List.take_succ_eq_append_getElem h]
  simp [List.getD, h]
theorem sum_bound (l : List Tkz) (h : ∀ t ∈ l, chkZ t = 0) : 0 ≤ sumZ l ∧ sumZ l ≤ 258 * l.length := by
  induction l with
  | nil => simp [sumZ]
  | cons t l ih =>
    have h1 := chk_len (h t (by simp))
    have h2 := ih (fun x hx => h x (by simp [hx]))
    simp only [sumZ, List.length_cons]
    omega
theorem sum_take_le (l : List Tkz) (h : ∀ t ∈ l, chkZ t = 0) (k : Nat) : sumZ (l.take k) ≤ sumZ l := by
  have e : sumZ l = sumZ (l.take k) + sumZ (l.drop k) := by rw [← sumZ_append, List.take_append_drop]
  have := (sum_bound (l.drop k) (fun t ht => h t (List.mem_of_mem_drop ht))).1
  omega
theorem getD_memZ (l : List Tkz) (k : Nat) (h : k < l.length) : l.getD k tk0 ∈ l := by
  simp only [List.getD, List.getElem?_eq_getElem h, Option.getD_some]
  exact List.getElem_mem h
theorem all_of {l : List Tkz} (h : ∀ j, j < l.length → chkZ (l.getD j tk0) = 0) : allB l = true := by
  unfold allB
  rw [List.all_eq_true]
  intro t ht
  obtain ⟨j, hj, rfl⟩ := List.getElem_of_mem ht
  have := h j hj
  simp only [List.getD, List.getElem?_eq_getElem hj, Option.getD_some] at this
  simpa using this
theorem all_not {l : List Tkz} {k : Nat} (hk : k < l.length) (h : chkZ (l.getD k tk0) ≠ 0) : allB l = false := by
  rw [Bool.eq_false_iff]
  intro ha
  unfold allB at ha
  rw [List.all_eq_true] at ha
  exact h (by simpa using ha _ (getD_memZ l k hk))
theorem all_mem {l : List Tkz} (h : allB l = true) : ∀ t ∈ l, chkZ t = 0 := by
  unfold allB at h
  rw [List.all_eq_true] at h
  exact fun t ht => by simpa using h t ht

set_option maxHeartbeats 1600000 in
set_option maxRecDepth 100000 in
theorem size_word (a : Option Addr) (cap : Nat) (l : List Tkz) (w : World) (hr : Rt w a cap l) (hn : l.length ≤ 100000) :
    Calls Tryz.prog 21 #[.slice a l.length cap] w fun e w' => e = .returned (.tuple #[.int .i64 (sizeO l).1, .int .i64 (sizeO l).2]) ∧ Below w.heap.size w w' := by
  have hroom := hr.room
  have hmost := hr.most
  unfold maxLen at hmost
  have HR := hid hr
  obtain ⟨len, hle⟩ : ∃ n, n = l.length := ⟨_, rfl⟩
  have HL := hid hle
  rw [← hle] at hn hroom ⊢
  clear hr hle
  go_enter Tryz.func21, Tryz.ntmps21
  go_wp2
  go_loopw [4, 10] (fun x4 x10 wr => ∃ k : Nat, k ≤ len ∧ x10 = .int .i64 (k : Int) ∧ x4 = .int .i64 (sumZ (l.take k)) ∧ Below w.heap.size w wr ∧ Hid (∀ j, j < k → chkZ (l.getD j tk0) = 0)) (fun _ x10 _ => len - (intOf x10).toNat)
  case atStart => exact ⟨0, by omega, rfl, rfl, Below.refl _ _, fun j hj => absurd hj (by omega)⟩
  case round =>
    obtain ⟨k, hk, rfl, rfl, hbel, HA⟩ := hrel
    have hsb : 0 ≤ sumZ (l.take k) ∧ sumZ (l.take k) ≤ 258 * 100000 := by
      have h := sum_bound (l.take k) (fun t ht => by
        obtain ⟨j, hj, rfl⟩ := List.getElem_of_mem ht
        have hj' : j < k := by simp at hj; omega
        have := HA.out j hj'
        simp only [List.getElem_take]
        rw [List.getD, List.getElem?_eq_getElem (by rw [← HL.out]; omega)] at this
        exact this)
      have : ((l.take k).length : Int) ≤ 100000 := by simp; omega
      omega
    by_cases hlt : k < len
    · have hkz : (k : Int) < (len : Int) := by omega
      obtain ⟨b, off, rfl, hbw, hc⟩ := HR.out.cells (by rw [← HL.out]; omega)
      obtain ⟨c0, c1, c2⟩ := hc k (by rw [← HL.out]; exact hlt)
      have d0 := (hbel.cell (p := ⟨b, off + k * 3, none⟩) hbw).trans c0
      have d1 := (hbel.cell (p := ⟨b, off + k * 3 + 1, none⟩) hbw).trans c1
      have d2 := (hbel.cell (p := ⟨b, off + k * 3 + 2, none⟩) hbw).trans c2
      have HCK := hid (check_word (l.getD k tk0) (wr.alloc (.cells (zC (l.getD k tk0)) 63)))
      have HTK := hid (take_getD l k (by rw [← HL.out]; exact hlt))
      have HNOT := hid (fun h => all_not (l := l) (k := k) (by rw [← HL.out]; exact hlt) h)
      have HLEN := hid (fun h => chk_len (t := l.getD k tk0) h)
      have hor := chk_or (l.getD k tk0)
      have HAK : Hid (chkZ (l.getD k tk0) = 0 → ∀ j, j < k + 1 → chkZ (l.getD j tk0) = 0) := fun h j hj => by
        by_cases e : j = k
        · subst e; exact h
        · exact HA.out j (by omega)
      have HS : Hid (sumZ (l.take (k + 1)) = sumZ (l.take k) + (l.getD k tk0).2.1) := by
        show _ = _
        rw [HTK.out, sumZ_append]
        simp [sumZ]
      generalize sumZ (l.take k) = s at *
      clear hc c0 c1 c2
      generalize l.getD k tk0 = t at *
      obtain ⟨d, n, x⟩ := t
      unfold zC at HCK
      dsimp only at *
      have hB1 := bel_allocZ wr (.cells #[.int .i64 d, .int .i64 n, .int .u8 x] 63)
      have HB1 := hid (Bn hbel hB1)
      have e0 : (wr.alloc (.cells #[.int .i64 d, .int .i64 n, .int .u8 x] 63)).heap[wr.heap.size]? = some (.cells #[.int .i64 d, .int .i64 n, .int .u8 x] 63 (0, 0)) := heap_newZ _ _
      have HE0 := hid e0
      clear hB1 e0 hbel
      go_wp2_with fail
      refine HCK.out.mono ?_
      rintro _ w2 ⟨rfl, hb2⟩
      have e2 := (hb2.block wr.heap.size (by simp)).trans HE0.out
      have m1 := Joins.cell_of_block e2 1
      simp only [List.getElem?_toArray, List.getElem?_cons_zero, List.getElem?_cons_succ] at m1
      have HB2 := hid (Bn HB1.out hb2)
      clear hb2 HB1 HCK e2 HE0
      rcases hor with hor | hor
      · obtain ⟨hn1, hn2⟩ := HLEN.out hor
        have HAK2 := hid (HAK.out hor)
        rw [hor]
        clear hor HNOT
        go_wp2
        exact ⟨⟨k + 1, by omega, by go_num, by rw [HS.out], HB2.out, HAK2⟩, by simp [intOf]; omega⟩
      · have HO : Hid (sizeO l = (0, 60)) := by
          show _ = _
          unfold sizeO
          rw [HNOT.out (by omega), if_neg (by simp)]
        rw [hor]
        clear hor HNOT
        go_wp2
        go_ret2
        exact ⟨by rw [HO.out]; rfl, HB2.out⟩
    · obtain rfl : k = len := by omega
      have hkz : ¬ (k : Int) < (k : Int) := by omega
      have HT : Hid (l.take k = l) := List.take_of_length_le (by rw [← HL.out]; omega)
      have HAL : Hid (allB l = true) := all_of (fun j hj => HA.out j (by rw [HL.out]; exact hj))
      rw [HT.out] at hsb ⊢
      have HO : Hid (sizeO l = if 65536 < sumZ l then (0, 2) else (sumZ l, 0)) := by show _ = _; unfold sizeO; rw [HAL.out, if_pos rfl]
      generalize sumZ l = s at *
      by_cases hs : 65536 < s
      · rw [if_pos hs] at HO
        go_wp2
        go_ret2
        exact ⟨by rw [HO.out]; rfl, hbel⟩
      · rw [if_neg hs] at HO
        go_wp2
        go_ret2
        exact ⟨by rw [HO.out]; rfl, hbel⟩
end Go.Proofs.YtelnefngkdfcoaaGreat
/-
  The contract of the document's Size.
-/
namespace Go.Proofs.YtelnefngkdfcoaaGreat
open Go.RowKit Lz

end Go.Proofs.YtelnefngkdfcoaaGreat
/-
  The bytes of a token: the contract of lz's grown.
-/
namespace Go.Proofs.YtelnefngkdfcoaaGreat
open Go.RowKit Lz Go.ChangeShapes Go.WideShapes

def cpyL (b : List Int) (d : Nat) : Nat → List Int
  | 0 => b
  | n + 1 => cpyL b d n ++ [(cpyL b d n).getD ((cpyL b d n).length - d) 0]
theorem cpyL_len (b : List Int) (d : Nat) : ∀ n, (cpyL b d n).length = b.length + n
  | 0 => rfl
  | n + 1 => by simp only [cpyL, List.length_append, cpyL_len b d n, List.length_singleton]; omega
def growZ (b : List Int) (t : Tkz) : List Int := if t.1 = 0 then b ++ [t.2.2] else cpyL b t.1.toNat t.2.1.toNat

theorem getD_append_lt (b c : List Int) {j : Nat} (h : j < b.length) : (b ++ c).getD j 0 = b.getD j 0 := by
  simp only [List.getD, List.getElem?_append_left h]
theorem bytes8_snoc {b : List Int} (h : Bytes8 b) {x : Int} (hx : (Lit.int .u8 x).wf = true) : Bytes8 (b ++ [x]) := by
  intro j
  rcases Nat.lt_trichotomy j b.length with hj | hj | hj
  · rw [getD_append_lt b [x] hj]; exact h j
  · subst hj; simpa [List.getD] using hx
  · rw [getD_out _ _ (by simp; omega)]; exact wf_zero _
theorem bytes8_cpy {b : List Int} (h : Bytes8 b) (d : Nat) : ∀ n, Bytes8 (cpyL b d n)
  | 0 => h
  | n + 1 => bytes8_snoc (bytes8_cpy h d n) (bytes8_cpy h d n _)
theorem bytes8_grow {b : List Int} (h : Bytes8 b) {t : Tkz} (ht : (Lit.int .u8 t.2.2).wf = true) : Bytes8 (growZ b t) := by
  unfold growZ
  split
  · exact bytes8_snoc h ht
  · exact bytes8_cpy h _ _

abbrev Ob (w : World) (base : Nat) (v : Value) (b : List Int) : Prop := w.ownsRow base 5 1 v b.length (b.map (Value.int .u8))
theorem ob_nil (w : World) (base : Nat) : Ob w base (.slice none 0 0) [] := ⟨rfl, .inl ⟨rfl, rfl⟩⟩
theorem Tryz.info5Z : (Tryz.prog.info? 5).map (fun i => (i.zero, i.size, i.bytes)) = some (some (.int .u8 0), 1, 1) := by kernel_rfl
theorem one_new (w : World) (x : Value) (t : TypeId) (j : Nat) (u : Value) (h : [x][j]? = some u) : (w.alloc (.cells #[x] t)).cell? ((⟨w.heap.size, 0, none⟩ : Addr).add j) = some u := by
  have e := Joins.cell_of_block (heap_newZ w (.cells #[x] t)) j
  rw [add_plain, Nat.zero_add, e, List.getElem?_toArray]
  exact h
theorem one_cellZ (k : IntKind) (x : Int) : ∀ u ∈ [Value.int k x], u.oneCell' = true := by
  intro u hu
  simp at hu
  subst hu
  rfl

theorem flt_zero {t : Tkz} {m : Int} (h : fltZ t m = 0) : (t.1 = 0 ∧ t.2.1 = 1 ∧ m + 1 ≤ 65536) ∨ (1 ≤ t.1 ∧ t.1 ≤ 4096 ∧ 4 ≤ t.2.1 ∧ t.2.1 ≤ 258 ∧ t.1 ≤ m ∧ m + t.2.1 ≤ 65536) := by
  have hf := flt_kind t
  unfold fltZ at h
  rcases kind_three t with k | k | k
  · rw [if_pos k] at h; omega
  · have h1 := hf.1 k
    rw [if_neg (by omega), if_neg (by omega)] at h
    split at h
    · omega
    · left; omega
  · have h1 := hf.2 k
    rw [if_neg (by omega)] at h
    split at h
    · omega
    · rename_i hn
      split at h
      · omega
      · right
        have : ¬ m < t.1 := fun h' => hn ⟨k, h'⟩
        omega

set_option maxHeartbeats 1600000 in
set_option maxRecDepth 100000 in
theorem grown_word (t : Tkz) (b : List Int) (v : Value) (base : Nat) (w : World) (hown : Ob w base v b) (hf : fltZ t b.length = 0) (hb : base ≤ w.heap.size) :
    Calls Tryz.prog 107 #[v, .agg (zC t)] w fun e w' => ∃ v', e = .returned v' ∧ Ob w' base v' (growZ b t) ∧ Below base w w' := by
  have hz := flt_zero hf
  have HG : Hid (growZ b t = if t.1 = 0 then b ++ [t.2.2] else cpyL b t.1.toNat t.2.1.toNat) := rfl
  obtain ⟨d, n, x⟩ := t
  unfold zC
  dsimp only at *
  clear hf
  obtain ⟨i0, hi, hi0, hi1, hi2⟩ := info_parts Tryz.info5Z
  have HBA := hid (bel_allocZ w (.cells #[.int .i64 d, .int .i64 n, .int .u8 x] 63))
  have hownA := hown.alloc (.cells #[.int .i64 d, .int .i64 n, .int .u8 x] 63)
  rcases hz with ⟨hd0, hn1, hm⟩ | ⟨hd1, hd2, hn1, hn2, hdm, hm⟩
  · rw [if_pos hd0] at HG
    have hdb : (d == 0) = true := by simpa using hd0
    have hob := own_block hown
    clear hd0 hn1
    go_enter Tryz.func107, Tryz.ntmps107
    go_wp2_with (at_builtin; refine wpList_append_own _ rfl _ _ 24 rfl base 5 i0 (.int .u8 0) 1 1 Tryz.underlying24 hi hi0 hi1 hi2 rfl (by decide) _ _ _ rfl (hownA.alloc _) ⟨w.heap.size + 1, 0, none⟩ 1 1 [.int .u8 x] rfl rfl (by have := one_new (w.alloc (.cells #[.int .i64 d, .int .i64 n, .int .u8 x] 63)) (.int .u8 x) 5; simpa only [World.size_alloc] using this) (one_cellZ _ _) (by unfold maxLen; omega) (by omega) (by simp; omega) ?_)
    intro v' w3 hown3 hgrow3 _
    have HB3 : Hid (Below base w w3) := ((HBA.out.mono hb).trans ((bel_allocZ _ (.cells #[.int .u8 x] 5)).mono (by simp; omega))).grown hgrow3 (by simp; omega) (fun g hg => (hob g hg).1)
    have HO3 : Hid (Ob w3 base v' (growZ b (d, n, x))) := by
      show World.ownsRow _ _ _ _ _ _ _
      rw [HG.out, List.length_append, List.map_append]
      exact hown3
    clear hown3 hgrow3 hownA hown hob
    go_wp2
    go_ret
    exact ⟨_, rfl, HO3.out, HB3.out⟩
  · rw [if_neg (by omega)] at HG
    have hdb : (d == 0) = false := by simp; omega
    obtain ⟨D, hD⟩ : ∃ D : Nat, d = (D : Int) := ⟨d.toNat, by omega⟩
    obtain ⟨N, hN⟩ : ∃ N : Nat, n = (N : Int) := ⟨n.toNat, by omega⟩
    subst hD
    subst hN
    simp only [Int.toNat_natCast] at HG
    have hDb : D ≤ b.length := by omega
    have hD1 : 1 ≤ D := by omega
    have hNm : b.length + N ≤ 65536 := by omega
    have HLEN : Hid (∀ j, (cpyL b D j).length = b.length + j) := fun j => cpyL_len b D j
    have e0 : (w.alloc (.cells #[.int .i64 (D : Int), .int .i64 (N : Int), .int .u8 x] 63)).heap[w.heap.size]? = some (.cells #[.int .i64 (D : Int), .int .i64 (N : Int), .int .u8 x] 63 (0, 0)) := heap_newZ _ _
    have HE0 := hid e0
    have HOA : Hid (Ob (w.alloc (.cells #[.int .i64 (D : Int), .int .i64 (N : Int), .int .u8 x] 63)) base v (cpyL b D 0)) := hownA
    have hwA : base ≤ w.heap.size := hb
    obtain ⟨bl, hbl⟩ : ∃ bl, bl = b.length := ⟨_, rfl⟩
    rw [← hbl] at hDb hNm
    rw [← hbl] at HLEN
    clear hownA hown hbl hdm hm hd1 hd2 hn1 hn2 e0
    go_enter Tryz.func107, Tryz.ntmps107
    go_wp2_with fail
    go_loopw [0, 15] (fun x0 x15 wr => ∃ j : Nat, j ≤ N ∧ x15 = .int .i64 (j : Int) ∧ Ob wr base x0 (cpyL b D j) ∧ wr.heap[w.heap.size]? = some (.cells #[.int .i64 (D : Int), .int .i64 (N : Int), .int .u8 x] 63 (0, 0)) ∧ Below base w wr) (fun _ x15 _ => N - (intOf x15).toNat)
    case atStart => exact ⟨0, by omega, rfl, HOA.out, HE0.out, HBA.out.mono hb⟩
    case round =>
      clear HOA HE0 HBA
      obtain ⟨j, hj, rfl, hown, htb, hbel⟩ := hrel
      have hlen := HLEN.out j
      have hlt0 := (Array.getElem?_eq_some_iff.1 htb).1
      by_cases hlt : j < N
      · have hjz : (j : Int) < (N : Int) := by omega
        have HST : Hid (cpyL b D (j + 1) = cpyL b D j ++ [(cpyL b D j).getD ((cpyL b D j).length - D) 0]) := rfl
        have hob := own_block hown
        have hne : u0.ownBlock ≠ some w.heap.size := fun e => by
          rcases hown.2 with ⟨hv, _⟩ | ⟨g', cap', cur', hv, _, hg', _⟩
          · rw [hv] at e; cases e
          · rw [hv] at e
            simp only [Value.ownBlock, Option.some.injEq] at e
            rw [e, htb] at hg'
            cases hg'
        obtain ⟨L, hL⟩ : ∃ L, L + 1 = (cpyL b D j).length := ⟨bl + j - 1, by omega⟩
        obtain ⟨g, cap, rfl⟩ := ownsRow_succ (k := L) (by rw [hL]; exact hown)
        obtain ⟨i, hi'⟩ : ∃ i, i = (cpyL b D j).length - D := ⟨_, rfl⟩
        rw [← hi'] at HST
        have hcap : (cpyL b D j).length ≤ cap ∧ cap ≤ maxLen := by
          rcases hown.2 with ⟨hv, _⟩ | ⟨g', cap', cur', hv, _, _, h1, h2, _⟩
          · cases hv
          · injection hv with _ _ h3
            rw [h3]
            exact ⟨h1, h2⟩
        unfold maxLen at hcap
        have hLb : L + 1 = bl + j := by omega
        have ci : wr.cell? ⟨g, i, none⟩ = some (.int .u8 ((cpyL b D j).getD i 0)) := by
          rw [hL] at hown
          rw [hown.cellAt i (by omega), List.getElem?_map, List.getElem?_eq_getElem (by omega)]
          simp [List.getD, List.getElem?_eq_getElem (show i < (cpyL b D j).length by omega)]
        obtain ⟨M, hM⟩ : ∃ M, M = L + 1 := ⟨_, rfl⟩
        rw [← hM] at hown hL hLb hob hne ⊢
        have hiz : (M : Int) - (D : Int) = (i : Int) := by omega
        have hiM : i < M := by omega
        have m0 := Joins.cell_of_block htb 0
        have m1 := Joins.cell_of_block htb 1
        simp only [List.getElem?_toArray, List.getElem?_cons_zero, List.getElem?_cons_succ] at m0 m1
        have hMl : M ≤ 65536 := by omega
        have HTB := hid htb
        have HBEL := hid hbel
        have HOB := hid hob
        have HNE := hid hne
        have hwb := hbel.size
        have HLM : Hid ((cpyL b D j).length = M) := hL.symm
        generalize (cpyL b D j).getD i 0 = y at *
        have hown2 : wr.ownsRow base 5 1 (.slice (some ⟨g, 0, none⟩) M cap) M ((cpyL b D j).map (Value.int .u8)) := by
          have h : wr.ownsRow base 5 1 (.slice (some ⟨g, 0, none⟩) M cap) (cpyL b D j).length ((cpyL b D j).map (Value.int .u8)) := hown
          rwa [HLM.out] at h
        clear hM hL hLb hob hne htb hbel hown hcap hlen hi' HLEN
        go_wp2_with (at_builtin; refine wpList_append_own _ rfl _ _ 24 rfl base 5 i0 (.int .u8 0) 1 1 Tryz.underlying24 hi hi0 hi1 hi2 rfl (by decide) _ _ _ rfl (hown2.alloc _) ⟨wr.heap.size, 0, none⟩ 1 1 [.int .u8 y] rfl rfl (one_new wr (.int .u8 y) 5) (one_cellZ _ _) (by unfold maxLen; omega) (by omega) (by simp; omega) ?_)
        intro v' w3 hown3 hgrow3 _
        have HB3 : Hid (Below base w w3) := (HBEL.out.trans ((bel_allocZ wr (.cells #[.int .u8 y] 5)).mono (by omega))).grown hgrow3 (by simp; omega) (fun g hg => (HOB.out g hg).1)
        have HT3 : Hid (w3.heap[w.heap.size]? = some (.cells #[.int .i64 (D : Int), .int .i64 (N : Int), .int .u8 x] 63 (0, 0))) :=
          (hgrow3.block w.heap.size (by simp; omega) (fun e => HNE.out e.symm)).trans (heap_old _ _ HTB.out)
        have HO3 : Hid (Ob w3 base v' (cpyL b D (j + 1))) := by
          show World.ownsRow _ _ _ _ _ _ _
          rw [HST.out, List.length_append, List.map_append, HLM.out]
          exact hown3
        clear hown3 hgrow3 hown2 ci m0 m1 HOB HNE HBEL HTB
        go_wp2
        exact ⟨⟨j + 1, by omega, by go_num, HO3.out, HT3.out, HB3.out⟩, by simp [intOf]; omega⟩
      · obtain rfl : j = N := by omega
        have hjz : ¬ (j : Int) < (j : Int) := by omega
        go_wp2
        go_ret
        exact ⟨_, rfl, by rw [HG.out]; exact hown, hbel⟩
end Go.Proofs.YtelnefngkdfcoaaGreat
/-
  append of bytes, whatever slice they lie in, behind a row that the call owns; the contracts of slices.Grow and slices.Concat at bytes.
-/
namespace Go.Proofs.YtelnefngkdfcoaaGreat
open Go.RowKit

theorem run_append_nil {P : Program} {w : World} (base : Nat) (t ty e : TypeId) (i : TypeInfo) (size cp : Nat) (ht : P.underlying t = some (.slice e)) (hi : P.info? e = some i)
    (v : Value) (n : Nat) (xs : List Value) (hown : w.ownsRow base e size v n xs) : (Builtin.append_ #[t, t] ty #[v, .slice none 0 cp]).run P w = .ok v w := by
  rcases hown.2 with ⟨rfl, rfl⟩ | ⟨g, cap, cur, rfl, _, _, hnc, _⟩
  · simp [Builtin.append_, run_underlying ht, sizeOf, typeInfo, hi, Builtin.lenOf, Builtin.firstCells]
  · simp [Builtin.append_, run_underlying ht, sizeOf, typeInfo, hi, Builtin.lenOf, Builtin.firstCells, hnc, storeCells]
theorem wpList_append_nil {P : Program} {w : World} {ops : Array Oper} {rest : List Oper} {o : Oper} {a : Act} {Q : Exit → Act → World → Prop} (hgd : o.guard = none) (s x : Operand) (t : TypeId)
    (ho : o.op = .call { callee := .builtin .append, args := #[s, x], argTypes := #[t, t] }) (base : Nat) (e : TypeId) (i : TypeInfo) (size cp : Nat) (ht : P.underlying t = some (.slice e)) (hi : P.info? e = some i)
    (v : Value) (n : Nat) (xs : List Value) (hs : a.eval s = v) (hown : w.ownsRow base e size v n xs) (hx : a.eval x = .slice none 0 cp)
    (h : wpList P ops Q rest (a.put o.dst v) w) : wpList P ops Q (o :: rest) a w := by
  refine wpList_plain hgd fun K hK => ?_
  have hrun := run_append_nil (P := P) (w := w) base t o.type e i size cp ht hi v n xs hown
  unfold Oper.wp
  simp [execOp, ho, resolve, invoke, builtin, hs, hx, hrun, Result.andThen]
  exact hK _ _ h

theorem app_any (w : World) {ops : Array Oper} {rest : List Oper} {o : Oper} {ac : Act} {Q : Exit → Act → World → Prop} (hgd : o.guard = none) (s x : Operand)
    (ho : o.op = .call { callee := .builtin .append, args := #[s, x], argTypes := #[24, 24] }) (B : Nat) (v : Value) (l : List Int) (hs : ac.eval s = v) (hown : w.ownsRow B 5 1 v l.length (l.map (Value.int .u8)))
    (a : Option Addr) (cap : Nat) (zs : List Int) (hx : ac.eval x = .slice a zs.length cap) (hrd : Ri w .u8 a cap zs) (hbd : l.length + zs.length ≤ 10000000) (hB : B ≤ w.heap.size)
    (h : ∀ v' w', w'.ownsRow B 5 1 v' (l ++ zs).length ((l ++ zs).map (Value.int .u8)) → w.grownBy w' v.ownBlock → wpList Tryz.prog ops Q rest (ac.put o.dst v') w') : wpList Tryz.prog ops Q (o :: rest) ac w := by
  obtain ⟨i0, hi, hz0, hz1, hz2⟩ := info_parts Tryz.info5Z
  cases a with
  | none =>
    have hz : zs = [] := by
      apply List.length_eq_zero_iff.1
      rcases Nat.eq_zero_or_pos zs.length with h | h
      · exact h
      · obtain ⟨_, _, h', _⟩ := hrd.cells h
        cases h'
    subst hz
    refine wpList_append_nil hgd s x 24 ho B 5 i0 1 cap Tryz.underlying24 hi v l.length _ hs hown hx ?_
    have := h v w (by simpa using hown) (World.grownBy.refl _ _)
    exact this
  | some ad =>
    refine wpList_append_own w hgd s x 24 ho B 5 i0 (.int .u8 0) 1 1 Tryz.underlying24 hi hz0 hz1 hz2 rfl (by decide) v l.length _ hs hown ad zs.length cap (zs.map (Value.int .u8)) hx (by simp) ?_ (fun u hu => by obtain ⟨y, _, rfl⟩ := List.mem_map.1 hu; rfl) (by unfold maxLen; omega) (by omega) hB ?_
    · intro j u hj
      have hjl : j < zs.length := by
        have := (List.getElem?_eq_some_iff.1 hj).1
        simpa using this
      obtain ⟨b, off, hb, _, hc⟩ := hrd.cells (by omega)
      have hb' := Option.some.inj hb
      subst hb'
      rw [Go.WideShapes.add_plain, hc j hjl, ← hj]
      simp [List.getD, List.getElem?_eq_getElem hjl]
    · intro v' w' h1 h2 _
      refine h v' w' ?_ h2
      rw [List.length_append, List.map_append]
      exact h1
end Go.Proofs.YtelnefngkdfcoaaGreat
