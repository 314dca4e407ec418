/-
  The bytes of a token: the contract of lz's grown.
-/
import Derived.Test.YtgdlmhgjhmcilabSizeR
namespace Go.Proofs.Ytgdlmhgjhmcilab
open Go.RowKit Lz Go.ChangeShapes Go.WideShapes

def cpyL (b : List Int) (d : Nat) : Nat → List Int
  | 0 => b
  | n + 1 => cpyL b d n ++ [(cpyL b d n).getD ((cpyL b d n).length - d) 0]
theorem cpyL_len (b : List Int) (d : Nat) : ∀ n, (cpyL b d n).length = b.length + n
  | 0 => rfl
  | n + 1 => by simp only [cpyL, List.length_append, cpyL_len b d n, List.length_singleton]; omega
def growZ (b : List Int) (t : Tkz) : List Int := if t.1 = 0 then b ++ [t.2.2] else cpyL b t.1.toNat t.2.1.toNat

theorem getD_append_lt (b c : List Int) {j : Nat} (h : j < b.length) : (b ++ c).getD j 0 = b.getD j 0 := by
  simp only [List.getD, List.getElem?_append_left h]
theorem bytes8_snoc {b : List Int} (h : Bytes8 b) {x : Int} (hx : (Lit.int .u8 x).wf = true) : Bytes8 (b ++ [x]) := by
  intro j
  rcases Nat.lt_trichotomy j b.length with hj | hj | hj
  · rw [getD_append_lt b [x] hj]; exact h j
  · subst hj; simpa [List.getD] using hx
  · rw [getD_out _ _ (by simp; omega)]; exact wf_zero _
theorem bytes8_cpy {b : List Int} (h : Bytes8 b) (d : Nat) : ∀ n, Bytes8 (cpyL b d n)
  | 0 => h
  | n + 1 => bytes8_snoc (bytes8_cpy h d n) (bytes8_cpy h d n _)
theorem bytes8_grow {b : List Int} (h : Bytes8 b) {t : Tkz} (ht : (Lit.int .u8 t.2.2).wf = true) : Bytes8 (growZ b t) := by
  unfold growZ
  split
  · exact bytes8_snoc h ht
  · exact bytes8_cpy h _ _

/-- Own bytes. -/
abbrev Ob (w : World) (base : Nat) (v : Value) (b : List Int) : Prop := w.ownsRow base 5 1 v b.length (b.map (Value.int .u8))
theorem ob_nil (w : World) (base : Nat) : Ob w base (.slice none 0 0) [] := ⟨rfl, .inl ⟨rfl, rfl⟩⟩
theorem Try.info5 : (Try.prog.info? 5).map (fun i => (i.zero, i.size, i.bytes)) = some (some (.int .u8 0), 1, 1) := by kernel_rfl
theorem one_new (w : World) (x : Value) (t : TypeId) (j : Nat) (u : Value) (h : [x][j]? = some u) : (w.alloc (.cells #[x] t)).cell? ((⟨w.heap.size, 0, none⟩ : Addr).add j) = some u := by
  have e := Joins.cell_of_block (heap_new w (.cells #[x] t)) j
  rw [add_plain, Nat.zero_add, e, List.getElem?_toArray]
  exact h
theorem one_cell (k : IntKind) (x : Int) : ∀ u ∈ [Value.int k x], u.oneCell' = true := by
  intro u hu
  simp at hu
  subst hu
  rfl

theorem flt_zero {t : Tkz} {m : Int} (h : fltZ t m = 0) : (t.1 = 0 ∧ t.2.1 = 1 ∧ m + 1 ≤ 65536) ∨ (1 ≤ t.1 ∧ t.1 ≤ 4096 ∧ 4 ≤ t.2.1 ∧ t.2.1 ≤ 258 ∧ t.1 ≤ m ∧ m + t.2.1 ≤ 65536) := by
  have hf := flt_kind t
  unfold fltZ at h
  rcases kind_three t with k | k | k
  · rw [if_pos k] at h; omega
  · have h1 := hf.1 k
    rw [if_neg (by omega), if_neg (by omega)] at h
    split at h
    · omega
    · left; omega
  · have h1 := hf.2 k
    rw [if_neg (by omega)] at h
    split at h
    · omega
    · rename_i hn
      split at h
      · omega
      · right
        have : ¬ m < t.1 := fun h' => hn ⟨k, h'⟩
        omega

set_option maxHeartbeats 1600000 in
set_option maxRecDepth 100000 in
theorem grown_word (t : Tkz) (b : List Int) (v : Value) (base : Nat) (w : World) (hown : Ob w base v b) (hf : fltZ t b.length = 0) (hb : base ≤ w.heap.size) :
    Calls Try.prog 9 #[v, .agg (zC t)] w fun e w' => ∃ v', e = .returned v' ∧ Ob w' base v' (growZ b t) ∧ Below base w w' := by
  have hz := flt_zero hf
  have HG : Hid (growZ b t = if t.1 = 0 then b ++ [t.2.2] else cpyL b t.1.toNat t.2.1.toNat) := rfl
  obtain ⟨d, n, x⟩ := t
  unfold zC
  dsimp only at *
  clear hf
  obtain ⟨i0, hi, hi0, hi1, hi2⟩ := info_parts Try.info5
  have HBA := hid (bel_alloc w (.cells #[.int .i64 d, .int .i64 n, .int .u8 x] 34))
  have hownA := hown.alloc (.cells #[.int .i64 d, .int .i64 n, .int .u8 x] 34)
  rcases hz with ⟨hd0, hn1, hm⟩ | ⟨hd1, hd2, hn1, hn2, hdm, hm⟩
  · rw [if_pos hd0] at HG
    have hdb : (d == 0) = true := by simpa using hd0
    have hob := own_block hown
    clear hd0 hn1
    go_enter Try.func9, Try.ntmps9
    go_wp2_with (at_builtin; refine wpList_append_own _ rfl _ _ 26 rfl base 5 i0 (.int .u8 0) 1 1 Try.underlying26 hi hi0 hi1 hi2 rfl (by decide) _ _ _ rfl (hownA.alloc _) ⟨w.heap.size + 1, 0, none⟩ 1 1 [.int .u8 x] rfl rfl (by have := one_new (w.alloc (.cells #[.int .i64 d, .int .i64 n, .int .u8 x] 34)) (.int .u8 x) 5; simpa only [World.size_alloc] using this) (one_cell _ _) (by unfold maxLen; omega) (by omega) (by simp; omega) ?_)
    intro v' w3 hown3 hgrow3 _
    have HB3 : Hid (Below base w w3) := ((HBA.out.mono hb).trans ((bel_alloc _ (.cells #[.int .u8 x] 5)).mono (by simp; omega))).grown hgrow3 (by simp; omega) (fun g hg => (hob g hg).1)
    have HO3 : Hid (Ob w3 base v' (growZ b (d, n, x))) := by
      show World.ownsRow _ _ _ _ _ _ _
      rw [HG.out, List.length_append, List.map_append]
      exact hown3
    clear hown3 hgrow3 hownA hown hob
    go_wp2
    go_ret
    exact ⟨_, rfl, HO3.out, HB3.out⟩
  · rw [if_neg (by omega)] at HG
    have hdb : (d == 0) = false := by simp; omega
    obtain ⟨D, hD⟩ : ∃ D : Nat, d = (D : Int) := ⟨d.toNat, by omega⟩
    obtain ⟨N, hN⟩ : ∃ N : Nat, n = (N : Int) := ⟨n.toNat, by omega⟩
    subst hD
    subst hN
    simp only [Int.toNat_natCast] at HG
    have hDb : D ≤ b.length := by omega
    have hD1 : 1 ≤ D := by omega
    have hNm : b.length + N ≤ 65536 := by omega
    have HLEN : Hid (∀ j, (cpyL b D j).length = b.length + j) := fun j => cpyL_len b D j
    have e0 : (w.alloc (.cells #[.int .i64 (D : Int), .int .i64 (N : Int), .int .u8 x] 34)).heap[w.heap.size]? = some (.cells #[.int .i64 (D : Int), .int .i64 (N : Int), .int .u8 x] 34 (0, 0)) := heap_new _ _
    have HE0 := hid e0
    have HOA : Hid (Ob (w.alloc (.cells #[.int .i64 (D : Int), .int .i64 (N : Int), .int .u8 x] 34)) base v (cpyL b D 0)) := hownA
    have hwA : base ≤ w.heap.size := hb
    obtain ⟨bl, hbl⟩ : ∃ bl, bl = b.length := ⟨_, rfl⟩
    rw [← hbl] at hDb hNm
    rw [← hbl] at HLEN
    clear hownA hown hbl hdm hm hd1 hd2 hn1 hn2 e0
    go_enter Try.func9, Try.ntmps9
    go_wp2_with fail
    go_loopw [0, 15] (fun x0 x15 wr => ∃ j : Nat, j ≤ N ∧ x15 = .int .i64 (j : Int) ∧ Ob wr base x0 (cpyL b D j) ∧ wr.heap[w.heap.size]? = some (.cells #[.int .i64 (D : Int), .int .i64 (N : Int), .int .u8 x] 34 (0, 0)) ∧ Below base w wr) (fun _ x15 _ => N - (intOf x15).toNat)
    case atStart => exact ⟨0, by omega, rfl, HOA.out, HE0.out, HBA.out.mono hb⟩
    case round =>
      clear HOA HE0 HBA
      obtain ⟨j, hj, rfl, hown, htb, hbel⟩ := hrel
      have hlen := HLEN.out j
      have hlt0 := (Array.getElem?_eq_some_iff.1 htb).1
      by_cases hlt : j < N
      · have hjz : (j : Int) < (N : Int) := by omega
        have HST : Hid (cpyL b D (j + 1) = cpyL b D j ++ [(cpyL b D j).getD ((cpyL b D j).length - D) 0]) := rfl
        have hob := own_block hown
        have hne : u0.ownBlock ≠ some w.heap.size := fun e => by
          rcases hown.2 with ⟨hv, _⟩ | ⟨g', cap', cur', hv, _, hg', _⟩
          · rw [hv] at e; cases e
          · rw [hv] at e
            simp only [Value.ownBlock, Option.some.injEq] at e
            rw [e, htb] at hg'
            cases hg'
        obtain ⟨L, hL⟩ : ∃ L, L + 1 = (cpyL b D j).length := ⟨bl + j - 1, by omega⟩
        obtain ⟨g, cap, rfl⟩ := ownsRow_succ (k := L) (by rw [hL]; exact hown)
        obtain ⟨i, hi'⟩ : ∃ i, i = (cpyL b D j).length - D := ⟨_, rfl⟩
        rw [← hi'] at HST
        have hcap : (cpyL b D j).length ≤ cap ∧ cap ≤ maxLen := by
          rcases hown.2 with ⟨hv, _⟩ | ⟨g', cap', cur', hv, _, _, h1, h2, _⟩
          · cases hv
          · injection hv with _ _ h3
            rw [h3]
            exact ⟨h1, h2⟩
        unfold maxLen at hcap
        have hLb : L + 1 = bl + j := by omega
        have ci : wr.cell? ⟨g, i, none⟩ = some (.int .u8 ((cpyL b D j).getD i 0)) := by
          rw [hL] at hown
          rw [hown.cellAt i (by omega), List.getElem?_map, List.getElem?_eq_getElem (by omega)]
          simp [List.getD, List.getElem?_eq_getElem (show i < (cpyL b D j).length by omega)]
        obtain ⟨M, hM⟩ : ∃ M, M = L + 1 := ⟨_, rfl⟩
        rw [← hM] at hown hL hLb hob hne ⊢
        have hiz : (M : Int) - (D : Int) = (i : Int) := by omega
        have hiM : i < M := by omega
        have m0 := Joins.cell_of_block htb 0
        have m1 := Joins.cell_of_block htb 1
        simp only [List.getElem?_toArray, List.getElem?_cons_zero, List.getElem?_cons_succ] at m0 m1
        have hMl : M ≤ 65536 := by omega
        have HTB := hid htb
        have HBEL := hid hbel
        have HOB := hid hob
        have HNE := hid hne
        have hwb := hbel.size
        have HLM : Hid ((cpyL b D j).length = M) := hL.symm
        generalize (cpyL b D j).getD i 0 = y at *
        have hown2 : wr.ownsRow base 5 1 (.slice (some ⟨g, 0, none⟩) M cap) M ((cpyL b D j).map (Value.int .u8)) := by
          have h : wr.ownsRow base 5 1 (.slice (some ⟨g, 0, none⟩) M cap) (cpyL b D j).length ((cpyL b D j).map (Value.int .u8)) := hown
          rwa [HLM.out] at h
        clear hM hL hLb hob hne htb hbel hown hcap hlen hi' HLEN
        go_wp2_with (at_builtin; refine wpList_append_own _ rfl _ _ 26 rfl base 5 i0 (.int .u8 0) 1 1 Try.underlying26 hi hi0 hi1 hi2 rfl (by decide) _ _ _ rfl (hown2.alloc _) ⟨wr.heap.size, 0, none⟩ 1 1 [.int .u8 y] rfl rfl (one_new wr (.int .u8 y) 5) (one_cell _ _) (by unfold maxLen; omega) (by omega) (by simp; omega) ?_)
        intro v' w3 hown3 hgrow3 _
        have HB3 : Hid (Below base w w3) := (HBEL.out.trans ((bel_alloc wr (.cells #[.int .u8 y] 5)).mono (by omega))).grown hgrow3 (by simp; omega) (fun g hg => (HOB.out g hg).1)
        have HT3 : Hid (w3.heap[w.heap.size]? = some (.cells #[.int .i64 (D : Int), .int .i64 (N : Int), .int .u8 x] 34 (0, 0))) :=
          (hgrow3.block w.heap.size (by simp; omega) (fun e => HNE.out e.symm)).trans (heap_old _ _ HTB.out)
        have HO3 : Hid (Ob w3 base v' (cpyL b D (j + 1))) := by
          show World.ownsRow _ _ _ _ _ _ _
          rw [HST.out, List.length_append, List.map_append, HLM.out]
          exact hown3
        clear hown3 hgrow3 hown2 ci m0 m1 HOB HNE HBEL HTB
        go_wp2
        exact ⟨⟨j + 1, by omega, by go_num, HO3.out, HT3.out, HB3.out⟩, by simp [intOf]; omega⟩
      · obtain rfl : j = N := by omega
        have hjz : ¬ (j : Int) < (j : Int) := by omega
        go_wp2
        go_ret
        exact ⟨_, rfl, by rw [HG.out]; exact hown, hbel⟩
end Go.Proofs.Ytgdlmhgjhmcilab
