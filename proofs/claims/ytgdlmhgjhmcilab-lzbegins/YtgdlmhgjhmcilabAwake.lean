/-
  The contract of the statements' awake.
-/
import Derived.Test.YtgdlmhgjhmcilabSame
import Derived.Lib.SlBytesConst
namespace Go.Proofs.Ytgdlmhgjhmcilab
open Go.RowKit Lz

/-- Bytes as a string, in whatever later world. -/
theorem Ri.text {w : World} {a : Option Addr} {cap : Nat} {zs : List Int} (h : Ri w .u8 a cap zs) (W : World) (hb : Below w.heap.size w W) :
    (convert 26 9 (.slice a zs.length cap)).run Try.prog W = .ok (.string (strOfNums zs)) W := by
  have h' := h.later hb
  by_cases h0 : 0 < zs.length
  · obtain ⟨b, off, rfl, _, hc⟩ := h'.cells h0
    exact run_convert_bytes_arg (P := Try.prog) W 26 5 Try.underlying26 Try.underlying5 b off zs.length cap zs rfl hc 9 Try.underlying9
  · have hz : zs = [] := List.length_eq_zero_iff.1 (by omega)
    subst hz
    rw [run_convert_bytes_string W 26 9 5 a _ cap Try.underlying26 Try.underlying5 Try.underlying9]
    cases a with
    | none => rfl
    | some ad =>
      rw [show ([] : List Int).length = 0 from rfl]
      rw [run_bytesToString W ad 0 cap [] (by simpa using run_loadCells_list (P := Try.prog) W ad [] (by intro j v hj; simp at hj))]
      rfl

theorem lit_ri (w : World) (zs : List Int) (m : Nat × Nat) (n : Nat) (hn : n = zs.length) (hm : n ≤ 1000) (hf : ∀ z ∈ zs, 0 ≤ z ∧ z ≤ 255) : Ri (w.alloc (.cells (zs.map (Value.int .u8)).toArray 5 m)) .u8 (some ⟨w.heap.size, 0, none⟩) n zs := by
  subst hn
  refine ⟨Nat.le_refl _, by unfold maxLen; omega, fun _ => ⟨w.heap.size, 0, rfl, by simp, fun j hj => ?_⟩, fun j => ?_⟩
  · have := Joins.cell_of_block (heap_new w (.cells (zs.map (Value.int .u8)).toArray 5 m)) j
    rw [Nat.zero_add]
    refine this.trans ?_
    simp [List.getD, List.getElem?_eq_getElem hj]
  · by_cases hj : j < zs.length
    · have hm : zs.getD j 0 ∈ zs := by
        simp only [List.getD, List.getElem?_eq_getElem hj, Option.getD_some]
        exact List.getElem_mem hj
      have := hf _ hm
      exact wf_mk_u8 this.1 this.2
    · rw [getD_out _ _ (by omega)]; exact wf_zero _

def abc : List Int := [97, 98, 99, 97, 98, 99, 97, 98, 99, 100]
def abcT : List Tok := [(0, 1, 97), (0, 1, 98), (0, 1, 99), (3, 6, 0), (0, 1, 100)]
theorem abc_toks : tksO abc = (abcT, 0) := by decide +kernel
theorem abc_bytes : bytesO (abcT.map toZ) = (abc, 0, 0) := by decide +kernel
theorem abc_fit : ∀ t ∈ abcT, t.1 ≤ 65536 ∧ t.2.1 ≤ 65536 ∧ (Lit.int .u8 t.2.2).wf = true := by decide +kernel
theorem abc_8 : ∀ j, (Lit.int .u8 (abc.getD j 0)).wf = true := by
  intro j
  by_cases hj : j < 10
  · have : ∀ j, j < 10 → (Lit.int .u8 (abc.getD j 0)).wf = true := by decide +kernel
    exact this j hj
  · rw [getD_out _ _ (by simp [abc]; omega)]; exact wf_zero _
theorem abc_str : strOfNums abc = ⟨#[97, 98, 99, 97, 98, 99, 97, 98, 99, 100]⟩ := by decide +kernel



set_option maxHeartbeats 1600000 in
set_option maxRecDepth 100000 in
theorem awake_any (w : World) : Calls Try.prog 4 #[] w fun e w' => e = .returned (.bool true) ∧ Below w.heap.size w w' := by
  have hr := lit_ri w abc (10, 11) 10 rfl (by omega) (by decide)
  have hT := tokens_word (some ⟨w.heap.size, 0, none⟩) 10 abc _ hr
  unfold TksPost at hT
  rw [abc_toks] at hT
  dsimp only at hT
  have HT : Hid (Calls Try.prog 7 #[.slice (some ⟨w.heap.size, 0, none⟩) 10 10] (w.alloc (.cells #[.int .u8 97, .int .u8 98, .int .u8 99, .int .u8 97, .int .u8 98, .int .u8 99, .int .u8 97, .int .u8 98, .int .u8 99, .int .u8 100] 5 (10, 11))) fun e w' =>
    ∃ v, e = .returned (.tuple #[v, .int .i64 0]) ∧ w'.ownsRow (w.heap.size + 1) 34 3 v abcT.length (abcT.flatMap tokC) ∧ Below w.heap.size w w') := by
    refine Calls.mono hT ?_
    rintro e w' ⟨v, h1, h2, h3⟩
    rw [World.size_alloc] at h2
    exact ⟨v, h1, h2, Bn (bel_alloc w _) h3⟩
  have kc := Lib.run_convert_bytes_const (P := Try.prog) w 26 5 #[.int .u8 97, .int .u8 98, .int .u8 99, .int .u8 97, .int .u8 98, .int .u8 99, .int .u8 97, .int .u8 98, .int .u8 99, .int .u8 100] 10 10 Try.underlying26 Try.underlying5
  simp only [List.size_toArray, List.length_cons, List.length_nil, Nat.reduceAdd] at kc
  clear hr hT
  go_enter Try.func4, Try.ntmps4
  go_wp2_with fail
  refine HT.out.mono ?_
  rintro _ w1 ⟨v, rfl, hown1, hb1⟩
  obtain ⟨a1, c1, rfl, hr1⟩ := Rt.own hown1 abc_fit
  have hB := bytes_word a1 c1 (abcT.map toZ) w1 hr1 (by decide)
  unfold BytPost at hB
  rw [abc_bytes] at hB
  dsimp only at hB
  have HB := hid hB
  have HB1 := hid hb1
  have HR1 := hid hr1
  have hlen : abcT.length = 5 := rfl
  rw [hlen]
  have hlen2 : (abcT.map toZ).length = 5 := rfl
  rw [hlen2] at HB
  clear hown1 hb1 hr1 hB HT kc hlen hlen2
  go_wp2_with fail
  refine HB.out.mono ?_
  rintro _ w2 ⟨v2, rfl, hown2, hb2⟩
  obtain ⟨a2, c2, rfl, hr2⟩ := Ri.own hown2 abc_8
  have ht := hr2.text w2 (Below.refl _ _)
  rw [abc_str] at ht
  obtain ⟨g, off, rfl, hg, hc⟩ := HR1.out.cells (by decide)
  obtain ⟨p0, p1, p2⟩ := hc 3 (by decide)
  have q0 := (hb2.cell (p := ⟨g, off + 3 * 3, none⟩) hg).trans p0
  have q1 := (hb2.cell (p := ⟨g, off + 3 * 3 + 1, none⟩) hg).trans p1
  have q2 := (hb2.cell (p := ⟨g, off + 3 * 3 + 2, none⟩) hg).trans p2
  have HB2 := hid (Bn HB1.out hb2)
  have heq : (binOp .eql 34 (.agg #[.int .i64 3, .int .i64 6, .int .u8 0]) (.agg #[.int .i64 3, .int .i64 6, .int .u8 0])).run Try.prog w2 = .ok (.bool true) w2 := by
    rw [run_eql23]; rfl
  have hl10 : abc.length = 10 := rfl
  rw [hl10] at ht ⊢
  have hcap := HR1.out.room
  have hl5 : (abcT.map toZ).length = 5 := rfl
  rw [hl5] at hcap
  clear hc p0 p1 p2 hb2 hown2 hr2 HB HB1 HR1 hl10 hl5
  go_wp2
  go_ret
  exact ⟨rfl, HB2.out⟩
end Go.Proofs.Ytgdlmhgjhmcilab
