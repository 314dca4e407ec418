/-
  The file of three pieces, and some bytes of it: the contracts of file and alive.
-/
import Derived.Test.YtcbjlnabbfkkeaaNmK
namespace Go.Proofs.Ytcbjlnabbfkkeaa
open Go.ChangeShapes Go.WideShapes Go.ChangeAt Go.RowKit Go.Deep Go.Lib

def ps3 : List Pc := [(z32, 3), (z32, 5), (z32, 2)]
def sA : ByteArray := ⟨#[97]⟩
def rec3 (b : Nat) : Rec := ⟨1, 1, z32, 2, 0, sA, some ⟨b, 0, none⟩, 3, ps3⟩
theorem may3 (b : Nat) : mayB (rec3 b) = true := by
  have h : ∀ a, mayB (⟨1, 1, z32, 2, 0, sA, a, 3, ps3⟩ : Rec) = mayB (⟨1, 1, z32, 2, 0, sA, none, 3, ps3⟩ : Rec) := fun _ => rfl
  unfold rec3
  rw [h]
  decide +kernel
theorem built59 (n : Int) : Try.prog.built 59 [(1, .int .i64 n)] = some (pcC (z32, n)).toArray := by kernel_rfl
theorem built36 (b : Nat) : Try.prog.built 36 [(0, .int .i64 1), (1, .int .i64 1), (3, .int .i64 2), (5, .string ⟨#[97]⟩), (6, .slice (some ⟨b, 0, none⟩) 3 3)] = some (rec3 b).cs.toArray := by kernel_rfl
theorem fill3 (z : Array Value) (h : z = pcZ) : Instr.fill (fun i => some (i * 33, 33)) ((Array.range (3 * 33)).map (z[· % z.size]!)) [(0, .agg (pcC (z32, 3)).toArray), (1, .agg (pcC (z32, 5)).toArray), (2, .agg (pcC (z32, 2)).toArray)] = some (ps3.flatMap pcC).toArray := by
  subst h
  kernel_rfl
theorem ok3 : ∀ x ∈ ps3, PcOk x := by
  intro x hx
  simp only [ps3, List.mem_cons, List.not_mem_nil, or_false] at hx
  rcases hx with rfl | rfl | rfl <;> exact ⟨rfl, z32_u8, rfl⟩
set_option maxHeartbeats 6400000 in
set_option maxRecDepth 100000 in
theorem file_word (w : World) : Calls Try.prog 38 #[] w fun e w' => ∃ b, e = .returned (.agg (rec3 b).cs.toArray) ∧ Rv w' (rec3 b) ∧ Below w.heap.size w w' := by
  obtain ⟨i0, hi, hz0, hz1, hz2⟩ := info_parts Try.info59
  have HZ := hid Try.zero36
  have HB1 := hid (built59 3)
  have HB2 := hid (built59 5)
  have HB3 := hid (built59 2)
  have HB4 := hid (fun b => built36 b)
  have HF := hid (fill3 pcZ rfl)
  have hpl : (ps3.flatMap pcC).length = 99 := by decide +kernel
  have HFZ : Hid (Instr.fill (fun i => some (i * i0.size, i0.size)) ((Array.range (3 * i0.size)).map ((Value.agg pcZ).cells[· % (Value.agg pcZ).cells.size]!)) [(0, .agg (pcC (z32, 3)).toArray), (1, .agg (pcC (z32, 5)).toArray), (2, .agg (pcC (z32, 2)).toArray)] = some (ps3.flatMap pcC).toArray) := by
    show _ = _
    rw [hz1]
    exact fill3 _ rfl
  clear hpl
  go_enter Try.func38, Try.ntmps38
  go_wp2_with (first | refine wpList_alloc_W rfl 36 rfl (some 0) rfl _ HZ.out w.heap.size rfl ?_ | fail)
  intro W1 HG1 HA1 HS1
  go_wp2_with (first | refine wpList_buildTo rfl 59 _ rfl (some 1) rfl (pcC (z32, 3)).toArray (Eq.trans (congrArg (Try.prog.built 59) (by simp only [List.map_toArray, List.map_cons, List.map_nil]; rfl)) HB1.out) ?_ | refine wpList_buildTo rfl 59 _ rfl (some 2) rfl (pcC (z32, 5)).toArray (Eq.trans (congrArg (Try.prog.built 59) (by simp only [List.map_toArray, List.map_cons, List.map_nil]; rfl)) HB2.out) ?_ | refine wpList_buildTo rfl 59 _ rfl (some 3) rfl (pcC (z32, 2)).toArray (Eq.trans (congrArg (Try.prog.built 59) (by simp only [List.map_toArray, List.map_cons, List.map_nil]; rfl)) HB3.out) ?_ | refine wpList_buildSlice rfl 34 59 3 _ rfl (ps3.flatMap pcC).toArray i0 (.agg pcZ) Try.underlying34 hi hz0 (by rw [hz1]; decide) (by rw [hz1]; decide) (Eq.trans (congrArg _ (by simp only [List.map_toArray, List.map_cons, List.map_nil]; rfl)) HFZ.out) ?_ | refine wpList_buildTo rfl 36 _ rfl (some 5) rfl (rec3 W1.heap.size).cs.toArray (Eq.trans (congrArg (Try.prog.built 36) (by simp only [List.map_toArray, List.map_cons, List.map_nil]; rfl)) (HB4.out W1.heap.size)) ?_ | refine wpList_store_W rfl 36 _ _ rfl rfl w.heap.size (rec3 W1.heap.size).cs.toArray rfl rfl 36 _ (heap_old _ _ HG1.out) (size_recs rfl) rfl (all_oneCell_toArray (Rec.cs_one _)) ?_ | fail)
  intro W2 HG2 HA2 HS2
  go_wp2
  refine bodyPost_ret (results_cell_row (ty := 36) rfl _ _ _ _ _ _ _ rfl HG2.out Try.underlying36 rfl (size_recs rfl)) rfl ?_
  have hb := HA1.out.trans ((bel_alc W1 (.cells (ps3.flatMap pcC).toArray 59)).mono HA1.out.size)
  refine ⟨W1.heap.size, rfl, ⟨rfl, z32_u8, rfl, rfl, rfl, rfl, (by show sA.size ≤ _; unfold maxLen; decide), ⟨(by show 3 ≤ 3; decide), (by show 3 ≤ _; unfold maxLen; decide), (fun h => by cases h), fun _ => ⟨W1.heap.size, 0, rfl, ?_, fun j hj i v hv => ?_⟩, ok3⟩⟩, hb.trans (bel_grown HA2.out (Nat.le_refl _) hb.size)⟩
  · rw [HS2.out]; simp
  · have h1 := HA2.out.block W1.heap.size (by simp) (fun e => by have e2 : W1.heap.size = w.heap.size := Option.some.inj e; have := HS1.out; omega)
    rw [heap_alc] at h1
    rw [Nat.zero_add, Joins.cell_of_block h1, List.getElem?_toArray]
    have h2 := flat_at ps3 ok3 j hj i v hv
    exact h2
/-- The parts that alive asks for. -/
def L24 : List Pt := [⟨(z32, 3), 2, 3⟩, ⟨(z32, 5), 0, 3⟩]
theorem part24 : partL 0 2 (2 + 4) ps3 = L24 := by kernel_rfl
theorem of3 {b : Nat} {M : List Fl} (h : AppsR [rec3 b] [] M) : ∃ f : Fl, f.ps = ps3 ∧ f.size = 10 ∧ fnd M sA = some f := by
  obtain ⟨_, M1, ha, he⟩ := h
  have he : M = M1 := he
  subst he
  unfold AppR at ha
  have h0 : mayE [] (rec3 b) = 0 := by
    unfold mayE
    rw [may3]
    rfl
  rw [if_pos h0, if_pos (show (rec3 b).kind = 2 from rfl)] at ha
  obtain ⟨f, hM, hp, _, hps, hsz⟩ := ha
  refine ⟨f, hps, ?_, ?_⟩
  · rw [hsz]
    show sumP ps3 = 10
    decide +kernel
  · rw [hM, fnd_put, if_pos (show sA = f.path from hp.symm)]
theorem seek24 {b : Nat} {M : List Fl} (h : AppsR [rec3 b] [] M) : sekO M sA 2 4 = (0, L24) ∧ sekO M sA 10 1 = (5, []) := by
  obtain ⟨f, hps, hsz, hf⟩ := of3 h
  have e : ∀ a c, sekO M sA a c = sekF f a c := fun a c => by unfold sekO; rw [hf]
  rw [e, e]
  unfold sekF
  rw [hps, hsz]
  refine ⟨?_, ?_⟩
  · rw [if_neg (by decide), part24]
  · rw [if_pos (by decide)]
set_option maxHeartbeats 6400000 in
set_option maxRecDepth 100000 in
theorem alive_word (w : World) : Calls Try.prog 16 #[] w fun e w' => e = .returned (.bool true) ∧ Below w.heap.size w w' := by
  obtain ⟨i0, hi, hz0, hz1, hz2⟩ := info_parts Try.info36
  have HFW := hid (file_word w)
  go_enter Try.func16, Try.ntmps16
  go_wp2_with fail
  refine HFW.out.mono ?_
  rintro _ W1 ⟨b, rfl, hrv, hb1⟩
  have HRV := hid hrv
  have HB1 := hid hb1
  have HBX := hid (Bx.mk' W1 (rec3 b) rfl)
  have HBA := hid (bel_alc W1 (.cells (rec3 b).cs.toArray 36))
  have HRR : Hid (Rr (W1.alloc (.cells (rec3 b).cs.toArray 36)) (some ⟨W1.heap.size, 0, none⟩) 1 [rec3 b]) := by
    refine ⟨Nat.le_refl _, by unfold maxLen; decide, (fun h => by cases h), fun _ => ⟨W1.heap.size, 0, rfl, HBX.out.lt, fun j hj => ?_⟩, fun r hr => ?_⟩
    · have hj0 : j = 0 := by simp at hj; omega
      subst hj0
      exact HBX.out.range
    · simp only [List.mem_singleton] at hr
      subst hr
      exact HRV.out.later HBA.out
  have HOF := hid (of_word 0 _ _ _ _ HRR.out (Nat.zero_le _))
  clear hrv hb1 HFW
  go_wp2_with (first | refine wpList_buildOne rfl 22 36 _ rfl (some 10) rfl (rec3 b).cs.toArray i0 _ Try.underlying22 hi hz0 (by rw [hz1]; rfl) (by rw [Rec.cs_size rfl]; decide) (by rw [Rec.cs_size rfl]; decide) rfl ?_ | fail)
  refine HOF.out.mono ?_
  intro e W2 hof
  rcases hof with ⟨M, ha, rfl, hnm, hb2⟩ | ⟨k, M, hk, ha, hne, _⟩
  · have hs := seek24 ha
    have HB2 := hid (Bn HB1.out (Bn HBA.out hb2))
    have HN := hid hnm
    obtain ⟨N, hN⟩ : ∃ N, N = (W1.alloc (.cells (rec3 b).cs.toArray 36)).heap.size := ⟨_, rfl⟩
    rw [← hN] at HN
    rw [← hN]
    have HS1 := hid (seek_word W2 (N + 1) N M 0 HN.out sA (by unfold maxLen; decide) 2 4 rfl rfl)
    rw [hs.1] at HS1
    have HS2 := hid (fun V (hv : Below W2.heap.size W2 V) => seek_word V (N + 1) N M 0 (HN.out.later hv) sA (by unfold maxLen; decide) 10 1 rfl rfl)
    rw [hs.2] at HS2
    clear hs ha hnm hb2 hN HOF HRR
    go_wp2_with fail
    refine HS1.out.mono ?_
    rintro _ W3 ⟨a3, c3, rfl, hr3, _, hb3⟩
    have HB3 := hid hb3
    have HR3 := hid hr3
    clear hb3 hr3 HS1
    go_wp2_with fail
    refine (HS2.out _ HB3.out).mono ?_
    rintro _ W4 ⟨a4, c4, rfl, hr4, _, hb4⟩
    have hr5 := HR3.out.later hb4
    have HB4 := hid (Bn HB2.out (Bn HB3.out hb4))
    obtain ⟨bb, off, rfl, hbb, hc⟩ := hr5.cells (by decide)
    have hc0 := hc 0 (by decide)
    have hc1 := hc 1 (by decide)
    have d1 : W4.cell? ⟨bb, off + 33, none⟩ = some (.int .i64 2) := by have := hc0 33 (.int .i64 2) rfl; simpa using this
    have d2 : W4.cell? ⟨bb, off + 34, none⟩ = some (.int .i64 3) := by have := hc0 34 (.int .i64 3) rfl; simpa using this
    have d3 : W4.cell? ⟨bb, off + 35 + 33, none⟩ = some (.int .i64 0) := by have := hc1 33 (.int .i64 0) rfl; simpa using this
    have d4 : W4.cell? ⟨bb, off + 35 + 34, none⟩ = some (.int .i64 3) := by have := hc1 34 (.int .i64 3) rfl; simpa using this
    have hl : (((0 : Int), L24).2).length = 2 := rfl
    have hl0 : (((5 : Int), ([] : List Pt)).2).length = 0 := rfl
    have hc3 := hr5.room
    have hm3 := hr5.most
    unfold maxLen at hm3
    rw [hl] at hc3 ⊢
    rw [hl0]
    clear hc hc0 hc1 hr5 hr4 hb4 hl hl0 HR3 HS2
    go_wp2
    go_ret
    exact ⟨rfl, HB4.out⟩
  · have hk0 : k = 0 := by simp at hk; omega
    subst hk0
    have hM : M = [] := ha
    subst hM
    exact absurd (by unfold mayE; rw [show ([rec3 b].getD 0 recZ) = rec3 b from rfl, may3]; rfl) hne
end Go.Proofs.Ytcbjlnabbfkkeaa
