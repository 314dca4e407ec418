/-
  NamesNobody is proved for every input: a namespace that is nil, or a zero one, has nothing and refuses every record; no condition.
-/
import Derived.Test.YtcbjlnabbfkkeaaNmM
import Derived.Test.YtcbjlnabbfkkeaaRcQa
namespace Go.Proofs.Ytcbjlnabbfkkeaa.namesNobody
open Go.ChangeShapes Go.WideShapes Go.ChangeAt Go.RowKit Go.Deep Go.Lib

theorem own : ownKnob Try.prog.godebug = none := by kernel_rfl
set_option maxHeartbeats 12800000 in
set_option maxRecDepth 100000 in
theorem walk (r : Rec) (s : ByteArray) (w : World) (hr : Rv w r) (_ : s.size ≤ maxLen) :
    Calls Try.prog 8 #[.agg r.cs.toArray, .string s] w fun e w' => e = .returned (.bool true) ∧ Below w.heap.size w w' := by
  have HLL := hid (Rec.cs_len hr.len)
  have HLEN := hid hr.len
  have HB0 := hid (bel_alc w (.cells r.cs.toArray 36))
  have HBX := hid (heap_alc w (.cells r.cs.toArray 36))
  have HY := hid Try.zero51
  obtain ⟨W1, hW1⟩ : ∃ W1, W1 = ((w.alloc (.cells r.cs.toArray 36)).alloc (.cells #[.map none] 69)).alloc (.cells #[.pointer none, .pointer (some ⟨w.heap.size + 1, 0, none⟩)] 24) := ⟨_, rfl⟩
  have s1 : (w.alloc (.cells r.cs.toArray 36)).heap.size = w.heap.size + 1 := by simp
  have s2 : ((w.alloc (.cells r.cs.toArray 36)).alloc (.cells #[.map none] 69)).heap.size = w.heap.size + 2 := by simp
  have HW1 := hid hW1
  have g1 : W1.heap[w.heap.size]? = some (.cells r.cs.toArray 36) := by rw [hW1]; exact heap_old _ _ (heap_old _ _ (heap_alc w _))
  have g2 : W1.heap[w.heap.size + 1]? = some (.cells #[.map none] 69) := by
    rw [hW1]
    refine heap_old _ _ ?_
    have := heap_alc (w.alloc (.cells r.cs.toArray 36)) (.cells #[.map none] 69)
    rwa [s1] at this
  have g3 : W1.heap[w.heap.size + 1 + 1]? = some (.cells #[.pointer none, .pointer (some ⟨w.heap.size + 1, 0, none⟩)] 24) := by
    rw [hW1]
    have := heap_alc ((w.alloc (.cells r.cs.toArray 36)).alloc (.cells #[.map none] 69)) (.cells #[.pointer none, .pointer (some ⟨w.heap.size + 1, 0, none⟩)] 24)
    rwa [s2] at this
  have HBW : Hid (Below w.heap.size w W1) := by
    show Below _ _ _
    rw [hW1]
    exact (bel_alc w _).trans (((bel_alc (w.alloc (.cells r.cs.toArray 36)) _).mono (by rw [s1]; omega)).trans ((bel_alc _ _).mono (by rw [s2]; omega)))
  have HBOX := hid (fun V (hv : Below W1.heap.size W1 V) => blk_later g1 hv)
  have HEL : Hid (∀ (V : World) (k : Nat), Below W1.heap.size W1 V → k < 2 → ∃ v, V.cell? ⟨w.heap.size + 1 + 1, k, none⟩ = some v ∧ Nob V v) := fun V k hv hk => by
    have h3 := blk_later g3 hv
    have hk2 : k = 0 ∨ k = 1 := by omega
    rcases hk2 with rfl | rfl
    · exact ⟨_, (Joins.cell_of_block h3 0).trans rfl, .nil⟩
    · exact ⟨_, (Joins.cell_of_block h3 1).trans rfl, .zero _ (blk_later g2 hv)⟩
  have HAL := hid (fun V => alive_word V)
  clear hr hW1 g1 g2 g3 s1 s2 HB0 HBX
  go_enter Try.func8, Try.ntmps8
  go_wp2
  rw [← HW1.out]
  go_loopw [17] (fun x17 wr => ∃ k : Nat, k ≤ 2 ∧ x17 = .int .i64 (k : Int) ∧ Hid (Below W1.heap.size W1 wr)) (fun x17 _ => 2 - (intOf x17).toNat)
  case atStart => exact ⟨0, by omega, rfl, Below.refl _ _⟩
  case round =>
    obtain ⟨k, hk, rfl, HB⟩ := hrel
    by_cases hlt : k < 2
    · have hkz : (k : Int) < 2 := by omega
      obtain ⟨v, hcv, hnv⟩ := HEL.out wr k HB.out hlt
      have HNV := hid hnv
      clear hnv
      go_wp2_with fail
      refine (stat_no wr v s HNV.out).mono ?_
      rintro _ W2 ⟨rfl, hb2⟩
      have HB2 := hid (Bn HB.out hb2)
      have HN2 := hid (HNV.out.later hb2)
      clear hb2 hcv
      go_wp2_with (first | refine wpList_alloc_W rfl 51 rfl (some 8) rfl _ HY.out W2.heap.size rfl ?_ | fail)
      intro W3 HG3 HB3 HS3
      go_wp2_with (first | refine wpList_store_W rfl 51 _ _ rfl rfl W2.heap.size fiZ.cs.toArray rfl rfl 51 _ HG3.out Try.size51 rfl (Fi.one _) ?_ | fail)
      intro W4 HG4 HB4 HS4
      have HX4 : Hid (Below W2.heap.size W2 W4) := HB3.out.trans (bel_grown HB4.out (Nat.le_refl _) HB3.out.size)
      have HN4 := hid (HN2.out.later HX4.out)
      have HC4 := hid (Bn HB2.out HX4.out)
      go_wp2_with fail
      refine (seek_no W4 v s 0 0 HN4.out).mono ?_
      rintro _ W5 ⟨a5, c5, rfl, _, _, hb5⟩
      have HC5 := hid (Bn HC4.out hb5)
      have HN5 := hid (HN4.out.later hb5)
      have HG5 := hid (blk_later HG4.out hb5)
      clear hb5
      go_wp2_with (first | refine wpList_load_g rfl 36 _ rfl w.heap.size 0 rfl r.cs _ (blk_range (HBOX.out _ HC5.out)) Try.underlying36 rfl (by rw [HLL.out]; exact Try.size36) ?_ | fail)
      refine (apply_no W5 v r HN5.out HLEN.out).mono ?_
      rintro _ W6 ⟨rfl, hb6⟩
      have HC6 := hid (Bn HC5.out hb6)
      have HN6 := hid (HN5.out.later hb6)
      have HG6 := hid (blk_later HG5.out hb6)
      clear hb6
      go_wp2_with (first | refine wpList_load_g rfl 36 _ rfl w.heap.size 0 rfl r.cs _ (blk_range (HBOX.out _ HC6.out)) Try.underlying36 rfl (by rw [HLL.out]; exact Try.size36) ?_ | fail)
      refine (may_no W6 v r HN6.out).mono ?_
      rintro _ W7 ⟨rfl, hb7⟩
      have HC7 := hid (Bn HC6.out hb7)
      have HN7 := hid (HN6.out.later hb7)
      have cp : W7.cell? ⟨W2.heap.size, 0, none⟩ = some (.string ByteArray.empty) := (Joins.cell_of_block (blk_later HG6.out hb7) 0).trans rfl
      clear hb7
      go_wp2_with fail
      refine (list_no W7 v s HN7.out).mono ?_
      rintro _ w0 ⟨rfl, hw⟩
      obtain rfl := hw.symm
      clear hw
      go_wp2_with fail
      refine (digests_no W7 v HN7.out).mono ?_
      rintro _ w0 ⟨rfl, hw⟩
      obtain rfl := hw.symm
      clear hw
      go_wp2_with fail
      refine (copy_no W7 v HN7.out).mono ?_
      rintro _ w0 ⟨rfl, hw⟩
      obtain rfl := hw.symm
      clear hw
      go_wp2
      go_round
      case rel => exact ⟨k + 1, by omega, by go_num, HC7.out⟩
      case measure => simp [intOf]; omega
    · have hkl : k = 2 := by omega
      subst hkl
      go_wp2_with fail
      refine (HAL.out wr).mono ?_
      rintro _ W9 ⟨rfl, hb9⟩
      have HB9 := hid (Bn (HBW.out.trans (HB.out.mono HBW.out.size)) hb9)
      clear hb9
      go_wp2
      go_ret
      exact ⟨rfl, HB9.out⟩
set_option maxRecDepth 100000 in
theorem lifted (os : Os) (started : os.Started) (H : Type) (enc : TypeId × Value → H) :
    ReturnsInHanded {} Try.checked os 8 .any (Rows.namesNobodySpec.pre6 enc Try.prog Try.f8 Rows.namesNobodyRow.domain false) (Rows.namesNobodySpec.post enc Try.prog Try.f8 false true false false) := by
  refine returnsInHanded_of_change (C := Try.checked) own started (by kernel_rfl) Try.func8
    (ChangeSpec.witness6 (enc := enc) (C := Try.checked) false ⟨#[], #[.agg #[.int .i64 0, .int .i64 0, .int .u8 0, .int .u8 0, .int .u8 0, .int .u8 0, .int .u8 0, .int .u8 0, .int .u8 0, .int .u8 0, .int .u8 0, .int .u8 0, .int .u8 0, .int .u8 0, .int .u8 0, .int .u8 0, .int .u8 0, .int .u8 0, .int .u8 0, .int .u8 0, .int .u8 0, .int .u8 0, .int .u8 0, .int .u8 0, .int .u8 0, .int .u8 0, .int .u8 0, .int .u8 0, .int .u8 0, .int .u8 0, .int .u8 0, .int .u8 0, .int .u8 0, .int .u8 0, .int .i64 0, .int .i64 0, .string ⟨#[]⟩, .slice none 0 0], .string ⟨#[]⟩], []⟩ 8 (by kernel_rfl) (by kernel_rfl) (by kernel_rfl) (by kernel_rfl)) ?_
  intro W base args ds gs before hval0 hW _ _
  have hval : ∀ (j : Nat) t v, Try.f8.params[j]? = some t → args[j]? = some v → Value.okWide Try.prog W .any base t v := hval0
  have hW' := hW
  obtain ⟨p, q, hA0, hV, rfl, _, _⟩ := hW
  have hA : DataW.TrodAll enc Try.prog W 0 (fun _ => true) true Try.f8.params.toList args.toList ds p := hA0
  rw [Try.params8] at hA hval
  obtain ⟨v0, vs0, d0, ds0, p0, q0, hargs, rfl, rfl, h0, r0⟩ := trodAll_cons hA
  obtain ⟨v1, vs1, d1, ds1, p1, q1, rfl, rfl, rfl, h1, r1⟩ := trodAll_cons r0
  obtain ⟨rfl, rfl, rfl⟩ := trodAll_nil r1
  obtain rfl : args = #[v0, v1] := by cases args; simp_all
  obtain ⟨rfl, rfl⟩ := trodVars_none hV
  clear hA0
  simp only [List.append_nil] at hW'
  have hlt0 : ∀ x ∈ p0, x.block < W.heap.size := fun x hx => hW'.lt x (by simp [hx])
  have hk0 := h0
  obtain ⟨x0, rfl, hr0⟩ := open_rec (hval 0 36 v0 rfl rfl) h0 hlt0
  have hlt1 : ∀ x ∈ p1, x.block < W.heap.size := fun x hx => hW'.lt x (by simp [hx])
  have hk1 := h1
  obtain ⟨x1, rfl, hr1⟩ := open_str (hval 1 9 v1 rfl rfl) h1
  clear hval0
  refine (walk x0 x1 W hr0 hr1).mono fun e W' ⟨he, hb⟩ => ?_
  subst he
  exact ⟨_, rfl, _, _, _, [] ++ [], _, [], hW', trodAll_cons_mk (shut_bool Try.underlying4 _) trodAll_mk0, (trodAll_cons_mk (Below.trod Try.laidOut (by kernel_rfl) (of_decide_eq_true (by kernel_rfl)) hk0 hb hlt0) (trodAll_cons_mk (Below.trod Try.laidOut (by kernel_rfl) (of_decide_eq_true (by kernel_rfl)) hk1 hb hlt1) trodAll_mk0)), rfl, hb.frame _, fun h => by cases h⟩

theorem over : Rows.namesNobodyRow.holds Try.pinned (OpenSpec.ofChange Rows.namesNobodySpec) :=
  OpenClaim.holds_of_wide 8 Try.f8 rfl rfl rfl rfl rfl rfl rfl ⟨rfl, rfl, rfl, rfl, rfl⟩ rfl rfl rfl rfl rfl (by kernel_rfl) Try.func8 (by kernel_rfl)
    (of_decide_eq_true (by kernel_rfl)) (by unfold Func.isWrapper; first | (rw [if_pos (by decide +kernel)]; kernel_rfl) | (rw [if_neg (by decide +kernel)]; exact ⟨rfl, rfl⟩))
    (fun os started H enc _ => lifted os started H enc)

end Go.Proofs.Ytcbjlnabbfkkeaa.namesNobody
namespace Go.Proofs.Ytcbjlnabbfkkeaa
theorem namesNobody_holds : Rows.NamesNobodySaid := namesNobody.over
#print axioms namesNobody_holds
end Go.Proofs.Ytcbjlnabbfkkeaa
