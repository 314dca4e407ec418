/-
  MacNobody: a Mac that is nil, or that nobody made, refuses all with ErrNil; where the program's tables are as its text lays them.
-/
import Derived.Test.YtkipepodgmfbnabDoorNobodyW
namespace Go.Proofs.YtkipepodgmfbnabDoor.macNobody
open Go.ChangeShapes Go.WideShapes Go.ChangeAt Go.RowKit Sha

set_option maxHeartbeats 1600000 in
set_option maxRecDepth 100000 in
theorem walk (b : Option Addr) (cap : Nat) (ys : List Nat) (W : World) (hl : Laid W) :
    Calls Tryd.prog 4 #[.slice b ys.length cap] W fun e w' => e = .returned (.bool true) ∧ Below W.heap.size W w' := by
  have h0 := Tryd.zero39
  have b1 := bel_alloc W (.cells ZM 39)
  have e1 := heap_new W (.cells ZM 39)
  have s1 : (W.alloc (.cells ZM 39)).heap.size = W.heap.size + 1 := by simp
  have b2 := bel_alloc (W.alloc (.cells ZM 39)) (.cells #[.pointer none, .pointer (some ⟨W.heap.size, 0, none⟩)] 30)
  have e2 := heap_new (W.alloc (.cells ZM 39)) (.cells #[.pointer none, .pointer (some ⟨W.heap.size, 0, none⟩)] 30)
  have s2 : ((W.alloc (.cells ZM 39)).alloc (.cells #[.pointer none, .pointer (some ⟨W.heap.size, 0, none⟩)] 30)).heap.size = W.heap.size + 1 + 1 := by simp
  rw [s1] at e2
  have hc0 : ((W.alloc (.cells ZM 39)).alloc (.cells #[.pointer none, .pointer (some ⟨W.heap.size, 0, none⟩)] 30)).cell? ⟨W.heap.size, 64, none⟩ = some (.bool false) := by
    rw [b2.cell (p := ⟨W.heap.size, 64, none⟩) (by show W.heap.size < _; omega), Joins.cell_of_block e1 64]; rfl
  have HB2 := hid (Bn b1 b2)
  have HL := hid hl
  clear hl b1 b2 e1 s1
  generalize ys.length = yn at *
  go_enter Tryd.func4, Tryd.ntmps4
  go_wp2_with fail
  generalize (W.alloc (.cells ZM 39)).alloc (.cells #[.pointer none, .pointer (some ⟨W.heap.size, 0, none⟩)] 30) = W2 at *
  go_loopw [13] (fun i wr => ∃ k : Nat, k ≤ 2 ∧ i = .int .i64 k ∧ Below W2.heap.size W2 wr) (fun i _ => 2 - (intOf i).toNat)
  case atStart => exact ⟨0, by omega, rfl, Below.refl _ _⟩
  case round =>
    obtain ⟨k, hk, rfl, hbel⟩ := hrel
    match k, hk with
    | 0, _ =>
      have hck : wr.cell? ⟨W.heap.size + 1, 0, none⟩ = some (.pointer none) := (hbel.cell (p := ⟨W.heap.size + 1, 0, none⟩) (by show W.heap.size + 1 < _; omega)).trans (by rw [Joins.cell_of_block e2 0]; rfl)
      have hno : NoM wr (.pointer none) := Or.inl rfl
      have HNO := hid hno
      have HSM := hid (sum_no (.pointer none) wr hno)
      clear hno
      go_wp2_with fail
      go_at_call 9
      refine HSM.out.mono ?_
      rintro _ w3 ⟨rfl, hb3⟩
      have e3 := heap_new w3 (.cells (arr .u8 z32) 42)
      have hB3 := bel_alloc w3 (.cells (arr .u8 z32) 42)
      have e4 : ((w3.alloc (.cells (arr .u8 z32) 42)).setRow w3.heap.size (arr .u8 z32)).heap[w3.heap.size]? = some (.cells (arr .u8 z32) 42 (0, 0)) := setRow_heap _ _ _ _ _ _ e3
      have hB4 : Below w3.heap.size w3 ((w3.alloc (.cells (arr .u8 z32) 42)).setRow w3.heap.size (arr .u8 z32)) := below_setRow hB3 (Nat.le_refl _) _
      have hBa := Bn hb3 hB4
      have HN4 := hid (HNO.out.later hBa)
      have HBE := hid (Bn hbel hBa)
      have hz := Tryd.zero42
      have hq := eq25 z32 rfl
      have hg := guard25
      have hl4 : (Instr.loadAt 42 (.pointer (some ⟨w3.heap.size, 0, none⟩))).run Tryd.prog ((w3.alloc (.cells (arr .u8 z32) 42)).setRow w3.heap.size (arr .u8 z32)) = .ok (.agg (arr .u8 z32)) ((w3.alloc (.cells (arr .u8 z32) 42)).setRow w3.heap.size (arr .u8 z32)) := load_whole e4 Tryd.underlying42 rfl Tryd.size42'
      generalize hA : arr .u8 z32 = AZ at *
      have hsz : AZ.size = 32 := by rw [← hA]; rfl
      have h1 : AZ.all (·.oneCell') = true := by rw [← hA]; exact arr_one _ _
      have hasz : (Tryd.prog.info? 42).map (·.size) = some AZ.size := by rw [hsz]; exact Tryd.size42'
      clear hA hb3 hB3 hB4 hBa HSM
      go_wp2_with (first
        | (refine wpList_alloc_at rfl 42 rfl (some 6) rfl AZ hz w3.heap.size rfl ?_)
        | (refine wpList_store_rowTo rfl 42 _ _ rfl rfl w3.heap.size AZ rfl rfl 42 _ e3 hasz rfl h1 ?_))
      generalize (w3.alloc (.cells AZ 42)).setRow w3.heap.size AZ = w4 at *
      go_at_call 10
      refine (write_no (.pointer none) _ w4 HN4.out).mono ?_
      rintro _ w5 ⟨rfl, hw⟩
      obtain rfl := hw.symm
      clear hw
      go_wp2_with (refine wpList_load_wanted (by rfl) 42 _ rfl (.pointer (some ⟨w3.heap.size, 0, none⟩)) (.agg AZ) rfl hl4 ?_)
      exact ⟨⟨0 + 1, by omega, by go_num, HBE.out⟩, by simp [intOf]⟩
    | 1, _ =>
      have hck : wr.cell? ⟨W.heap.size + 1, 1, none⟩ = some (.pointer (some ⟨W.heap.size, 0, none⟩)) := (hbel.cell (p := ⟨W.heap.size + 1, 1, none⟩) (by show W.heap.size + 1 < _; omega)).trans (by rw [Joins.cell_of_block e2 1]; rfl)
      have hno : NoM wr (.pointer (some ⟨W.heap.size, 0, none⟩)) := Or.inr ⟨W.heap.size, rfl, by have := hbel.size; omega, (hbel.cell (p := ⟨W.heap.size, 64, none⟩) (by show W.heap.size < _; omega)).trans hc0⟩
      generalize hpp : (.pointer (some ⟨W.heap.size, 0, none⟩) : Value) = pp at *
      clear hpp
      have HNO := hid hno
      have HSM := hid (sum_no pp wr hno)
      clear hno
      go_wp2_with fail
      go_at_call 9
      refine HSM.out.mono ?_
      rintro _ w3 ⟨rfl, hb3⟩
      have e3 := heap_new w3 (.cells (arr .u8 z32) 42)
      have hB3 := bel_alloc w3 (.cells (arr .u8 z32) 42)
      have e4 : ((w3.alloc (.cells (arr .u8 z32) 42)).setRow w3.heap.size (arr .u8 z32)).heap[w3.heap.size]? = some (.cells (arr .u8 z32) 42 (0, 0)) := setRow_heap _ _ _ _ _ _ e3
      have hB4 : Below w3.heap.size w3 ((w3.alloc (.cells (arr .u8 z32) 42)).setRow w3.heap.size (arr .u8 z32)) := below_setRow hB3 (Nat.le_refl _) _
      have hBa := Bn hb3 hB4
      have HN4 := hid (HNO.out.later hBa)
      have HBE := hid (Bn hbel hBa)
      have hz := Tryd.zero42
      have hq := eq25 z32 rfl
      have hg := guard25
      have hl4 : (Instr.loadAt 42 (.pointer (some ⟨w3.heap.size, 0, none⟩))).run Tryd.prog ((w3.alloc (.cells (arr .u8 z32) 42)).setRow w3.heap.size (arr .u8 z32)) = .ok (.agg (arr .u8 z32)) ((w3.alloc (.cells (arr .u8 z32) 42)).setRow w3.heap.size (arr .u8 z32)) := load_whole e4 Tryd.underlying42 rfl Tryd.size42'
      generalize hA : arr .u8 z32 = AZ at *
      have hsz : AZ.size = 32 := by rw [← hA]; rfl
      have h1 : AZ.all (·.oneCell') = true := by rw [← hA]; exact arr_one _ _
      have hasz : (Tryd.prog.info? 42).map (·.size) = some AZ.size := by rw [hsz]; exact Tryd.size42'
      clear hA hb3 hB3 hB4 hBa HSM
      go_wp2_with (first
        | (refine wpList_alloc_at rfl 42 rfl (some 6) rfl AZ hz w3.heap.size rfl ?_)
        | (refine wpList_store_rowTo rfl 42 _ _ rfl rfl w3.heap.size AZ rfl rfl 42 _ e3 hasz rfl h1 ?_))
      generalize (w3.alloc (.cells AZ 42)).setRow w3.heap.size AZ = w4 at *
      go_at_call 10
      refine (write_no pp _ w4 HN4.out).mono ?_
      rintro _ w5 ⟨rfl, hw⟩
      obtain rfl := hw.symm
      clear hw
      go_wp2_with (refine wpList_load_wanted (by rfl) 42 _ rfl (.pointer (some ⟨w3.heap.size, 0, none⟩)) (.agg AZ) rfl hl4 ?_)
      exact ⟨⟨1 + 1, by omega, by go_num, HBE.out⟩, by simp [intOf]⟩
    | 2, _ =>
      have HE := hid (Bn HB2.out hbel)
      have HA := hid (awake_any wr (HL.out.later HE.out))
      go_wp2_with fail
      go_at_call 5
      refine HA.out.mono ?_
      rintro _ w9 ⟨rfl, hb9⟩
      have HF := hid (Bn HE.out hb9)
      clear hb9
      go_wp2
      go_ret
      exact ⟨rfl, HF.out⟩

set_option maxRecDepth 100000 in
theorem lifted (os : Os) (started : os.Started) (H : Type) (enc : TypeId × Value → H) :
    ReturnsInHanded {} Tryd.checked os 4 .any (fun w args => (Rows.macNobodySpec.pre enc Tryd.prog Tryd.f4 [] false w args ∧ laidMetH Tryd.prog laidL w) ∧ sizedMet enc Tryd.prog Tryd.f4 (OpenSpec.ofChange Rows.macNobodySpec) false w args)
      (Rows.macNobodySpec.post enc Tryd.prog Tryd.f4 false true false false) := by
  refine returnsInHanded_of_change_and (C := Tryd.checked) (X := fun w _ => laidMetH Tryd.prog laidL w) (fun _ _ _ hh h => h.of_heap hh) own started (by kernel_rfl) Tryd.func4
    (ChangeSpec.witness_shaped (enc := enc) (C := Tryd.checked) (os := os) (X := fun w _ => laidMetH Tryd.prog laidL w) false (World.doorLaid Tryd.prog 400 os) #[.slice none 0 0] 8 rfl (World.shaped_of_RefB (by kernel_rfl) (by kernel_rfl)) (by kernel_rfl) (by kernel_rfl) (by kernel_rfl) (door_met os _)) ?_
  intro W base args ds gs before hval0 hW _ _ hL _
  have hval : ∀ (j : Nat) t v, Tryd.f4.params[j]? = some t → args[j]? = some v → Value.okWide Tryd.prog W .any base t v := hval0
  have hW' := hW
  obtain ⟨p, q, hA0, hV, rfl, _, _⟩ := hW
  have hA : DataW.TrodAll enc Tryd.prog W 0 (fun _ => true) true Tryd.f4.params.toList args.toList ds p := hA0
  rw [Tryd.params4] at hA hval
  obtain ⟨v0, vs0, d0, ds0, p0, q0, hargs, rfl, rfl, h0, r0⟩ := trodAll_cons hA
  obtain ⟨rfl, rfl, rfl⟩ := trodAll_nil r0
  obtain rfl : args = #[v0] := by cases args; simp_all
  obtain ⟨rfl, rfl⟩ := trodVars_none hV
  have hlaid := of_laid hL
  clear hA0
  simp only [List.append_nil] at hW'
  have hlt0 : ∀ x ∈ p0, x.block < W.heap.size := fun x hx => hW'.lt x (by simp [hx])
  have hk0 := h0
  obtain ⟨a0, cap0, zs0, rfl, _⟩ := open_rd (hval 0 22 v0 rfl rfl) h0 hlt0
  clear hval0
  refine (walk a0 cap0 zs0 W hlaid).mono fun e W' ⟨he, hb⟩ => ?_
  subst he
  exact ⟨_, rfl, _, _, _, [] ++ [], _, [], hW', trodAll_cons_mk (shut_bool Tryd.underlying4 _) trodAll_mk0, (trodAll_cons_mk (Below.trod Tryd.laidOut (by kernel_rfl) (of_decide_eq_true (by kernel_rfl)) hk0 hb hlt0) trodAll_mk0), rfl, hb.frame _, fun h => by cases h⟩

theorem over : Rows.macNobodyRow.holds Tryd.pinned (OpenSpec.ofChange Rows.macNobodySpec) :=
  OpenClaim.holds_of_wide 4 Tryd.f4 rfl rfl rfl rfl rfl rfl rfl ⟨rfl, rfl, rfl, rfl, rfl⟩ rfl rfl rfl rfl rfl (by kernel_rfl) Tryd.func4 (by kernel_rfl)
    (of_decide_eq_true (by kernel_rfl)) (by unfold Func.isWrapper; first | (rw [if_pos (by decide +kernel)]; kernel_rfl) | (rw [if_neg (by decide +kernel)]; exact ⟨rfl, rfl⟩))
    (fun os started H enc _ => lifted os started H enc)

theorem card : Rows.MacNobodyCardSaid :=
  Claim7.holds_tied_plain_at .later [] [.data, .data] true (true, "8b8df36a7bac5b940c91e262045c667b03ba079ebe8b8c15b58c5cccde6b819a") false
    over (fun _ h => by cases h) (by kernel_rfl) (fun _ h => by cases h) macNobody_row_tie rfl ⟨rfl, rfl⟩ (by kernel_rfl) rfl
    (fun f fn hf hfn => by
      obtain rfl : f = 4 := Option.some.inj ((show Tryd.prog.funcNamed "saltern/salternlaw04.MacNobody" = some 4 by kernel_rfl).symm.trans hf) |>.symm
      obtain rfl : fn = Tryd.f4 := (Option.some.inj (Tryd.func4.symm.trans hfn)).symm
      exact ⟨by kernel_rfl, fun j t ht => by
        rw [Tryd.params4] at ht
        have hm : t ∈ [22] := by simpa using Array.mem_of_getElem? ht
        have hall : ([22].all fun u => !Tryd.prog.wantsStandIn u) = true := by kernel_rfl
        exact (show Tryd.prog.wantsStandIn t = false by simpa using List.all_eq_true.1 hall t hm)⟩)
    (by kernel_rfl)

end Go.Proofs.YtkipepodgmfbnabDoor.macNobody
namespace Go.Proofs.YtkipepodgmfbnabDoor
theorem macNobody_holds : Rows.MacNobodyCardSaid := macNobody.card
#print axioms macNobody_holds
end Go.Proofs.YtkipepodgmfbnabDoor
