/-
 PackHeads is proved for every input, as a tied card: what Head tells is what the document says; no condition but that the tables of package sha start as the text lays them.
-/
import Derived.Test.YtibjlbcnapoblaaGreatDoorPart36
namespace Go.Proofs.YtibjlbcnapoblaaGreatDoor.packHeads
open Go.ChangeShapes Go.WideShapes Go.ChangeAt Go.RowKit Hf Lz

theorem wpList_eql_agg {P : Program} {ops : Array Oper} {rest : List Oper} {o : Oper} {a : Act} {w : World} {Q : Exit → Act → World → Prop} (hg : o.guard = none) (t t2 : TypeId) (x y : Operand) (ho : o.op = .binOp .eql t x y t2) (xs ys : Array Value) (b : Bool)
   (hx : a.eval x = .agg xs) (hy : a.eval y = .agg ys) (hgt : P.eqGuardType P.depth t = false) (h : (Op.equalIn 10000 t (.agg xs) (.agg ys)).run P w = .ok b w) (hK : wpList P ops Q rest (a.put o.dst (.bool b)) w) : wpList P ops Q (o :: rest) a w :=
 wpList_plain hg fun K hK' => by
   unfold Oper.wp
   rw [run_eql_op ho hx hy hgt h]
   exact hK' _ _ hK
theorem hed_len (zs : List Int) : (hedO zs).1.length = 32 := by
 unfold hedO
 split
 · rfl
 · rename_i n k d s ho
   obtain ⟨h44, _, _, _, _, hdd⟩ := opn_rng ho
   show d.length = 32
   rw [hdd]; simp; omega
set_option maxHeartbeats 3200000 in
set_option maxRecDepth 100000 in
theorem walk (a : Option Addr) (c0 : Nat) (l0 : List Int) (w : World) (hL : Sh.Laid w) (hr : Ri w .u8 a c0 l0) :
   Calls Tryz.prog 4 #[.slice a l0.length c0] w fun e w' => e = .returned (.bool true) ∧ Below w.heap.size w w' := by
 have C1 := hid (pcut_word a c0 2100 l0 w hr (by decide))
 have hn1 : (l0.take 2100).length ≤ 2100 := List.length_take_le _ _
 have r1 := hr.take 2100
 generalize l0.take 2100 = zs at *
 have HAW : Hid (∀ V, Below w.heap.size w V → Calls Tryz.prog 15 #[] V fun e w' => e = .returned (.bool true) ∧ Below V.heap.size V w') := fun V hV => alive_pk V (hL.later hV)
 have HHP := hid (head_pk a c0 zs w r1)
 have HRF : Hid (∀ V, Below w.heap.size w V → Calls Tryz.prog 17 #[.slice a zs.length c0] V fun e w' => e = .returned (.tuple #[.agg (u8A (hedO zs).1), .int .i64 ((hedO zs).2.1 : Int), .int .i64 (hedO zs).2.2]) ∧ Below V.heap.size V w') := fun V hV => head_ref a c0 zs V (r1.later hV) (by omega)
 have HDL := hid (hed_len zs)
 generalize (hedO zs).1 = d at *
 generalize (hedO zs).2.1 = m at *
 generalize (hedO zs).2.2 = x at *
 generalize zs.length = L at *
 generalize l0.length = L0 at *
 clear hr r1 hL
 go_enter Tryz.func4, Tryz.ntmps4
 go_wp2_with fail
 refine C1.out.mono ?_
 rintro _ w0 ⟨rfl, hw⟩
 obtain rfl := hw.symm
 clear hw C1
 go_wp2_with fail
 refine HHP.out.mono ?_
 rintro _ W5 ⟨rfl, hb5⟩
 have V5 := hid hb5
 have E5 := hid (heap_alc W5 (.cells (u8A z32) 37))
 have B5 := hid (bel_alc W5 (.cells (u8A z32) 37))
 have HZ37 : Hid ((u8A z32).size = 32) := rfl
 have E6 : Hid (((W5.alloc (.cells (u8A z32) 37)).setRow W5.heap.size (u8A d)).heap[W5.heap.size]? = some (.cells (u8A d) 37)) := setRow_heap _ _ _ _ _ _ E5.out
 have V6 : Hid (Below W5.heap.size W5 ((W5.alloc (.cells (u8A z32) 37)).setRow W5.heap.size (u8A d))) := below_setRow B5.out (Nat.le_refl _) _
 have HR7 := hid (HRF.out _ (Bn V5.out V6.out))
 clear hb5 HHP HRF
 go_wp2_with (first
   | (refine wpList_alloc_at rfl 37 rfl (some 3) rfl (u8A z32) Tryz.zero37p W5.heap.size rfl ?_)
   | (refine wpList_store_rowTo rfl 37 _ _ rfl rfl W5.heap.size (u8A d) rfl rfl 37 _ E5.out (by rw [u8A_size, HDL.out]; exact Tryz.size37p) (by rw [HZ37.out, u8A_size, HDL.out]) (u8A_one _) ?_))
 clear E5 B5
 have V7 := hid (Bn V5.out V6.out)
 have HG : Hid (W5.heap.size < ((W5.alloc (.cells (u8A z32) 37)).setRow W5.heap.size (u8A d)).heap.size) := (Array.getElem?_eq_some_iff.1 E6.out).1
 generalize (W5.alloc (.cells (u8A z32) 37)).setRow W5.heap.size (u8A d) = W7 at *
 generalize W5.heap.size = g at *
 refine HR7.out.mono ?_
 rintro _ W8 ⟨rfl, hb8⟩
 have E8 := hid (heap_alc W8 (.cells (u8A z32) 36))
 have B8 := hid (bel_alc W8 (.cells (u8A z32) 36))
 have E9 : Hid (((W8.alloc (.cells (u8A z32) 36)).setRow W8.heap.size (u8A d)).heap[W8.heap.size]? = some (.cells (u8A d) 36)) := setRow_heap _ _ _ _ _ _ E8.out
 have V9 : Hid (Below W8.heap.size W8 ((W8.alloc (.cells (u8A z32) 36)).setRow W8.heap.size (u8A d))) := below_setRow B8.out (Nat.le_refl _) _
 have E10 : Hid (((W8.alloc (.cells (u8A z32) 36)).setRow W8.heap.size (u8A d)).heap[g]? = some (.cells (u8A d) 37)) := ((Bn hb8 V9.out).block _ HG.out).trans E6.out
 have V10 := hid (Bn V7.out (Bn hb8 V9.out))
 clear hb8 HR7 V5 V6 V7 E6 HG
 have HEQ : Hid (∀ V, (Op.equalIn 10000 37 (.agg (u8A d)) (.agg (u8A d))).run Tryz.prog V = .ok true V) := fun V => by
   have := eq37 d d HDL.out HDL.out V
   rwa [decide_eq_true rfl] at this
 have HAL := hid (HAW.out _ V10.out)
 go_wp2_with (first
   | (refine wpList_alloc_at rfl 36 rfl (some 6) rfl (u8A z32) Tryz.zero36p W8.heap.size rfl ?_)
   | (refine wpList_store_rowTo rfl 36 _ _ rfl rfl W8.heap.size (u8A d) rfl rfl 36 _ E8.out (by rw [u8A_size, HDL.out]; exact Tryz.size36p) (by rw [HZ37.out, u8A_size, HDL.out]) (u8A_one _) ?_)
   | (refine wpList_load_row rfl 37 _ rfl g rfl 37 (u8A d) (0, 0) _ E10.out Tryz.underlying37 rfl (by rw [u8A_size, HDL.out]; exact Tryz.size37p) ?_)
   | (refine wpList_load_row rfl 36 _ rfl W8.heap.size rfl 36 (u8A d) (0, 0) _ E9.out Tryz.underlying36 rfl (by rw [u8A_size, HDL.out]; exact Tryz.size36p) ?_)
   | (refine wpList_eql_agg rfl 37 37 (.tmp 23) (.tmp 24) rfl (u8A d) (u8A d) true rfl rfl guard37 (HEQ.out _) ?_))
 refine HAL.out.mono ?_
 rintro _ W11 ⟨rfl, hb11⟩
 have HB11 := hid (Bn V10.out hb11)
 clear hb11 HAL HAW V10 E10 E9 E8 V9 B8
 go_wp2_with fail
 go_ret
 exact ⟨rfl, HB11.out⟩

set_option maxRecDepth 100000 in
theorem lifted (os : Os) (started : os.Started) (H : Type) (enc : TypeId × Value → H) :
   ReturnsInHanded {} Tryz.checked os 4 .any (fun w args => (Rows.packHeadsSpec.pre enc Tryz.prog Tryz.f4 [] false w args ∧ laidMetH Tryz.prog laidL w) ∧ sizedMet enc Tryz.prog Tryz.f4 (OpenSpec.ofChange Rows.packHeadsSpec) false w args)
     (Rows.packHeadsSpec.post enc Tryz.prog Tryz.f4 false true false false) := by
 refine returnsInHanded_of_change_and (C := Tryz.checked) (X := fun w _ => laidMetH Tryz.prog laidL w) (fun _ _ _ hh h => h.of_heap hh) own started (by kernel_rfl) Tryz.func4
   (ChangeSpec.witness_shaped (enc := enc) (C := Tryz.checked) (os := os) (X := fun w _ => laidMetH Tryz.prog laidL w) false (World.doorLaid Tryz.prog 400 os) #[.slice none 0 0] 8 rfl (World.shaped_of_RefB (by kernel_rfl) (by kernel_rfl)) (by kernel_rfl) (by kernel_rfl) (by kernel_rfl) (door_met os _)) ?_
 intro W base args ds gs before hval0 hW _ _ hL _
 have hval : ∀ (j : Nat) t v, Tryz.f4.params[j]? = some t → args[j]? = some v → Value.okWide Tryz.prog W .any base t v := hval0
 have hW' := hW
 obtain ⟨p, q, hA0, hV, rfl, _, _⟩ := hW
 have hA : DataW.TrodAll enc Tryz.prog W 0 (fun _ => true) true Tryz.f4.params.toList args.toList ds p := hA0
 rw [Tryz.params4] at hA hval
 obtain ⟨v0, vs0, d0, ds0, p0, q0, hargs, rfl, rfl, h0, r0⟩ := trodAll_cons hA
 obtain ⟨rfl, rfl, rfl⟩ := trodAll_nil r0
 obtain rfl : args = #[v0] := by cases args; simp_all
 obtain ⟨rfl, rfl⟩ := trodVars_none hV
 have hlaid := of_laid hL
 clear hA0
 simp only [List.append_nil] at hW'
 have hlt0 : ∀ x ∈ p0, x.block < W.heap.size := fun x hx => hW'.lt x (by simp [hx])
 have hk0 := h0
 obtain ⟨a0, cap0, l0, rfl, hr0⟩ := open_ri Tryz.underlying22 Tryz.underlying5 Tryz.cells5 (hval 0 22 v0 rfl rfl) h0 hlt0
 clear hval0
 refine (walk a0 cap0 l0 W hlaid hr0).mono fun e W' ⟨he, hb⟩ => ?_
 subst he
 exact ⟨_, rfl, _, _, _, [] ++ [], _, [], hW', trodAll_cons_mk (shut_bool Tryz.underlying4 _) trodAll_mk0, (trodAll_cons_mk (Below.trod Tryz.laidOut (by kernel_rfl) (of_decide_eq_true (by kernel_rfl)) hk0 hb hlt0) trodAll_mk0), rfl, hb.frame _, fun h => by cases h⟩

theorem over : Rows.packHeadsRow.holds Tryz.pinned (OpenSpec.ofChange Rows.packHeadsSpec) :=
 OpenClaim.holds_of_wide 4 Tryz.f4 rfl rfl rfl rfl rfl rfl rfl ⟨rfl, rfl, rfl, rfl, rfl⟩ rfl rfl rfl rfl rfl (by kernel_rfl) Tryz.func4 (by kernel_rfl)
   (of_decide_eq_true (by kernel_rfl)) (by unfold Func.isWrapper; first | (rw [if_pos (by decide +kernel)]; kernel_rfl) | (rw [if_neg (by decide +kernel)]; exact ⟨rfl, rfl⟩))
   (fun os started H enc _ => lifted os started H enc)

theorem card : Rows.PackHeadsCardSaid :=
 Claim7.holds_tied_plain_at .later [] [.data, .data] true (true, "633fa4ac238961f8ea75229e9571942cafb5f99988f42aab7627898757faa6c6") true
   over (fun _ h => by cases h) (by kernel_rfl) (fun _ h => by cases h) packHeads_row_tie rfl ⟨rfl, rfl⟩ (by kernel_rfl) rfl
   (fun f fn hf hfn => by
     obtain rfl : f = 4 := Option.some.inj ((show Tryz.prog.funcNamed "saltern/salternlaw11.PackHeads" = some 4 by kernel_rfl).symm.trans hf) |>.symm
     obtain rfl : fn = Tryz.f4 := (Option.some.inj (Tryz.func4.symm.trans hfn)).symm
     exact ⟨by kernel_rfl, fun j t ht => by
       rw [Tryz.params4] at ht
       have hm : t ∈ [22] := by simpa using Array.mem_of_getElem? ht
       have hall : ([22].all fun u => !Tryz.prog.wantsStandIn u) = true := by kernel_rfl
       exact (show Tryz.prog.wantsStandIn t = false by simpa using List.all_eq_true.1 hall t hm)⟩)
   (by kernel_rfl)

end Go.Proofs.YtibjlbcnapoblaaGreatDoor.packHeads
namespace Go.Proofs.YtibjlbcnapoblaaGreatDoor
theorem packHeads_holds : Rows.PackHeadsCardSaid := packHeads.card
#print axioms packHeads_holds
end Go.Proofs.YtibjlbcnapoblaaGreatDoor
