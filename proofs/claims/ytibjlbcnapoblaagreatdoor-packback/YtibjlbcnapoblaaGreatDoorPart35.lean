/-
 alive, and cut.
-/
import Derived.Test.YtibjlbcnapoblaaGreatDoorPart34
import Derived.Test.YtibjlbcnapoblaaGreatDoorPart25
import Derived.Test.YtibjlbcnapoblaaGreatDoorTie
import Derived.Test.YtibjlbcnapoblaaGreatDoorCards
import Derived.LaidMore
import Derived.Lib.LaidTab
import Derived.Stop.Joined
namespace Go.Proofs.YtibjlbcnapoblaaGreatDoor
open Go.RowKit Hf Lz

theorem a_enc : encB [97] = [0, 1, 97] := by decide +kernel
theorem a_isC : isC ([97] : List Int).length = true := by decide
theorem a_len : (pakB [97]).length = 512 := by rw [pak_len, a_enc]; rfl
theorem a_8 : Bytes8 [97] := fun j => by
 match j with
 | 0 => rfl
 | j + 1 => simp; exact wf_zero _
theorem a_head : (pakB [97]).take 8 = [83, 67, 72, 75, 1, 0, 3, 0] := by
 unfold pakB hedB
 rw [a_enc]
 rfl
theorem a_str : strOfNums [83, 67, 72, 75, 1, 0, 3, 0] = ⟨#[83, 67, 72, 75, 1, 0, 3, 0]⟩ := by decide +kernel
theorem a_one : strOfNums [97] = ⟨#[97]⟩ := by decide +kernel
theorem ri_made (bs : List Int) (h8 : Bytes8 bs) (hn : bs.length ≤ 10000) (w : World) : Ri (w.alloc (.cells (u8A bs) 5)) .u8 (some ⟨w.heap.size, 0, none⟩) bs.length bs := by
 refine ⟨Nat.le_refl _, by unfold maxLen; omega, fun _ => ⟨w.heap.size, 0, rfl, by simp, fun j hj => ?_⟩, h8⟩
 rw [Nat.zero_add, Joins.cell_of_block (heap_alc w _) j]
 simp [u8A, List.getD, List.getElem?_eq_getElem hj]
theorem enc_u8 (bs : List Int) (h8 : Bytes8 bs) (hn : bs.length ≤ 4096) : ∀ j, (Lit.int .u8 ((encB bs).getD j 0)).wf = true := by
 obtain ⟨e, w', _, ⟨_, _, _, _, h⟩, _⟩ := cenc_word _ _ bs _ (ri_made bs h8 (by omega) default) (by omega) []
 exact h.fits
theorem pak_u8 (bs : List Int) (h8 : Bytes8 bs) (hn : bs.length ≤ 4096) : ∀ j, (Lit.int .u8 ((pakB bs).getD j 0)).wf = true := by
 unfold pakB
 have hd8 : ∀ j, (Lit.int .u8 ((digL bs).getD j 0)).wf = true := fun j => wf_mk_u8 (digL_u8 bs j).1 (digL_u8 bs j).2
 refine u8_app (u8_app (u8_app (hedB_u8 _ _ _ hd8) (leL_u8 4 _)) (enc_u8 bs h8 hn)) (fun j => ?_)
 have : (List.replicate (512 * blkN (encB bs).length - 44 - (encB bs).length) (0 : Int)).getD j 0 = 0 := by
   simp only [List.getD, List.getElem?_replicate]
   split <;> rfl
 rw [this]; exact wf_zero _
set_option maxHeartbeats 3200000 in
set_option maxRecDepth 100000 in
theorem pcut_word (a : Option Addr) (cap n : Nat) (zs : List Int) (w : World) (hr : Ri w .u8 a cap zs) (hn : n ≤ 10000) :
   Calls Tryz.prog 9 #[.slice a zs.length cap, .int .i64 (n : Int)] w fun e w' => e = .returned (.slice a (zs.take n).length cap) ∧ w' = w := by
 have hroom := hr.room
 by_cases h : n < zs.length
 · obtain ⟨b, off, rfl, _, _⟩ := hr.cells (by omega)
   have hl : (zs.take n).length = n := by simp; omega
   rw [hl]
   generalize zs.length = L at *
   have h1 : (n : Int) < (L : Int) := by omega
   have h2 : n ≤ cap := by omega
   clear hr hl
   go_enter Tryz.func9, Tryz.ntmps9
   go_wp2
   go_ret
   exact ⟨rfl, rfl⟩
 · have hl : (zs.take n).length = zs.length := by simp; omega
   rw [hl]
   generalize zs.length = L at *
   have h1 : ¬ (n : Int) < (L : Int) := by omega
   clear hr hl
   go_enter Tryz.func9, Tryz.ntmps9
   go_wp2
   go_ret
   exact ⟨rfl, rfl⟩
set_option maxHeartbeats 3200000 in
set_option maxRecDepth 100000 in
theorem alive_pk (w : World) (hL : Sh.Laid w) : Calls Tryz.prog 15 #[] w fun e w' => e = .returned (.bool true) ∧ Below w.heap.size w w' := by
 have kc := Joins.run_convert_bytes_const_at (P := Tryz.prog) w 22 5 #[.int .u8 97] 1 1 w.heap.size rfl Tryz.underlying22 Tryz.underlying5
 have hb0 := bel_alc w (.cells #[.int .u8 97] 5 (1, 2))
 have e0 := heap_alc w (.cells #[.int .u8 97] 5 (1, 2))
 have hri : Ri (w.alloc (.cells #[.int .u8 97] 5 (1, 2))) .u8 (some ⟨w.heap.size, 0, none⟩) 1 [97] := by
   refine ⟨Nat.le_refl _, by unfold maxLen; omega, fun _ => ⟨w.heap.size, 0, rfl, by simp, fun j hj => ?_⟩, a_8⟩
   have : j = 0 := by simp at hj; omega
   subst this
   exact Joins.cell_of_block e0 0
 have HBY : Hid (Calls Tryz.prog 10 #[.slice (some ⟨w.heap.size, 0, none⟩) 1 1] (w.alloc (.cells #[.int .u8 97] 5 (1, 2))) (BytPk [97] (w.alloc (.cells #[.int .u8 97] 5 (1, 2))))) := bytes_pk _ _ [97] _ hri (by decide) (hL.later hb0)
 unfold BytPk at HBY
 have HB0 := hid hb0
 have HL := hid hL
 obtain ⟨P, hP⟩ : ∃ P, P = pakB [97] := ⟨_, rfl⟩
 rw [← hP] at HBY
 have HPL : Hid (P.length = 512) := by show _ = _; rw [hP]; exact a_len
 have HP8 : Hid (∀ j, (Lit.int .u8 (P.getD j 0)).wf = true) := by rw [hP]; exact pak_u8 [97] a_8 (by decide)
 have HRD : Hid (redO P = (0, [97], 1)) := by
   have := red_pak [97] a_8 a_isC []
   rw [List.append_nil, a_enc, ← hP] at this
   exact this
 have HTK : Hid (strOfNums (P.take 8) = ⟨#[83, 67, 72, 75, 1, 0, 3, 0]⟩) := by show _ = _; rw [hP, a_head, a_str]
 clear hb0 e0 hri hL hP
 go_enter Tryz.func15, Tryz.ntmps15
 go_wp2_with fail
 refine HBY.out.mono ?_
 rintro _ W1 ⟨hb1, ⟨h, _⟩ | ⟨_, v, rfl, ho⟩⟩
 · cases h
 obtain ⟨a1, c1, rfl, hr1⟩ := Ri.own ho HP8.out
 have HB1 := hid (Bn HB0.out hb1)
 have HRP := hid (read_pk a1 c1 P W1 hr1 (by rw [HPL.out]; decide) (HL.out.later HB1.out))
 unfold RedPost at HRP
 rw [HRD.out] at HRP
 have HI1 := hid hr1
 have hroom := hr1.room
 rw [HPL.out] at HRP hroom ⊢
 clear hb1 ho hr1 HBY kc
 go_wp2_with fail
 refine HRP.out.mono ?_
 rintro _ W2 ⟨hb2, ⟨h, _⟩ | ⟨_, a2, c2, rfl, hr2⟩⟩
 · exact absurd rfl h
 have HB2 := hid (Bn HB1.out hb2)
 have t1 := (HI1.out.take 8).text W2 hb2
 have t2 : (convert 22 9 (.slice a2 1 c2)).run Tryz.prog W2 = .ok (.string (strOfNums [97])) W2 := hr2.text W2 (Below.refl _ _)
 rw [HTK.out, show (P.take 8).length = 8 from by have := HPL.out; simp; omega] at t1
 dsimp only
 rw [a_one] at t2
 have h8 : 8 ≤ c1 := by omega
 clear hb2 hr2 HRP HRD HI1
 go_wp2_with fail
 go_ret
 exact ⟨rfl, HB2.out⟩
end Go.Proofs.YtibjlbcnapoblaaGreatDoor
/-
 What the rows' condition on the program's two tables gives.
-/
namespace Go.Proofs.YtibjlbcnapoblaaGreatDoor
open Go.ChangeShapes Go.WideShapes Go.ChangeAt Go.RowKit Sh.Sha

def laidL : List (String × DataW Unit) := [("saltern/sha.start", Rows.laid_saltern_sha_start), ("saltern/sha.constants", Rows.laid_saltern_sha_constants)]
theorem own : ownKnob Tryz.prog.godebug = none := by kernel_rfl
theorem gStart : Tryz.prog.globalNamed "saltern/sha.start" = some 0 := by kernel_rfl
theorem gConst : Tryz.prog.globalNamed "saltern/sha.constants" = some 1 := by kernel_rfl
theorem tStart : (Tryz.prog.globals[0]?).map (·.type) = some 95 := by kernel_rfl
theorem tConst : (Tryz.prog.globals[1]?).map (·.type) = some 138 := by kernel_rfl
theorem Tryz.cells56 : Tryz.prog.cellsOf 56 = 1 := by kernel_rfl
theorem Tryz.cells95 : Tryz.prog.cellsOf 95 = 8 := by kernel_rfl
theorem Tryz.cells138 : Tryz.prog.cellsOf 138 = 64 := by kernel_rfl
theorem door_met (os : Os) (args : Array Value) : laidMetH Tryz.prog laidL ((World.doorLaid Tryz.prog 400 os).forCall (fun _ _ => 0) ⟨#[], args, []⟩).memory :=
 laidMetH_of_parts3 (fuel := 8) (laidMet_of_run' 8 (by kernel_rfl) (by kernel_rfl)) (by kernel_rfl) (by kernel_rfl)
set_option maxHeartbeats 3200000 in
set_option maxRecDepth 100000 in
theorem of_laid {W : World} (h : laidMetH Tryz.prog laidL W) : Sh.Laid W := by
 rw [MakeChecks.laidMetH_plain _ _ _ (by kernel_rfl)] at h
 obtain ⟨ps, ⟨g0, t0, cs0, f0, p0, q0, hg0, ht0, hv0, hd0, ⟨g1, t1, cs1, f1, p1, q1, hg1, ht1, hv1, hd1, _, _⟩, _⟩, _, _⟩ := h
 obtain rfl := Option.some.inj (gStart.symm.trans hg0)
 obtain rfl := Option.some.inj (gConst.symm.trans hg1)
 obtain rfl := Option.some.inj (tStart.symm.trans ht0)
 obtain rfl := Option.some.inj (tConst.symm.trans ht1)
 have e0 := Lib.cells_of_tab (zs := Sh.ints Sh.Sha.start.list) Tryz.underlying95 Tryz.underlying56 Tryz.cells56 Tryz.cells95 hd0
 have e1 := Lib.cells_of_tab (zs := Sh.ints Sh.Sha.kL) Tryz.underlying138 Tryz.underlying56 Tryz.cells56 Tryz.cells138 hd1
 have c0 : ∀ i, W.cell? ⟨0, i, none⟩ = ((Sh.ints Sh.Sha.start.list).map fun z => Value.int .u32 z)[i]? := fun i => by
   have := World.var?_cell hg0 hv0 i
   rw [this, ← e0]; simp
 have c1 : ∀ i, W.cell? ⟨1, i, none⟩ = ((Sh.ints Sh.Sha.kL).map fun z => Value.int .u32 z)[i]? := fun i => by
   have := World.var?_cell hg1 hv1 i
   rw [this, ← e1]; simp
 refine ⟨fun i hi => ?_, fun i hi => ?_, ?_⟩
 · rw [c1 i]
   simp [Sh.ints, List.getD, List.getElem?_eq_getElem (show i < Sh.Sha.kL.length from hi)]
 · rw [c0 i]
   simp [Sh.ints, List.getD, List.getElem?_eq_getElem (show i < Sh.Sha.start.list.length from hi)]
 · have := World.block_lt_of_cell? W ⟨1, 0, none⟩ (c1 0)
   exact this
theorem own_app (w : World) {ops : Array Oper} {rest : List Oper} {o : Oper} {ac : Act} {Q : Exit → Act → World → Prop} (hgd : o.guard = none) (s x : Operand)
   (ho : o.op = .call { callee := .builtin .append, args := #[s, x], argTypes := #[22, 22] }) (B : Nat) (v : Value) (l : List Int) (hs : ac.eval s = v) (hown : w.ownsRow B 5 1 v l.length (l.map (Value.int .u8)))
   (a : Option Addr) (cap : Nat) (zs : List Int) (hx : ac.eval x = .slice a zs.length cap) (hrd : Ri w .u8 a cap zs) (hbd : l.length + zs.length ≤ 1000000) (hB : B ≤ w.heap.size)
   (h : ∀ v' w', w'.ownsRow B 5 1 v' (l ++ zs).length ((l ++ zs).map (Value.int .u8)) → Below B w w' → wpList Tryz.prog ops Q rest (ac.put o.dst v') w') : wpList Tryz.prog ops Q (o :: rest) ac w :=
 app_any w hgd s x ho B v l hs hown a cap zs hx hrd (by omega) hB (fun v' w' h1 h2 => h v' w' h1 ((Below.refl B w).grown h2 hB (fun j hj => (hown.lt j hj).1)))
theorem own_none (w : World) : (w.alloc (.cells #[] 5)).ownsRow w.heap.size 5 1 (.slice (some ⟨w.heap.size, 0, none⟩) 0 0) ([] : List Int).length (([] : List Int).map (Value.int .u8)) :=
 ⟨rfl, .inr ⟨w.heap.size, 0, #[], rfl, Nat.le_refl _, heap_alc w _, Nat.le_refl _, by unfold maxLen; omega, rfl, rfl⟩⟩
theorem ischunk_ref (a : Option Addr) (cap n : Nat) (w : World) (hn : n ≤ 1000000) : Calls Tryz.prog 20 #[.slice a n cap] w fun e w' => e = .returned (.bool (isC n)) ∧ w' = w := by
 unfold isC
 by_cases h1 : 1 ≤ n
 · have e1 : (1 : Int) ≤ (n : Int) := by omega
   by_cases h2 : n ≤ 4096
   · have e2 : (n : Int) ≤ 4096 := by omega
     rw [decide_eq_true (show 1 ≤ n ∧ n ≤ 4096 from ⟨h1, h2⟩)]
     go_enter Tryz.func20, Tryz.ntmps20
     go_wp2
     go_ret
     exact ⟨rfl, rfl⟩
   · have e2 : ¬ (n : Int) ≤ 4096 := by omega
     rw [decide_eq_false (show ¬ (1 ≤ n ∧ n ≤ 4096) from fun h => h2 h.2)]
     go_enter Tryz.func20, Tryz.ntmps20
     go_wp2
     go_ret
     exact ⟨rfl, rfl⟩
 · have e1 : ¬ (1 : Int) ≤ (n : Int) := by omega
   rw [decide_eq_false (show ¬ (1 ≤ n ∧ n ≤ 4096) from fun h => h1 h.1)]
   go_enter Tryz.func20, Tryz.ntmps20
   go_wp2
   go_ret
   exact ⟨rfl, rfl⟩
theorem run_eql_op {P : Program} {oi : Oper} {ρ : Operand → Value} {t t2 : TypeId} {x y : Operand} (ho : oi.op = .binOp .eql t x y t2) {xs ys : Array Value} {b : Bool} (hx : ρ x = .agg xs) (hy : ρ y = .agg ys) (hg : P.eqGuardType P.depth t = false) {w : World}
   (h : (Op.equalIn 10000 t (.agg xs) (.agg ys)).run P w = .ok b w) : (execOp ρ oi).run P w = .ok (.value (.bool b)) w := by
 unfold execOp
 simp only [ho, hx, hy, Sem.run_bind, run_eqGuard_agg w .eql t x y xs ys hg, run_eql_struct w t xs ys, h, Result.andThen_ok]
 rfl
end Go.Proofs.YtibjlbcnapoblaaGreatDoor
