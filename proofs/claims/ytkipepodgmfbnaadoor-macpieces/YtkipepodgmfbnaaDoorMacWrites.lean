/-
  MacWrites: a Mac's Sum is, behind each piece, the MAC of all that came; where the program's tables are as its text lays them.
-/
import Derived.Test.YtkipepodgmfbnaaDoorCut
import Derived.Test.YtkipepodgmfbnaaDoorMSum
import Derived.Test.YtkipepodgmfbnaaDoorOpenR
namespace Go.Proofs.YtkipepodgmfbnaaDoor.macWrites
open Go.ChangeShapes Go.WideShapes Go.ChangeAt Go.RowKit Sha

/-- '!=' of two arrays, as an operation. -/
theorem run_neq_op {P : Program} {oi : Oper} {ts : Array Value} {df : List Deferred} {t t2 : TypeId} {x y : Operand} (ho : oi.op = .binOp .neq t x y t2) {xs ys : Array Value} {b : Bool} (hx : Act.eval ⟨ts, df⟩ x = .agg xs) (hy : Act.eval ⟨ts, df⟩ y = .agg ys) (hg : P.eqGuardType P.depth t = false) {w : World}
    (h : (Op.equalIn 10000 t (.agg xs) (.agg ys)).run P w = .ok b w) : (execOp (Act.eval ⟨ts, df⟩) oi).run P w = .ok (.value (.bool (!b))) w := by
  unfold execOp
  simp only [ho, hx, hy, Sem.run_bind, run_eqGuard_agg w .neq t x y xs ys hg, run_neq_struct w t xs ys, h, Result.andThen_ok]
  rfl
theorem own_kept {w w' : World} {B n g : Nat} {v : Value} {xs : List Value} (h : w.ownsRow B 5 1 v n xs) (hg : w.grownBy w' (some g)) (hB : g < B) : w'.ownsRow B 5 1 v n xs := by
  refine ⟨h.1, ?_⟩
  rcases h.2 with h1 | ⟨q, cap, cur, hv, hq, hh, hr⟩
  · exact Or.inl h1
  · exact Or.inr ⟨q, cap, cur, hv, hq, (hg.block q (Array.getElem?_eq_some_iff.1 hh).1 (by intro h; injection h with h; omega)).trans hh, hr⟩
theorem hm_kept {pre : List Value} {w w' : World} {g B : Nat} {msg op : List Nat} (h : Hm pre w g msg op) (hb : Below B w w') (hB : g < B) : Hm pre w' g msg op :=
  ⟨by rw [hb.block g hB]; exact h.blk, h.len, h.lo, h.tk, h.hi⟩

set_option maxHeartbeats 3200000 in
set_option maxRecDepth 100000 in
theorem walk (a : Option Addr) (cap : Nat) (ks : List Nat) (b : Option Addr) (capl : Nat) (l : List (List Nat)) (W : World) (hl : Laid W) (hr : Rd W (.slice a ks.length cap) a cap ks) (hps : Ps W b capl l) :
    Calls Tryd.prog 6 #[.slice a ks.length cap, .slice b l.length capl] W fun e w' => e = .returned (.bool true) ∧ Below W.heap.size W w' := by
  have HAW := hid (awake_any W hl)
  have HC1 := hid (fun (w : World) (h : Below W.heap.size W w) => cut_row a cap ks w (hr.later h))
  have HR := hid (hr.take 2000)
  have hkl := take_len ks
  have HL := hid hl
  have HPS := hid hps
  have hroom := hps.room
  have hmost := hps.most
  unfold maxLen at hmost
  clear hr hps hl
  generalize ks.take 2000 = key at *
  have HNW := hid (fun (w : World) (h : Below W.heap.size W w) => macNew_word a cap key w (HL.out.later h) (HR.out.later h) (by omega))
  have HOF := hid (fun (w : World) (h : Below W.heap.size W w) (x : Option Addr) (c : Nat) (q : List Nat) (hq : q.length ≤ 3000) (hx : Rd w (.slice x q.length c) x c q) => macOf_ref a cap key x c q w (HR.out.later h) hx (by omega) (by omega))
  have HH : Hid (∀ al, digest (xorL 92 (blockL key) ++ digest (xorL 54 (blockL key) ++ al)) = hmac key al) := fun _ => rfl
  have HX1 : Hid ((xorL 54 (blockL key)).length = 64) := (xorL_length _ _).trans (blockL_length key)
  have HX2 : Hid ((xorL 92 (blockL key)).length = 64) := (xorL_length _ _).trans (blockL_length key)
  have HXB : Hid (∀ j, (xorL 92 (blockL key)).getD j 0 < 256) := xorL_lt 92 (blockL key) (by decide) (blockL_lt key HR.out.hi)
  have HML := hid (hmac_length key)
  generalize xorL 54 (blockL key) = x1 at *
  generalize xorL 92 (blockL key) = x2 at *
  have hg := guard25
  generalize hln : l.length = n at *
  have HLN := hid hln
  clear hln
  go_enter Tryd.func6, Tryd.ntmps6
  go_wp2_with fail
  go_at_call 14
  refine HAW.out.mono ?_
  rintro _ w1 ⟨rfl, hb1⟩
  have HB1 := hid hb1
  clear hb1 HAW
  go_wp2_with fail
  go_at_call 9
  refine (HC1.out w1 HB1.out).mono ?_
  rintro _ w2 ⟨rfl, hw⟩
  obtain rfl := hw.symm
  clear hw HC1
  go_wp2_with fail
  go_at_call 20
  refine (HNW.out w1 HB1.out).mono ?_
  rintro _ w2 ⟨g, hgw1, rfl, ⟨op2, hm2⟩, hb2⟩
  have hg2 : g < w2.heap.size := (Array.getElem?_eq_some_iff.1 hm2.blk).1
  have HM2 := hid hm2
  have HB2 := hid (Bn HB1.out hb2)
  have h2g : 2 ≤ g := by have := (HL.out.later HB1.out).two; omega
  have hWg : W.heap.size ≤ g := by have := HB1.out.size; omega
  clear hm2 hb2 HNW
  generalize hB : w2.heap.size = B at *
  have HBB := hid hB
  clear hB
  generalize key.length = kn at *
  go_wp2_with fail
  go_loopw [6, 7] (fun v i wr => ∃ (k : Nat) (op al : List Nat), k ≤ n ∧ k ≤ 12 ∧ i = .int .i64 k ∧ Hm (lst .u8 x2) wr g (x1 ++ al) op ∧ wr.ownsRow B 5 1 v al.length (V al) ∧ al.length ≤ 200 * k ∧ (∀ j, al.getD j 0 < 256) ∧ Below W.heap.size W wr ∧ B ≤ wr.heap.size) (fun _ i _ => 12 - (intOf i).toNat)
  case atStart => exact ⟨0, op2, [], by omega, by omega, rfl, by rw [List.append_nil]; exact HM2.out, World.ownsRow_nil _ _ _ _, by simp, fun j => by simp, HB2.out, by rw [HBB.out]; exact Nat.le_refl _⟩
  case round =>
    obtain ⟨k, op, al, hkn, hk12, rfl, hHm, hown, hal, hat, hbel, hBr⟩ := hrel
    obtain ⟨xv, cv, hv, hrv⟩ := rd_any hown rfl hat
    subst hv
    have HO := hid hown
    have HBL := hid hbel
    have HRV := hid hrv
    have HAT := hid hat
    have hD := HH.out al
    have HDL := hid (HML.out al)
    have hq := eq25 (hmac key al) (HML.out al)
    have HSM := hid (macGet_word x2 HX2.out HXB.out g (x1 ++ al) op wr (HL.out.later hbel) hHm (by rw [List.length_append, HX1.out]; omega))
    rw [hD] at HSM
    have HHm := hid hHm
    have HOF2 := hid (fun (w : World) (h : Below wr.heap.size wr w) => HOF.out w (Bn HBL.out h) xv cv al (by omega) (HRV.out.later h))
    clear hHm hown hbel hrv hat hD
    generalize hmac key al = D at *
    generalize hzl : al.length = aln at *
    have HAL := hid hzl
    clear hzl
    by_cases hlt : k < n
    · by_cases h12 : k < 12
      · have hkn1 : (k : Int) < (n : Int) := by omega
        have hk121 : (k : Int) < 12 := by omega
        obtain ⟨bb, off, hbe, hbb, hc⟩ := HPS.out.cells (by have := HLN.out; omega)
        obtain ⟨v, a', cap', hck, hrd⟩ := hc k (by rw [HLN.out]; exact hlt)
        have hv := hrd.val
        subst hv
        subst hbe
        have hcr := hrd.room
        have hcm := hrd.most
        unfold maxLen at hcm
        have hrt := hrd.take 200
        have ha' : 200 < (l.getD k []).length → ∃ b o, a' = some ⟨b, o, none⟩ := fun h => by obtain ⟨b, o, h1, _⟩ := hrd.cells (by omega); exact ⟨b, o, h1⟩
        have HRD := hid hrd
        have HRT := hid hrt
        have HTL : Hid (((l.getD k []).take 200).length = min 200 (l.getD k []).length) := List.length_take
        clear hc hrd hrt
        go_wp2_with fail
        go_at_call 21
        refine HSM.out.mono ?_
        rintro _ w3 ⟨rfl, hb3⟩
        obtain ⟨q4, f4, z4⟩ := put_new w3 D 26 w3.heap.size rfl
        have hn3 := heap_new w3 (.cells (arr .u8 z32) 26)
        have hz3 := hb3.size
        have hbr4 := Bn hb3 q4
        have hck4 : ((w3.alloc (.cells (arr .u8 z32) 26)).setRow w3.heap.size (arr .u8 D)).cell? ⟨bb, off + k, none⟩ = some (.slice a' (l.getD k []).length cap') := ((Bn HBL.out hbr4).cell (p := ⟨bb, off + k, none⟩) hbb).trans hck
        clear hck
        by_cases h200 : 200 < (l.getD k []).length
        · obtain ⟨b2, o2, ha2⟩ := ha' h200
          subst ha2
          have h200' : (200 : Int) < ((l.getD k []).length : Int) := by omega
          have hmin : min 200 (l.getD k []).length = 200 := by omega
          have hRZ0 := HRT.out
          rw [HTL.out, hmin] at hRZ0
          have HRZ0 := hid hRZ0
          have HZN0 : Hid (((l.getD k []).take 200).length = 200) := by show _ = _; rw [HTL.out, hmin]
          clear hRZ0 HRT HTL hmin HRD ha'
          generalize (l.getD k []).take 200 = z at *
          generalize (l.getD k []).length = yn at *
          go_wp2_with (first
            | (refine wpList_alloc_at rfl 26 rfl (some 8) rfl (arr .u8 z32) Tryd.zero26 w3.heap.size rfl ?_)
            | (refine wpList_store_rowTo rfl 26 _ _ rfl rfl w3.heap.size (arr .u8 D) rfl rfl 26 _ hn3 (by rw [arr_size, HDL.out]; exact Tryd.size26') (by rw [arr_size, arr_size, HDL.out]; rfl) (arr_one _ _) ?_))
          obtain ⟨zn, hznn⟩ : ∃ m : Nat, m = 200 := ⟨_, rfl⟩
          rw [show (200 : Nat) = zn from hznn.symm]
          have HRZ : Hid (Rd W (.slice (some ⟨b2, o2, none⟩) zn cap') (some ⟨b2, o2, none⟩) cap' z) := by show Rd _ _ _ _ _; rw [hznn]; exact HRZ0.out
          have HZN : Hid (z.length = zn) := by show _ = _; rw [hznn]; exact HZN0.out
          have hzn : zn ≤ 200 := by omega
          clear hznn HRZ0 HZN0 h200 h200' hck4
          generalize (some (⟨b2, o2, none⟩ : Addr)) = a' at *
          generalize (w3.alloc (.cells (arr .u8 z32) 26)).setRow w3.heap.size (arr .u8 D) = w4 at *
          have hbW4 := Bn HBL.out hbr4
          have hw34 : w3.heap.size < w4.heap.size := (Array.getElem?_eq_some_iff.1 f4).1
          refine wp_region_held_drew (S := fun w' => Below W.heap.size W w' ∧ w'.heap[w3.heap.size]? = some (.cells (arr .u8 D) 26 (0, 0))) (by as_aux_lemma => kernel_rfl) ⟨hbW4.drew, f4⟩ (fun hS => ?_)
          have hrD : Below wr.heap.size wr w4.drew := hbr4.drew
          have hzD : w3.heap.size < w4.drew.heap.size := hw34
          generalize w4.drew = wD at *
          refine Ord.take (i := 0) (d := 43) (v := ?v0p) rfl rfl (by as_aux_lemma => kernel_rfl) (by as_aux_lemma => kernel_rfl) (by as_aux_lemma => kernel_rfl) (fun _ _ _ h => h) (by rfl) ?h0 (by assumption) ?_
          case h0 => intro w hSw; go_simp; try with_reducible rfl
          simp only [List.setIfInBounds_toArray, List.set_cons_zero, List.set_cons_succ]
          refine Ord.take (i := 1) (d := 44) (v := .bool false) rfl rfl (by as_aux_lemma => kernel_rfl) (by as_aux_lemma => kernel_rfl) (by as_aux_lemma => kernel_rfl) (fun _ _ _ h => h) (by rfl) ?h1 (by assumption) ?_
          case h1 => intro w hSw; go_simp; try with_reducible rfl
          simp only [List.setIfInBounds_toArray, List.set_cons_zero, List.set_cons_succ]
          refine Ord.take (i := 2) (d := 45) (v := ?v2p) rfl rfl (by as_aux_lemma => kernel_rfl) (by as_aux_lemma => kernel_rfl) (by as_aux_lemma => kernel_rfl) (fun _ _ _ h => h) (by rfl) ?h2 (by assumption) ?_
          case h2 => intro w hSw; go_simp; try with_reducible rfl
          simp only [List.setIfInBounds_toArray, List.set_cons_zero, List.set_cons_succ]
          refine Ord.take (i := 3) (d := 46) (v := .agg (arr .u8 D)) rfl rfl (by as_aux_lemma => kernel_rfl) (by as_aux_lemma => kernel_rfl) (by as_aux_lemma => kernel_rfl) (fun _ _ _ h => h) (by rfl) ?h3 (by assumption) ?_
          case h3 => exact fun w hSw => run_load_op (p := .pointer (some ⟨w3.heap.size, 0, none⟩)) rfl rfl (load_whole hSw.2 Tryd.underlying26 rfl (by rw [HDL.out]; exact Tryd.size26'))
          simp only [List.setIfInBounds_toArray, List.set_cons_zero, List.set_cons_succ]
          refine Ord.take (i := 4) (d := 47) (v := ?v4p) rfl rfl (by as_aux_lemma => kernel_rfl) (by as_aux_lemma => kernel_rfl) (by as_aux_lemma => kernel_rfl) (fun _ _ _ h => h) (by rfl) ?h4 (by assumption) ?_
          case h4 => intro w hSw; go_simp; try with_reducible rfl
          simp only [List.setIfInBounds_toArray, List.set_cons_zero, List.set_cons_succ]
          refine Ord.take (i := 5) (d := 48) (v := ?v5p) rfl rfl (by as_aux_lemma => kernel_rfl) (by as_aux_lemma => kernel_rfl) (by as_aux_lemma => kernel_rfl) (fun _ _ _ h => h) (by rfl) ?h5 (by assumption) ?_
          case h5 => intro w hSw; go_simp; try with_reducible rfl
          simp only [List.setIfInBounds_toArray, List.set_cons_zero, List.set_cons_succ]
          refine wpAnyH_ready (rs := [6]) (by as_aux_lemma => kernel_rfl) (by simp) (AllReadyH.cons rfl (fun K hK => ?_) AllReadyH.nil)
          go_simp
          refine (HOF2.out wD hrD).mono ?_
          rintro _ w5 ⟨rfl, hb5⟩
          have hr5 := Bn hrD hb5
          have hS5 : Below W.heap.size W w5 ∧ w5.heap[w3.heap.size]? = some (.cells (arr .u8 D) 26 (0, 0)) := ⟨Bn hS.1 hb5, by rw [hb5.block _ hzD]; exact hS.2⟩
          refine hK.out _ _ hS5 (fun _ => ?_)
          clear hK K
          have HW5 := hid (macWrite_word (lst .u8 x2) (by rw [lst_length, HX2.out]) g a' cap' z (x1 ++ al) op w5 (HL.out.later hS5.1) h2g ⟨by rw [HZN.out]; exact HRZ.out.later hS5.1, fun h0 ad had => by
              obtain ⟨b', o', hab, hbw', _⟩ := HRZ.out.cells h0
              rw [hab] at had
              injection had with had
              subst had
              show b' ≠ g
              omega⟩ (HHm.out.later hr5) (by rw [List.length_append, HX1.out, HAL.out, HZN.out]; omega))
          rw [HZN.out] at HW5
          refine Ord.take (i := 7) (d := 50) (v := .bool false) rfl rfl (by as_aux_lemma => kernel_rfl) (by as_aux_lemma => kernel_rfl) (by as_aux_lemma => kernel_rfl) (fun _ _ _ h => h) (by rfl) ?h7 (by assumption) ?_
          case h7 => exact fun w _ => run_neq_op rfl rfl rfl hg (hq w)
          simp only [List.setIfInBounds_toArray, List.set_cons_zero, List.set_cons_succ]
          refine Ord.take (i := 8) (d := 51) (v := .bool false) rfl rfl (by as_aux_lemma => kernel_rfl) (by as_aux_lemma => kernel_rfl) (by as_aux_lemma => kernel_rfl) (fun _ _ _ h => h) (by rfl) ?h8 (by assumption) ?_
          case h8 => intro w hSw; go_simp; try with_reducible rfl
          simp only [List.setIfInBounds_toArray, List.set_cons_zero, List.set_cons_succ]
          refine Ord.take (i := 9) (d := 52) (v := ?v9p) rfl rfl (by as_aux_lemma => kernel_rfl) (by as_aux_lemma => kernel_rfl) (by as_aux_lemma => kernel_rfl) (fun _ _ _ h => h) (by rfl) ?h9 (by assumption) ?_
          case h9 => intro w hSw; go_simp; try with_reducible rfl
          simp only [List.setIfInBounds_toArray, List.set_cons_zero, List.set_cons_succ]
          refine Ord.take (i := 10) (d := 53) (v := ?v10p) rfl rfl (by as_aux_lemma => kernel_rfl) (by as_aux_lemma => kernel_rfl) (by as_aux_lemma => kernel_rfl) (fun _ _ _ h => h) (by rfl) ?h10 (by assumption) ?_
          case h10 => intro w hSw; go_simp; try with_reducible rfl
          simp only [List.setIfInBounds_toArray, List.set_cons_zero, List.set_cons_succ]
          refine Ord.take (i := 11) (d := 54) (v := ?v11p) rfl rfl (by as_aux_lemma => kernel_rfl) (by as_aux_lemma => kernel_rfl) (by as_aux_lemma => kernel_rfl) (fun _ _ _ h => h) (by rfl) ?h11 (by assumption) ?_
          case h11 => intro w hSw; go_simp; try with_reducible rfl
          simp only [List.setIfInBounds_toArray, List.set_cons_zero, List.set_cons_succ]
          refine wpAnyH_ready (rs := [12]) (by as_aux_lemma => kernel_rfl) (by simp) (AllReadyH.cons rfl (fun K hK => ?_) AllReadyH.nil)
          go_simp
          refine HW5.out.mono ?_
          rintro _ w6 ⟨rfl, ⟨op6, hm6⟩, hg6⟩
          have hS6 : Below W.heap.size W w6 ∧ w6.heap[w3.heap.size]? = some (.cells (arr .u8 D) 26 (0, 0)) := ⟨hS5.1.trans (grown_bel hg6 hWg hS5.1.size), by rw [hg6.block _ (by have := hb5.size; omega) (by intro h; injection h with h; omega)]; exact hS5.2⟩
          refine hK.out _ _ hS6 (fun _ => ?_)
          clear hK K
          refine Ord.take (i := 13) (d := 56) (v := .bool false) rfl rfl (by as_aux_lemma => kernel_rfl) (by as_aux_lemma => kernel_rfl) (by as_aux_lemma => kernel_rfl) (fun _ _ _ h => h) (by rfl) ?h13 (by assumption) ?_
          case h13 => intro w hSw; go_simp; try with_reducible rfl
          simp only [List.setIfInBounds_toArray, List.set_cons_zero, List.set_cons_succ]
          refine Ord.take (i := 14) (d := 57) (v := .bool false) rfl rfl (by as_aux_lemma => kernel_rfl) (by as_aux_lemma => kernel_rfl) (by as_aux_lemma => kernel_rfl) (fun _ _ _ h => h) (by rfl) ?h14 (by assumption) ?_
          case h14 => intro w hSw; go_simp; try with_reducible rfl
          simp only [List.setIfInBounds_toArray, List.set_cons_zero, List.set_cons_succ]
          refine wpAnyH_done (by as_aux_lemma => kernel_rfl) ?_ _
          have ho6 : w6.ownsRow B 5 1 (.slice xv aln cv) al.length (V al) := by rw [HAL.out]; exact own_kept (own_later HO.out hr5) hg6 hg2
          have hrz6 := HRZ.out.later hS6.1
          have HS6 := hid hS6.1
          have HM6 := hid hm6
          have hz6 : B ≤ w6.heap.size := by have := hr5.size; have := hg6.size; omega
          have hal6 : al.length + z.length ≤ 1000000 := by rw [HAL.out, HZN.out]; omega
          clear hS hS5 hS6 hg6 hm6 hb5 hr5 hrD hbW4 hbr4 q4 f4 hb3 HW5 hn3
          go_wp2_with (at_builtin; refine app_any _ rfl _ _ rfl B _ al rfl ho6 a' cap' z (by rw [HZN.out]; rfl) (by rw [HZN.out]; exact hrz6) hal6 hz6 ?_)
          intro v7 w7 ho7 hg7
          have hb7 : Below B w6 w7 := ⟨hg7.os, hg7.tape, hg7.output, hg7.size, fun q hq => hg7.block q (by omega) (fun h => by have := (ho6.lt q h.symm).1; omega)⟩
          have HM7 := hid (hm_kept HM6.out hb7 hg2)
          have HS7 : Hid (Below W.heap.size W w7) := HS6.out.trans (hb7.mono (by omega))
          have hz7 := hb7.size
          rw [List.append_assoc] at HM7
          clear hg7 ho6 hb7
          have hl7 : (al ++ z).length ≤ 200 * (k + 1) := by rw [List.length_append, HAL.out, HZN.out]; omega
          have HLB := hid (getD_app al z HAT.out HRZ.out.hi)
          have ho8 : w7.ownsRow B 5 1 v7 (al ++ z).length (V (al ++ z)) := by rw [List.length_append]; exact ho7
          clear ho7
          go_wp2
          exact ⟨⟨k + 1, op6, al ++ z, by omega, by omega, by go_num, HM7.out, ho8, hl7, HLB.out, HS7.out, by omega⟩, by simp [intOf]; omega⟩
        · have h200' : ¬ (200 : Int) < ((l.getD k []).length : Int) := by omega
          have HRZ := hid HRD.out
          have hzn : (l.getD k []).length ≤ 200 := by omega
          clear HRT HTL HRD ha'
          generalize l.getD k [] = z at *
          generalize hznn : z.length = zn at *
          have HZN := hid hznn
          clear hznn
          go_wp2_with (first
            | (refine wpList_alloc_at rfl 26 rfl (some 8) rfl (arr .u8 z32) Tryd.zero26 w3.heap.size rfl ?_)
            | (refine wpList_store_rowTo rfl 26 _ _ rfl rfl w3.heap.size (arr .u8 D) rfl rfl 26 _ hn3 (by rw [arr_size, HDL.out]; exact Tryd.size26') (by rw [arr_size, arr_size, HDL.out]; rfl) (arr_one _ _) ?_))
          clear hck4
          generalize (w3.alloc (.cells (arr .u8 z32) 26)).setRow w3.heap.size (arr .u8 D) = w4 at *
          have hbW4 := Bn HBL.out hbr4
          have hw34 : w3.heap.size < w4.heap.size := (Array.getElem?_eq_some_iff.1 f4).1
          refine wp_region_held_drew (S := fun w' => Below W.heap.size W w' ∧ w'.heap[w3.heap.size]? = some (.cells (arr .u8 D) 26 (0, 0))) (by as_aux_lemma => kernel_rfl) ⟨hbW4.drew, f4⟩ (fun hS => ?_)
          have hrD : Below wr.heap.size wr w4.drew := hbr4.drew
          have hzD : w3.heap.size < w4.drew.heap.size := hw34
          generalize w4.drew = wD at *
          refine Ord.take (i := 0) (d := 43) (v := ?v0px) rfl rfl (by as_aux_lemma => kernel_rfl) (by as_aux_lemma => kernel_rfl) (by as_aux_lemma => kernel_rfl) (fun _ _ _ h => h) (by rfl) ?h0 (by assumption) ?_
          case h0 => intro w hSw; go_simp; try with_reducible rfl
          simp only [List.setIfInBounds_toArray, List.set_cons_zero, List.set_cons_succ]
          refine Ord.take (i := 1) (d := 44) (v := .bool false) rfl rfl (by as_aux_lemma => kernel_rfl) (by as_aux_lemma => kernel_rfl) (by as_aux_lemma => kernel_rfl) (fun _ _ _ h => h) (by rfl) ?h1 (by assumption) ?_
          case h1 => intro w hSw; go_simp; try with_reducible rfl
          simp only [List.setIfInBounds_toArray, List.set_cons_zero, List.set_cons_succ]
          refine Ord.take (i := 2) (d := 45) (v := ?v2px) rfl rfl (by as_aux_lemma => kernel_rfl) (by as_aux_lemma => kernel_rfl) (by as_aux_lemma => kernel_rfl) (fun _ _ _ h => h) (by rfl) ?h2 (by assumption) ?_
          case h2 => intro w hSw; go_simp; try with_reducible rfl
          simp only [List.setIfInBounds_toArray, List.set_cons_zero, List.set_cons_succ]
          refine Ord.take (i := 3) (d := 46) (v := .agg (arr .u8 D)) rfl rfl (by as_aux_lemma => kernel_rfl) (by as_aux_lemma => kernel_rfl) (by as_aux_lemma => kernel_rfl) (fun _ _ _ h => h) (by rfl) ?h3 (by assumption) ?_
          case h3 => exact fun w hSw => run_load_op (p := .pointer (some ⟨w3.heap.size, 0, none⟩)) rfl rfl (load_whole hSw.2 Tryd.underlying26 rfl (by rw [HDL.out]; exact Tryd.size26'))
          simp only [List.setIfInBounds_toArray, List.set_cons_zero, List.set_cons_succ]
          refine Ord.take (i := 4) (d := 47) (v := ?v4px) rfl rfl (by as_aux_lemma => kernel_rfl) (by as_aux_lemma => kernel_rfl) (by as_aux_lemma => kernel_rfl) (fun _ _ _ h => h) (by rfl) ?h4 (by assumption) ?_
          case h4 => intro w hSw; go_simp; try with_reducible rfl
          simp only [List.setIfInBounds_toArray, List.set_cons_zero, List.set_cons_succ]
          refine Ord.take (i := 5) (d := 48) (v := ?v5px) rfl rfl (by as_aux_lemma => kernel_rfl) (by as_aux_lemma => kernel_rfl) (by as_aux_lemma => kernel_rfl) (fun _ _ _ h => h) (by rfl) ?h5 (by assumption) ?_
          case h5 => intro w hSw; go_simp; try with_reducible rfl
          simp only [List.setIfInBounds_toArray, List.set_cons_zero, List.set_cons_succ]
          refine wpAnyH_ready (rs := [6]) (by as_aux_lemma => kernel_rfl) (by simp) (AllReadyH.cons rfl (fun K hK => ?_) AllReadyH.nil)
          go_simp
          refine (HOF2.out wD hrD).mono ?_
          rintro _ w5 ⟨rfl, hb5⟩
          have hr5 := Bn hrD hb5
          have hS5 : Below W.heap.size W w5 ∧ w5.heap[w3.heap.size]? = some (.cells (arr .u8 D) 26 (0, 0)) := ⟨Bn hS.1 hb5, by rw [hb5.block _ hzD]; exact hS.2⟩
          refine hK.out _ _ hS5 (fun _ => ?_)
          clear hK K
          have HW5 := hid (macWrite_word (lst .u8 x2) (by rw [lst_length, HX2.out]) g a' cap' z (x1 ++ al) op w5 (HL.out.later hS5.1) h2g ⟨by rw [HZN.out]; exact HRZ.out.later hS5.1, fun h0 ad had => by
              obtain ⟨b', o', hab, hbw', _⟩ := HRZ.out.cells h0
              rw [hab] at had
              injection had with had
              subst had
              show b' ≠ g
              omega⟩ (HHm.out.later hr5) (by rw [List.length_append, HX1.out, HAL.out, HZN.out]; omega))
          rw [HZN.out] at HW5
          refine Ord.take (i := 7) (d := 50) (v := .bool false) rfl rfl (by as_aux_lemma => kernel_rfl) (by as_aux_lemma => kernel_rfl) (by as_aux_lemma => kernel_rfl) (fun _ _ _ h => h) (by rfl) ?h7 (by assumption) ?_
          case h7 => exact fun w _ => run_neq_op rfl rfl rfl hg (hq w)
          simp only [List.setIfInBounds_toArray, List.set_cons_zero, List.set_cons_succ]
          refine Ord.take (i := 8) (d := 51) (v := .bool false) rfl rfl (by as_aux_lemma => kernel_rfl) (by as_aux_lemma => kernel_rfl) (by as_aux_lemma => kernel_rfl) (fun _ _ _ h => h) (by rfl) ?h8 (by assumption) ?_
          case h8 => intro w hSw; go_simp; try with_reducible rfl
          simp only [List.setIfInBounds_toArray, List.set_cons_zero, List.set_cons_succ]
          refine Ord.take (i := 9) (d := 52) (v := ?v9px) rfl rfl (by as_aux_lemma => kernel_rfl) (by as_aux_lemma => kernel_rfl) (by as_aux_lemma => kernel_rfl) (fun _ _ _ h => h) (by rfl) ?h9 (by assumption) ?_
          case h9 => intro w hSw; go_simp; try with_reducible rfl
          simp only [List.setIfInBounds_toArray, List.set_cons_zero, List.set_cons_succ]
          refine Ord.take (i := 10) (d := 53) (v := ?v10px) rfl rfl (by as_aux_lemma => kernel_rfl) (by as_aux_lemma => kernel_rfl) (by as_aux_lemma => kernel_rfl) (fun _ _ _ h => h) (by rfl) ?h10 (by assumption) ?_
          case h10 => intro w hSw; go_simp; try with_reducible rfl
          simp only [List.setIfInBounds_toArray, List.set_cons_zero, List.set_cons_succ]
          refine Ord.take (i := 11) (d := 54) (v := ?v11px) rfl rfl (by as_aux_lemma => kernel_rfl) (by as_aux_lemma => kernel_rfl) (by as_aux_lemma => kernel_rfl) (fun _ _ _ h => h) (by rfl) ?h11 (by assumption) ?_
          case h11 => intro w hSw; go_simp; try with_reducible rfl
          simp only [List.setIfInBounds_toArray, List.set_cons_zero, List.set_cons_succ]
          refine wpAnyH_ready (rs := [12]) (by as_aux_lemma => kernel_rfl) (by simp) (AllReadyH.cons rfl (fun K hK => ?_) AllReadyH.nil)
          go_simp
          refine HW5.out.mono ?_
          rintro _ w6 ⟨rfl, ⟨op6, hm6⟩, hg6⟩
          have hS6 : Below W.heap.size W w6 ∧ w6.heap[w3.heap.size]? = some (.cells (arr .u8 D) 26 (0, 0)) := ⟨hS5.1.trans (grown_bel hg6 hWg hS5.1.size), by rw [hg6.block _ (by have := hb5.size; omega) (by intro h; injection h with h; omega)]; exact hS5.2⟩
          refine hK.out _ _ hS6 (fun _ => ?_)
          clear hK K
          refine Ord.take (i := 13) (d := 56) (v := .bool false) rfl rfl (by as_aux_lemma => kernel_rfl) (by as_aux_lemma => kernel_rfl) (by as_aux_lemma => kernel_rfl) (fun _ _ _ h => h) (by rfl) ?h13 (by assumption) ?_
          case h13 => intro w hSw; go_simp; try with_reducible rfl
          simp only [List.setIfInBounds_toArray, List.set_cons_zero, List.set_cons_succ]
          refine Ord.take (i := 14) (d := 57) (v := .bool false) rfl rfl (by as_aux_lemma => kernel_rfl) (by as_aux_lemma => kernel_rfl) (by as_aux_lemma => kernel_rfl) (fun _ _ _ h => h) (by rfl) ?h14 (by assumption) ?_
          case h14 => intro w hSw; go_simp; try with_reducible rfl
          simp only [List.setIfInBounds_toArray, List.set_cons_zero, List.set_cons_succ]
          refine wpAnyH_done (by as_aux_lemma => kernel_rfl) ?_ _
          have ho6 : w6.ownsRow B 5 1 (.slice xv aln cv) al.length (V al) := by rw [HAL.out]; exact own_kept (own_later HO.out hr5) hg6 hg2
          have hrz6 := HRZ.out.later hS6.1
          have HS6 := hid hS6.1
          have HM6 := hid hm6
          have hz6 : B ≤ w6.heap.size := by have := hr5.size; have := hg6.size; omega
          have hal6 : al.length + z.length ≤ 1000000 := by rw [HAL.out, HZN.out]; omega
          clear hS hS5 hS6 hg6 hm6 hb5 hr5 hrD hbW4 hbr4 q4 f4 hb3 HW5 hn3
          go_wp2_with (at_builtin; refine app_any _ rfl _ _ rfl B _ al rfl ho6 a' cap' z (by rw [HZN.out]; rfl) (by rw [HZN.out]; exact hrz6) hal6 hz6 ?_)
          intro v7 w7 ho7 hg7
          have hb7 : Below B w6 w7 := ⟨hg7.os, hg7.tape, hg7.output, hg7.size, fun q hq => hg7.block q (by omega) (fun h => by have := (ho6.lt q h.symm).1; omega)⟩
          have HM7 := hid (hm_kept HM6.out hb7 hg2)
          have HS7 : Hid (Below W.heap.size W w7) := HS6.out.trans (hb7.mono (by omega))
          have hz7 := hb7.size
          rw [List.append_assoc] at HM7
          clear hg7 ho6 hb7
          have hl7 : (al ++ z).length ≤ 200 * (k + 1) := by rw [List.length_append, HAL.out, HZN.out]; omega
          have HLB := hid (getD_app al z HAT.out HRZ.out.hi)
          have ho8 : w7.ownsRow B 5 1 v7 (al ++ z).length (V (al ++ z)) := by rw [List.length_append]; exact ho7
          clear ho7
          go_wp2
          exact ⟨⟨k + 1, op6, al ++ z, by omega, by omega, by go_num, HM7.out, ho8, hl7, HLB.out, HS7.out, by omega⟩, by simp [intOf]; omega⟩
      · have hkn1 : (k : Int) < (n : Int) := by omega
        have hk121 : ¬ (k : Int) < 12 := by omega
        go_wp2_with fail
        go_at_call 21
        refine HSM.out.mono ?_
        rintro _ w3 ⟨rfl, hb3⟩
        obtain ⟨q4, f4, z4⟩ := put_new w3 D 26 w3.heap.size rfl
        have hn3 := heap_new w3 (.cells (arr .u8 z32) 26)
        have hz3 := hb3.size
        have hbr4 := Bn hb3 q4
        go_wp2_with (first
          | (refine wpList_alloc_at rfl 26 rfl (some 11) rfl (arr .u8 z32) Tryd.zero26 w3.heap.size rfl ?_)
          | (refine wpList_store_rowTo rfl 26 _ _ rfl rfl w3.heap.size (arr .u8 D) rfl rfl 26 _ hn3 (by rw [arr_size, HDL.out]; exact Tryd.size26') (by rw [arr_size, arr_size, HDL.out]; rfl) (arr_one _ _) ?_))
        generalize (w3.alloc (.cells (arr .u8 z32) 26)).setRow w3.heap.size (arr .u8 D) = w4 at *
        have L4 : ∀ w : World, Below w4.heap.size w4 w → (Instr.loadAt 26 (.pointer (some ⟨w3.heap.size, 0, none⟩))).run Tryd.prog w = .ok (.agg (arr .u8 D)) w := fun w h => load_whole (by rw [h.block _ (by omega)]; exact f4) Tryd.underlying26 rfl (by rw [HDL.out]; exact Tryd.size26')
        refine wp_region_held_drew (S := fun w' => Below w4.heap.size w4 w') (by as_aux_lemma => kernel_rfl) (Below.refl _ _).drew (fun hS => ?_)
        generalize w4.drew = wD at *
        refine Ord.take (i := 0) (d := 66) (v := ?v0pxx) rfl rfl (by as_aux_lemma => kernel_rfl) (by as_aux_lemma => kernel_rfl) (by as_aux_lemma => kernel_rfl) (fun _ _ _ h => h) (by rfl) ?h0 (by assumption) ?_
        case h0 => intro w hSw; go_simp; try with_reducible rfl
        simp only [List.setIfInBounds_toArray, List.set_cons_zero, List.set_cons_succ]
        refine Ord.take (i := 1) (d := 67) (v := .bool true) rfl rfl (by as_aux_lemma => kernel_rfl) (by as_aux_lemma => kernel_rfl) (by as_aux_lemma => kernel_rfl) (fun _ _ _ h => h) (by rfl) ?h1 (by assumption) ?_
        case h1 => intro w hSw; go_simp; try with_reducible rfl
        simp only [List.setIfInBounds_toArray, List.set_cons_zero, List.set_cons_succ]
        refine Ord.take (i := 2) (d := 68) (v := ?v2pxx) rfl rfl (by as_aux_lemma => kernel_rfl) (by as_aux_lemma => kernel_rfl) (by as_aux_lemma => kernel_rfl) (fun _ _ _ h => h) (by rfl) ?h2 (by assumption) ?_
        case h2 => intro w hSw; go_simp; try with_reducible rfl
        simp only [List.setIfInBounds_toArray, List.set_cons_zero, List.set_cons_succ]
        refine Ord.take (i := 3) (d := 69) (v := .agg (arr .u8 D)) rfl rfl (by as_aux_lemma => kernel_rfl) (by as_aux_lemma => kernel_rfl) (by as_aux_lemma => kernel_rfl) (fun _ _ _ h => h) (by rfl) ?h3 (by assumption) ?_
        case h3 => exact fun w hSw => run_load_op (p := .pointer (some ⟨w3.heap.size, 0, none⟩)) rfl rfl (L4 w hSw)
        simp only [List.setIfInBounds_toArray, List.set_cons_zero, List.set_cons_succ]
        refine Ord.take (i := 4) (d := 70) (v := ?v4pxx) rfl rfl (by as_aux_lemma => kernel_rfl) (by as_aux_lemma => kernel_rfl) (by as_aux_lemma => kernel_rfl) (fun _ _ _ h => h) (by rfl) ?h4 (by assumption) ?_
        case h4 => intro w hSw; go_simp; try with_reducible rfl
        simp only [List.setIfInBounds_toArray, List.set_cons_zero, List.set_cons_succ]
        refine Ord.take (i := 5) (d := 71) (v := ?v5pxx) rfl rfl (by as_aux_lemma => kernel_rfl) (by as_aux_lemma => kernel_rfl) (by as_aux_lemma => kernel_rfl) (fun _ _ _ h => h) (by rfl) ?h5 (by assumption) ?_
        case h5 => intro w hSw; go_simp; try with_reducible rfl
        simp only [List.setIfInBounds_toArray, List.set_cons_zero, List.set_cons_succ]
        refine wpAnyH_ready (rs := [6]) (by as_aux_lemma => kernel_rfl) (by simp) (AllReadyH.cons rfl (fun K hK => ?_) AllReadyH.nil)
        go_simp
        refine (HOF2.out wD (Bn hbr4 hS)).mono ?_
        rintro _ w5 ⟨rfl, hb5⟩
        have hS5 := Bn hS hb5
        refine hK.out _ _ hS5 (fun _ => ?_)
        clear hK K
        refine Ord.take (i := 7) (d := 73) (v := .bool true) rfl rfl (by as_aux_lemma => kernel_rfl) (by as_aux_lemma => kernel_rfl) (by as_aux_lemma => kernel_rfl) (fun _ _ _ h => h) (by rfl) ?h7 (by assumption) ?_
        case h7 => exact fun w _ => run_eql_op rfl rfl rfl hg (hq w)
        simp only [List.setIfInBounds_toArray, List.set_cons_zero, List.set_cons_succ]
        refine Ord.take (i := 8) (d := 74) (v := .bool true) rfl rfl (by as_aux_lemma => kernel_rfl) (by as_aux_lemma => kernel_rfl) (by as_aux_lemma => kernel_rfl) (fun _ _ _ h => h) (by rfl) ?h8 (by assumption) ?_
        case h8 => intro w hSw; go_simp; try with_reducible rfl
        simp only [List.setIfInBounds_toArray, List.set_cons_zero, List.set_cons_succ]
        refine Ord.take (i := 9) (d := 4) (v := .bool true) rfl rfl (by as_aux_lemma => kernel_rfl) (by as_aux_lemma => kernel_rfl) (by as_aux_lemma => kernel_rfl) (fun _ _ _ h => h) (by rfl) ?h9 (by assumption) ?_
        case h9 => intro w hSw; go_simp; try with_reducible rfl
        simp only [List.setIfInBounds_toArray, List.set_cons_zero, List.set_cons_succ]
        refine wpAnyH_done (by as_aux_lemma => kernel_rfl) ?_ _
        have HE := hid (Bn HBL.out (Bn hbr4 hS5))
        clear hS hS5 hb5 hbr4 L4 q4 f4 hb3
        go_wp2
        go_ret
        exact ⟨rfl, HE.out⟩
    · have hkn1 : ¬ (k : Int) < (n : Int) := by omega
      go_wp2_with fail
      go_at_call 21
      refine HSM.out.mono ?_
      rintro _ w3 ⟨rfl, hb3⟩
      obtain ⟨q4, f4, z4⟩ := put_new w3 D 26 w3.heap.size rfl
      have hn3 := heap_new w3 (.cells (arr .u8 z32) 26)
      have hz3 := hb3.size
      have hbr4 := Bn hb3 q4
      go_wp2_with (first
        | (refine wpList_alloc_at rfl 26 rfl (some 11) rfl (arr .u8 z32) Tryd.zero26 w3.heap.size rfl ?_)
        | (refine wpList_store_rowTo rfl 26 _ _ rfl rfl w3.heap.size (arr .u8 D) rfl rfl 26 _ hn3 (by rw [arr_size, HDL.out]; exact Tryd.size26') (by rw [arr_size, arr_size, HDL.out]; rfl) (arr_one _ _) ?_))
      generalize (w3.alloc (.cells (arr .u8 z32) 26)).setRow w3.heap.size (arr .u8 D) = w4 at *
      have L4 : ∀ w : World, Below w4.heap.size w4 w → (Instr.loadAt 26 (.pointer (some ⟨w3.heap.size, 0, none⟩))).run Tryd.prog w = .ok (.agg (arr .u8 D)) w := fun w h => load_whole (by rw [h.block _ (by omega)]; exact f4) Tryd.underlying26 rfl (by rw [HDL.out]; exact Tryd.size26')
      refine wp_region_held_drew (S := fun w' => Below w4.heap.size w4 w') (by as_aux_lemma => kernel_rfl) (Below.refl _ _).drew (fun hS => ?_)
      generalize w4.drew = wD at *
      refine Ord.take (i := 0) (d := 66) (v := ?v0pxxx) rfl rfl (by as_aux_lemma => kernel_rfl) (by as_aux_lemma => kernel_rfl) (by as_aux_lemma => kernel_rfl) (fun _ _ _ h => h) (by rfl) ?h0 (by assumption) ?_
      case h0 => intro w hSw; go_simp; try with_reducible rfl
      simp only [List.setIfInBounds_toArray, List.set_cons_zero, List.set_cons_succ]
      refine Ord.take (i := 1) (d := 67) (v := .bool true) rfl rfl (by as_aux_lemma => kernel_rfl) (by as_aux_lemma => kernel_rfl) (by as_aux_lemma => kernel_rfl) (fun _ _ _ h => h) (by rfl) ?h1 (by assumption) ?_
      case h1 => intro w hSw; go_simp; try with_reducible rfl
      simp only [List.setIfInBounds_toArray, List.set_cons_zero, List.set_cons_succ]
      refine Ord.take (i := 2) (d := 68) (v := ?v2pxxx) rfl rfl (by as_aux_lemma => kernel_rfl) (by as_aux_lemma => kernel_rfl) (by as_aux_lemma => kernel_rfl) (fun _ _ _ h => h) (by rfl) ?h2 (by assumption) ?_
      case h2 => intro w hSw; go_simp; try with_reducible rfl
      simp only [List.setIfInBounds_toArray, List.set_cons_zero, List.set_cons_succ]
      refine Ord.take (i := 3) (d := 69) (v := .agg (arr .u8 D)) rfl rfl (by as_aux_lemma => kernel_rfl) (by as_aux_lemma => kernel_rfl) (by as_aux_lemma => kernel_rfl) (fun _ _ _ h => h) (by rfl) ?h3 (by assumption) ?_
      case h3 => exact fun w hSw => run_load_op (p := .pointer (some ⟨w3.heap.size, 0, none⟩)) rfl rfl (L4 w hSw)
      simp only [List.setIfInBounds_toArray, List.set_cons_zero, List.set_cons_succ]
      refine Ord.take (i := 4) (d := 70) (v := ?v4pxxx) rfl rfl (by as_aux_lemma => kernel_rfl) (by as_aux_lemma => kernel_rfl) (by as_aux_lemma => kernel_rfl) (fun _ _ _ h => h) (by rfl) ?h4 (by assumption) ?_
      case h4 => intro w hSw; go_simp; try with_reducible rfl
      simp only [List.setIfInBounds_toArray, List.set_cons_zero, List.set_cons_succ]
      refine Ord.take (i := 5) (d := 71) (v := ?v5pxxx) rfl rfl (by as_aux_lemma => kernel_rfl) (by as_aux_lemma => kernel_rfl) (by as_aux_lemma => kernel_rfl) (fun _ _ _ h => h) (by rfl) ?h5 (by assumption) ?_
      case h5 => intro w hSw; go_simp; try with_reducible rfl
      simp only [List.setIfInBounds_toArray, List.set_cons_zero, List.set_cons_succ]
      refine wpAnyH_ready (rs := [6]) (by as_aux_lemma => kernel_rfl) (by simp) (AllReadyH.cons rfl (fun K hK => ?_) AllReadyH.nil)
      go_simp
      refine (HOF2.out wD (Bn hbr4 hS)).mono ?_
      rintro _ w5 ⟨rfl, hb5⟩
      have hS5 := Bn hS hb5
      refine hK.out _ _ hS5 (fun _ => ?_)
      clear hK K
      refine Ord.take (i := 7) (d := 73) (v := .bool true) rfl rfl (by as_aux_lemma => kernel_rfl) (by as_aux_lemma => kernel_rfl) (by as_aux_lemma => kernel_rfl) (fun _ _ _ h => h) (by rfl) ?h7 (by assumption) ?_
      case h7 => exact fun w _ => run_eql_op rfl rfl rfl hg (hq w)
      simp only [List.setIfInBounds_toArray, List.set_cons_zero, List.set_cons_succ]
      refine Ord.take (i := 8) (d := 74) (v := .bool true) rfl rfl (by as_aux_lemma => kernel_rfl) (by as_aux_lemma => kernel_rfl) (by as_aux_lemma => kernel_rfl) (fun _ _ _ h => h) (by rfl) ?h8 (by assumption) ?_
      case h8 => intro w hSw; go_simp; try with_reducible rfl
      simp only [List.setIfInBounds_toArray, List.set_cons_zero, List.set_cons_succ]
      refine Ord.take (i := 9) (d := 4) (v := .bool true) rfl rfl (by as_aux_lemma => kernel_rfl) (by as_aux_lemma => kernel_rfl) (by as_aux_lemma => kernel_rfl) (fun _ _ _ h => h) (by rfl) ?h9 (by assumption) ?_
      case h9 => intro w hSw; go_simp; try with_reducible rfl
      simp only [List.setIfInBounds_toArray, List.set_cons_zero, List.set_cons_succ]
      refine wpAnyH_done (by as_aux_lemma => kernel_rfl) ?_ _
      have HE := hid (Bn HBL.out (Bn hbr4 hS5))
      clear hS hS5 hb5 hbr4 L4 q4 f4 hb3
      go_wp2
      go_ret
      exact ⟨rfl, HE.out⟩

set_option maxRecDepth 100000 in
theorem lifted (os : Os) (started : os.Started) (H : Type) (enc : TypeId × Value → H) :
    ReturnsInHanded {} Tryd.checked os 6 .any (fun w args => (Rows.macWritesSpec.pre enc Tryd.prog Tryd.f6 [] false w args ∧ laidMetH Tryd.prog laidL w) ∧ sizedMet enc Tryd.prog Tryd.f6 (OpenSpec.ofChange Rows.macWritesSpec) false w args)
      (Rows.macWritesSpec.post enc Tryd.prog Tryd.f6 false true false false) := by
  refine returnsInHanded_of_change_and (C := Tryd.checked) (X := fun w _ => laidMetH Tryd.prog laidL w) (fun _ _ _ hh h => h.of_heap hh) own started (by kernel_rfl) Tryd.func6
    (ChangeSpec.witness_shaped (enc := enc) (C := Tryd.checked) (os := os) (X := fun w _ => laidMetH Tryd.prog laidL w) false (World.doorLaid Tryd.prog 400 os) #[.slice none 0 0, .slice none 0 0] 8 rfl (World.shaped_of_RefB (by kernel_rfl) (by kernel_rfl)) (by kernel_rfl) (by kernel_rfl) (by kernel_rfl) (door_met os _)) ?_
  intro W base args ds gs before hval0 hW _ _ hL _
  have hval : ∀ (j : Nat) t v, Tryd.f6.params[j]? = some t → args[j]? = some v → Value.okWide Tryd.prog W .any base t v := hval0
  have hW' := hW
  obtain ⟨p, q, hA0, hV, rfl, _, _⟩ := hW
  have hA : DataW.TrodAll enc Tryd.prog W 0 (fun _ => true) true Tryd.f6.params.toList args.toList ds p := hA0
  rw [Tryd.params6] at hA hval
  obtain ⟨v0, vs0, d0, ds0, p0, q0, hargs, rfl, rfl, h0, r0⟩ := trodAll_cons hA
  obtain ⟨v1, vs1, d1, ds1, p1, q1, rfl, rfl, rfl, h1, r1⟩ := trodAll_cons r0
  obtain ⟨rfl, rfl, rfl⟩ := trodAll_nil r1
  obtain rfl : args = #[v0, v1] := by cases args; simp_all
  obtain ⟨rfl, rfl⟩ := trodVars_none hV
  have hlaid := of_laid hL
  clear hA0
  simp only [List.append_nil] at hW'
  have hlt0 : ∀ x ∈ p0, x.block < W.heap.size := fun x hx => hW'.lt x (by simp [hx])
  have hk0 := h0
  obtain ⟨a0, cap0, zs0, rfl, hr0⟩ := open_rd (hval 0 22 v0 rfl rfl) h0 hlt0
  have hlt1 : ∀ x ∈ p1, x.block < W.heap.size := fun x hx => hW'.lt x (by simp [hx])
  have hk1 := h1
  obtain ⟨a1, cap1, l1, rfl, hr1⟩ := open_ps (hval 1 29 v1 rfl rfl) h1 hlt1
  clear hval0
  refine (walk a0 cap0 zs0 a1 cap1 l1 W hlaid hr0 hr1).mono fun e W' ⟨he, hb⟩ => ?_
  subst he
  exact ⟨_, rfl, _, _, _, [] ++ [], _, [], hW', trodAll_cons_mk (shut_bool Tryd.underlying4 _) trodAll_mk0, (trodAll_cons_mk (Below.trod Tryd.laidOut (by kernel_rfl) (of_decide_eq_true (by kernel_rfl)) hk0 hb hlt0) (trodAll_cons_mk (Below.trod Tryd.laidOut (by kernel_rfl) (of_decide_eq_true (by kernel_rfl)) hk1 hb hlt1) trodAll_mk0)), rfl, hb.frame _, fun h => by cases h⟩

theorem over : Rows.macWritesRow.holds Tryd.pinned (OpenSpec.ofChange Rows.macWritesSpec) :=
  OpenClaim.holds_of_wide 6 Tryd.f6 rfl rfl rfl rfl rfl rfl rfl ⟨rfl, rfl, rfl, rfl, rfl⟩ rfl rfl rfl rfl rfl (by kernel_rfl) Tryd.func6 (by kernel_rfl)
    (of_decide_eq_true (by kernel_rfl)) (by unfold Func.isWrapper; first | (rw [if_pos (by decide +kernel)]; kernel_rfl) | (rw [if_neg (by decide +kernel)]; exact ⟨rfl, rfl⟩))
    (fun os started H enc _ => lifted os started H enc)

theorem card : Rows.MacWritesCardSaid :=
  Claim7.holds_tied_plain_at .later [] [.data, .data] true (true, "2cc0e993b3b64b7b1edc58afe05f57fbf6a628b0274488cf50cfbb3c249229ab") false
    over (fun _ h => by cases h) (by kernel_rfl) (fun _ h => by cases h) macWrites_row_tie rfl ⟨rfl, rfl⟩ (by kernel_rfl) rfl
    (fun f fn hf hfn => by
      obtain rfl : f = 6 := Option.some.inj ((show Tryd.prog.funcNamed "saltern/salternlaw04.MacWrites" = some 6 by kernel_rfl).symm.trans hf) |>.symm
      obtain rfl : fn = Tryd.f6 := (Option.some.inj (Tryd.func6.symm.trans hfn)).symm
      exact ⟨by kernel_rfl, fun j t ht => by
        rw [Tryd.params6] at ht
        have hm : t ∈ [22, 29] := by simpa using Array.mem_of_getElem? ht
        have hall : ([22, 29].all fun u => !Tryd.prog.wantsStandIn u) = true := by kernel_rfl
        exact (show Tryd.prog.wantsStandIn t = false by simpa using List.all_eq_true.1 hall t hm)⟩)
    (by kernel_rfl)

end Go.Proofs.YtkipepodgmfbnaaDoor.macWrites
namespace Go.Proofs.YtkipepodgmfbnaaDoor
theorem macWrites_holds : Rows.MacWritesCardSaid := macWrites.card
#print axioms macWrites_holds
end Go.Proofs.YtkipepodgmfbnaaDoor
