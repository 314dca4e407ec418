/-
 The contract of huff.Lengths at any counts of at most 512 symbols: the depths of counts that were halved as often as they were too deep.
-/
import Derived.Test.YtibjlbcnapoblaaGreatDoorPart19
import Derived.Test.YtibjlbcnapoblaaGreatDoorPart12
import Derived.Test.YtibjlbcnapoblaaGreatDoorPart01
import Derived.Test.YtibjlbcnapoblaaGreatDoorPart04
import Derived.Test.YtibjlbcnapoblaaGreatDoorPart10
import Derived.Test.YtibjlbcnapoblaaGreatDoorPart17
import Derived.Laws.DeepNot64
namespace Go.Proofs.YtibjlbcnapoblaaGreatDoor
open Go.RowKit Hf

namespace Hf
def flats (cs : List Int) : Nat → List Int
 | 0 => cs
 | k + 1 => (flats cs k).map flatC
set_option maxRecDepth 100000 in
theorem flats_length (cs : List Int) : ∀ k, (flats cs k).length = cs.length
 | 0 => rfl
 | k + 1 => by rw [flats, List.length_map, flats_length cs k]
set_option maxRecDepth 100000 in
theorem flatC_map_getD (X : List Int) (p : Nat) : (X.map flatC).getD p 0 = flatC (X.getD p 0) := by
 simp only [List.getD, List.getElem?_map]
 cases X[p]? with
 | none => rfl
 | some x => rfl
set_option maxRecDepth 100000 in
theorem flats_rng {cs : List Int} (hc : ∀ k, 0 ≤ cs.getD k 0 ∧ cs.getD k 0 ≤ 1073741824) : ∀ k p, 0 ≤ (flats cs k).getD p 0 ∧ (flats cs k).getD p 0 ≤ 1073741824
 | 0, p => hc p
 | k + 1, p => by
   rw [flats, flatC_map_getD]
   have := flats_rng hc k p
   unfold flatC; split <;> omega
set_option maxRecDepth 100000 in
theorem flat_sum_le : ∀ (X : List Int), (∀ x ∈ X, 0 ≤ x) → (X.map flatC).sum ≤ X.sum
 | [], _ => by simp
 | x :: X, h => by
   rw [List.map_cons, List.sum_cons, List.sum_cons]
   have h1 := flat_sum_le X (fun y hy => h y (by simp [hy]))
   have h2 := h x (by simp)
   have : flatC x ≤ x := by unfold flatC; split <;> omega
   omega
set_option maxRecDepth 100000 in
theorem flat_sum_lt : ∀ (X : List Int), (∀ x ∈ X, 0 ≤ x) → (∃ x ∈ X, 3 ≤ x) → (X.map flatC).sum < X.sum
 | [], _, h => by obtain ⟨x, hx, _⟩ := h; simp at hx
 | x :: X, h, h3 => by
   rw [List.map_cons, List.sum_cons, List.sum_cons]
   have h1 := flat_sum_le X (fun y hy => h y (by simp [hy]))
   have h2 := h x (by simp)
   by_cases c : 3 ≤ x
   · have : flatC x < x := by unfold flatC; split <;> omega
     omega
   · have : flatC x ≤ x := by unfold flatC; split <;> omega
     obtain ⟨y, hy, hy3⟩ := h3
     rw [List.mem_cons] at hy
     have h4 := flat_sum_lt X (fun z hz => h z (by simp [hz])) ⟨y, by
       rcases hy with hy | hy
       · omega
       · exact hy, hy3⟩
     omega
set_option maxRecDepth 100000 in
theorem sum_nonneg : ∀ (X : List Int), (∀ x ∈ X, 0 ≤ x) → 0 ≤ X.sum
 | [], _ => by simp
 | x :: X, h => by
   rw [List.sum_cons]
   have h1 := sum_nonneg X (fun y hy => h y (by simp [hy]))
   have h2 := h x (by simp)
   omega
set_option maxRecDepth 100000 in
theorem flats_less {cs : List Int} (hn : cs.length ≤ 512) (hc : ∀ k, 0 ≤ cs.getD k 0 ∧ cs.getD k 0 ≤ 1073741824) (k : Nat) (hd : (depthsL (flats cs k)).any deepC = true) : (flats cs (k + 1)).sum.toNat < (flats cs k).sum.toNat := by
 have hp : ∀ x ∈ flats cs k, 0 ≤ x := fun x hx => by
   obtain ⟨p, _, e⟩ := mem_getD hx
   have := flats_rng hc k p
   omega
 have h3 : ∃ x ∈ flats cs k, 3 ≤ x := by
   apply Classical.byContradiction
   intro hno
   have := dep_flat (flats cs k) (by rw [flats_length]; exact hn) (fun p => ⟨(flats_rng hc k p).1, by
     by_cases hpl : p < (flats cs k).length
     · apply Classical.byContradiction
       intro hh
       exact hno ⟨_, Hf.getD_in p hpl, by omega⟩
     · have : (flats cs k).getD p 0 = 0 := by simp [List.getD, List.getElem?_eq_none (show (flats cs k).length ≤ p by omega)]
       omega⟩)
   rw [this] at hd
   exact Bool.noConfusion hd
 have h1 := flat_sum_lt _ hp h3
 have h2 := sum_nonneg ((flats cs k).map flatC) (fun y hy => by
   rw [List.mem_map] at hy
   obtain ⟨x, hx, rfl⟩ := hy
   have := hp x hx
   unfold flatC; split <;> omega)
 rw [flats]
 omega
set_option maxRecDepth 100000 in
theorem dep_top (cs : List Int) (hn : cs.length ≤ 512) (hc : ∀ k, 0 ≤ cs.getD k 0 ∧ cs.getD k 0 ≤ 1073741824) (u : Nat) : 0 ≤ (depthsL cs).getD u 0 ∧ (depthsL cs).getD u 0 ≤ 1024 := by
 by_cases hu : u < cs.length
 · refine ⟨by have := dep_cases cs hc u hu; omega, ?_⟩
   by_cases h : 0 < cs.getD u 0
   · obtain ⟨j, hj, e⟩ := srt_all cs u hu h
     by_cases hm : (srt cs).length = 1
     · obtain rfl : j = 0 := by omega
       rw [← e, dep_one cs hm]; omega
     · rw [← e, dep_at cs hc (by omega) j hj]
       have h1 := (treeN_ups cs hc (by omega)).2
       have h2 := dv_rng (treeN cs) j
       have h3 := srt_len cs
       have h4 := nz_len cs cs.length
       omega
   · have := dep_cases cs hc u hu
     omega
 · have : (depthsL cs).getD u 0 = 0 := by simp [List.getD, List.getElem?_eq_none (show (depthsL cs).length ≤ u by rw [dep_long]; omega)]
   omega
end Hf

def rowOf (w : World) (g n : Nat) : List Int := (List.range n).map (fun j => match w.cell? ⟨g, j, none⟩ with | some (.int _ x) => x | _ => 0)
set_option maxRecDepth 100000 in
theorem rowOf_own {w : World} {B e g n cap : Nat} {X : List Int} (h : w.ownsRow B e 1 (.slice (some ⟨g, 0, none⟩) n cap) n (X.map (Value.int .i64))) (hl : X.length = n) : rowOf w g n = X := by
 refine li_ext (by simp [rowOf, hl]) (fun i hi => ?_)
 have hin : i < n := by simpa [rowOf] using hi
 have c := own_cell h hl i hin
 unfold rowOf
 simp [List.getD, hin, c]

set_option maxRecDepth 100000 in
set_option maxHeartbeats 1600000 in
theorem lengths_all (ad : Addr) (cap : Nat) (cs : List Int) (w : World) (hr : Ri w .i64 (some ad) cap cs) (hc : areC cs = true) (h60 : cs.length ≤ 512) (hne : 0 < cs.length) :
   Calls Tryz.prog 131 #[.slice (some ad) cs.length cap] w fun e w' => ∃ v k, e = .returned (.tuple #[v, .int .i64 0]) ∧ (∀ j, j < k → (depthsL (flats cs j)).any deepC = true) ∧ (depthsL (flats cs k)).any deepC = false ∧ w'.ownsRow w.heap.size 3 1 v cs.length ((depthsL (flats cs k)).map (Value.int .i64)) ∧ Below w.heap.size w w' := by
 have hcr := areC_rng hc
 have HA := hid (are_word (some ad) cap cs w hr)
 rw [hc] at HA
 have HC := hid (clone_word ad cap cs w hr (by omega))
 have HW : Hid (∀ k j, (Lit.int .i64 ((flats cs k).getD j 0)).wf = true) := fun k j => by have := flats_rng hcr.2 k j; exact wf_mk_i64 (by omega) (by omega)
 have HDW : Hid (∀ k j, (Lit.int .i64 ((depthsL (flats cs k)).getD j 0)).wf = true) := fun k j => by have := dep_top (flats cs k) (by rw [flats_length]; omega) (flats_rng hcr.2 k) j; exact wf_mk_i64 (by omega) (by omega)
 have HDL : Hid (∀ k, (depthsL (flats cs k)).length = cs.length) := fun k => by rw [dep_long, flats_length]
 have HFL : Hid (∀ k, (flats cs k).length = cs.length) := fun k => flats_length cs k
 have HD : Hid (∀ (k : Nat) (W : World) (g cp : Nat), W.ownsRow w.heap.size 3 1 (.slice (some ⟨g, 0, none⟩) cs.length cp) cs.length ((flats cs k).map (Value.int .i64)) → Calls Tryz.prog 149 #[.slice (some ⟨g, 0, none⟩) cs.length cp] W fun e w' => ∃ v, e = .returned v ∧ w'.ownsRow W.heap.size 3 1 v cs.length ((depthsL (flats cs k)).map (Value.int .i64)) ∧ Below W.heap.size W w') := by
   intro k W g cp ho
   have ho2 := ho
   rw [show W.ownsRow w.heap.size 3 1 (.slice (some ⟨g, 0, none⟩) cs.length cp) cs.length ((flats cs k).map (Value.int .i64)) = W.ownsRow w.heap.size 3 1 (.slice (some ⟨g, 0, none⟩) cs.length cp) (flats cs k).length ((flats cs k).map (Value.int .i64)) from by rw [flats_length]] at ho2
   obtain ⟨a1, c1, e, hr1⟩ := Ri.own ho2 (HW.out k)
   injection e with e1 e2 e3
   subst e1 e3
   have h := depths_word _ _ (flats cs k) W hr1 (by rw [flats_length]; omega) (flats_rng hcr.2 k) (by have := nz_len (flats cs k) (flats cs k).length; rw [flats_length] at this; unfold mostS; rw [flats_length]; omega)
   rw [flats_length] at h
   refine h.mono ?_
   rintro _ w' ⟨v, rfl, h1, h2⟩
   rw [dep_long, flats_length] at h1
   exact ⟨v, rfl, h1, h2⟩
 have HX : Hid (∀ (k : Nat) (W : World) (a2 : Option Addr) (c2 : Nat), W.ownsRow w.heap.size 3 1 (.slice a2 cs.length c2) cs.length ((depthsL (flats cs k)).map (Value.int .i64)) → Calls Tryz.prog 150 #[.slice a2 cs.length c2, .func (.func 151) #[] #[]] W fun e w' => e = .returned (.bool ((depthsL (flats cs k)).any deepC)) ∧ w' = W) := by
   intro k W a2 c2 ho
   have ho2 := ho
   rw [show W.ownsRow w.heap.size 3 1 (.slice a2 cs.length c2) cs.length ((depthsL (flats cs k)).map (Value.int .i64)) = W.ownsRow w.heap.size 3 1 (.slice a2 cs.length c2) (depthsL (flats cs k)).length ((depthsL (flats cs k)).map (Value.int .i64)) from by rw [HDL.out]] at ho2
   obtain ⟨a1, c1, e, hr1⟩ := Ri.own ho2 (HDW.out k)
   injection e with e1 e2 e3
   subst e1 e3
   have h := contains_29 _ _ (depthsL (flats cs k)) W hr1
   rwa [HDL.out] at h
 have HFT : Hid (∀ (k : Nat) (W : World) (g cp : Nat), W.ownsRow w.heap.size 3 1 (.slice (some ⟨g, 0, none⟩) cs.length cp) cs.length ((flats cs k).map (Value.int .i64)) → Calls Tryz.prog 152 #[.slice (some ⟨g, 0, none⟩) cs.length cp] W fun e w' => e = .returned (.tuple #[]) ∧ w'.ownsRow w.heap.size 3 1 (.slice (some ⟨g, 0, none⟩) cs.length cp) cs.length ((flats cs (k + 1)).map (Value.int .i64)) ∧ W.grownBy w' (some g)) := fun k W g cp ho => flatten_word cs.length cp w.heap.size g (flats cs k) W (by omega) (flats_length cs k) (fun j => (flats_rng hcr.2 k j).2) ho
 have HLS : Hid (∀ k, (depthsL (flats cs k)).any deepC = true → (flats cs (k + 1)).sum.toNat < (flats cs k).sum.toNat) := fun k => flats_less h60 hcr.2 k
 clear hr hc hcr
 obtain ⟨len, hl⟩ : ∃ n, n = cs.length := ⟨_, rfl⟩
 rw [← hl] at HA HC HD HX HFT HDL HFL h60 hne ⊢
 clear hl
 go_enter Tryz.func131, Tryz.ntmps131
 go_wp2_with fail
 refine HA.out.mono ?_
 rintro _ w1 ⟨rfl, hw⟩
 obtain rfl := hw.symm
 clear hw
 go_wp2_with fail
 refine HC.out.mono ?_
 rintro _ w1 ⟨v1, rfl, ho1, hb1⟩
 obtain ⟨g, cp, rfl, hg, _⟩ := own_some ho1 hne
 have HD1 := hid (HD.out 0 w1 g cp ho1)
 have HO1 := hid ho1
 have HB1 := hid hb1
 have HGE := hid hg
 clear ho1 hb1 hg HA HC
 go_wp2_with fail
 refine HD1.out.mono ?_
 rintro _ w2 ⟨v2, rfl, ho2, hb2⟩
 obtain ⟨g2, cp2, rfl, hg2, _⟩ := own_some ho2 hne
 have HO2 := hid (own_low ho2 HB1.out.size)
 have HOW2 := hid (own_later HO1.out hb2)
 have HB2 := hid (Bn HB1.out hb2)
 clear ho2 hb2 hg2 HD1 HO1 HB1
 go_wp2
 go_loopw [5] (fun y wr => ∃ k g3 cp3 : Nat, y = .slice (some ⟨g3, 0, none⟩) len cp3 ∧ Hid (∀ j, j < k → (depthsL (flats cs j)).any deepC = true) ∧ Hid (wr.ownsRow w.heap.size 3 1 (.slice (some ⟨g, 0, none⟩) len cp) len ((flats cs k).map (Value.int .i64))) ∧ Hid (wr.ownsRow w.heap.size 3 1 (.slice (some ⟨g3, 0, none⟩) len cp3) len ((depthsL (flats cs k)).map (Value.int .i64))) ∧ Hid (Below w.heap.size w wr)) (fun _ wr => (rowOf wr g len).sum.toNat)
 case atStart => exact ⟨0, g2, cp2, rfl, fun j hj => by omega, HOW2, HO2, HB2⟩
 case round =>
   clear HOW2 HO2 HB2
   obtain ⟨k, g3, cp3, rfl, HK, HOW, HO, HB⟩ := hrel
   have HXK := hid (HX.out k wr _ _ HO.out)
   have HM := hid (rowOf_own HOW.out (HFL.out k))
   cases hdk : (depthsL (flats cs k)).any deepC with
   | true =>
     rw [hdk] at HXK
     have HK2 : Hid (∀ j, j < k + 1 → (depthsL (flats cs j)).any deepC = true) := fun j hj => by
       by_cases e : j = k
       · rw [e]; exact hdk
       · exact HK.out j (by omega)
     have HLT := hid (HLS.out k hdk)
     clear hdk HK
     go_wp2_with fail
     refine HXK.out.mono ?_
     rintro _ w3 ⟨rfl, hw⟩
     obtain rfl := hw.symm
     clear hw
     have HF := hid (HFT.out k _ g cp HOW.out)
     clear HXK
     go_wp2_with fail
     refine HF.out.mono ?_
     rintro _ w4 ⟨rfl, ho4, hg4⟩
     have HB4 := hid (HB.out.grown hg4 HB.out.size (fun j hj => by injection hj with hj; have := HGE.out; omega))
     have HD4 := hid (HD.out (k + 1) w4 g cp ho4)
     have HO4 := hid ho4
     clear ho4 hg4 HF HOW HO HB
     go_wp2_with fail
     refine HD4.out.mono ?_
     rintro _ w5 ⟨v5, rfl, ho5, hb5⟩
     obtain ⟨g5, cp5, rfl, _, _⟩ := own_some ho5 hne
     have HO5 := hid (own_low ho5 HB4.out.size)
     have HOW5 := hid (own_later HO4.out hb5)
     have HB5 := hid (Bn HB4.out hb5)
     have HM5 := hid (rowOf_own HOW5.out (HFL.out (k + 1)))
     clear ho5 hb5 HD4 HO4 HB4
     go_wp2
     exact ⟨⟨k + 1, g5, cp5, rfl, HK2, HOW5, HO5, HB5⟩, by rw [HM.out, HM5.out]; exact HLT.out⟩
   | false =>
     rw [hdk] at HXK
     have HDK := hid hdk
     clear hdk
     go_wp2_with fail
     refine HXK.out.mono ?_
     rintro _ w3 ⟨rfl, hw⟩
     obtain rfl := hw.symm
     clear hw HXK
     go_wp2
     go_ret2
     exact ⟨_, k, rfl, HK.out, HDK.out, HO.out, HB.out⟩
end Go.Proofs.YtibjlbcnapoblaaGreatDoor
/-
 The contract of huff.Lengths at any counts of at most 512 symbols, nil among them.
-/
namespace Go.Proofs.YtibjlbcnapoblaaGreatDoor
open Go.RowKit Hf

set_option maxRecDepth 100000 in
theorem clone_nil (cap : Nat) (w : World) : Calls Tryz.prog 148 #[.slice none 0 cap] w fun e w' => (∃ c, e = .returned (.slice none 0 c) ∧ c ≤ cap) ∧ w' = w := by
 have q22 : ∀ (w : World) (a : Option Addr) (n c n' c' : Nat), (binOp .eql 112 (.slice a n c) (.slice none n' c')).run Tryz.prog w = .ok (.bool a.isNone) w := fun w a n c n' c' => Lib.run_eql_slice_nil w _ _ a n c n' c' Tryz.underlying112
 go_enter Tryz.func148, Tryz.ntmps148
 go_wp2
 go_ret
 exact ⟨⟨_, rfl, by omega⟩, rfl⟩

set_option maxRecDepth 100000 in
theorem ri_nil (W : World) (c : Nat) (h : c ≤ maxLen) : Ri W .i64 none c [] := ⟨Nat.zero_le _, h, fun h => absurd h (by simp), fun j => by simp; exact wf_zero .i64⟩
set_option maxRecDepth 100000 in
theorem dep_nil : depthsL [] = [] := by decide

set_option maxRecDepth 100000 in
set_option maxHeartbeats 800000 in
theorem lengths_nil (cap : Nat) (w : World) (hm : cap ≤ maxLen) :
   Calls Tryz.prog 131 #[.slice none 0 cap] w fun e w' => ∃ a2 c2, e = .returned (.tuple #[.slice a2 0 c2, .int .i64 0]) ∧ c2 ≤ maxLen ∧ Below w.heap.size w w' := by
 have HA := hid (are_word none cap [] w (ri_nil w cap hm))
 rw [show areC [] = true from by decide] at HA
 have HC := hid (clone_nil cap w)
 have HD : Hid (∀ c, c ≤ maxLen → Calls Tryz.prog 149 #[.slice none 0 c] w fun e w' => ∃ v, e = .returned v ∧ w'.ownsRow w.heap.size 3 1 v 0 [] ∧ Below w.heap.size w w') := fun c hcm => by
   have h := depths_word none c [] w (ri_nil w c hcm) (by simp) (fun k => by simp) (by unfold mostS; simp [nz])
   rw [dep_nil] at h
   exact h
 have HX : Hid (∀ W c a2, Ri W .i64 a2 c [] → Calls Tryz.prog 150 #[.slice a2 0 c, .func (.func 151) #[] #[]] W fun e w' => e = .returned (.bool false) ∧ w' = W) := fun W c a2 h2 => contains_29 a2 c [] W h2
 have HM := hid hm
 clear hm
 go_enter Tryz.func131, Tryz.ntmps131
 go_wp2_with fail
 refine HA.out.mono ?_
 rintro _ w1 ⟨rfl, hw⟩
 obtain rfl := hw.symm
 clear hw
 go_wp2_with fail
 refine HC.out.mono ?_
 rintro _ w1 ⟨⟨c1, rfl, hc1⟩, hw⟩
 obtain rfl := hw.symm
 have HD1 := hid (HD.out c1 (Nat.le_trans hc1 HM.out))
 clear hw hc1 HD HA HC
 go_wp2_with fail
 refine HD1.out.mono ?_
 rintro _ w2 ⟨v2, rfl, ho2, hb2⟩
 obtain ⟨a2, c2, rfl, hr2⟩ := Ri.own (zs := []) (kd := .i64) ho2 (fun j => by simp; exact wf_zero .i64)
 have HX2 := hid (HX.out w2 c2 a2 hr2)
 have HB2 := hid hb2
 have HC2 := hid hr2.most
 clear ho2 hb2 hr2 HD1 HX
 go_wp2
 refine wp_loop_rounds 1 ?_
 rw [rounds_succ]
 go_wp2_with fail
 refine HX2.out.mono ?_
 rintro _ w3 ⟨rfl, hw⟩
 obtain rfl := hw.symm
 clear hw
 go_wp2
 go_ret2
 exact ⟨_, _, rfl, HC2.out, HB2.out⟩

def LenPost (cs : List Int) (w : World) (e : Ending) (w' : World) : Prop :=
 (areC cs = false ∧ e = .returned (.tuple #[.slice none 0 0, .int .i64 50]) ∧ Below w.heap.size w w') ∨
 (areC cs = true ∧ ∃ k a2 c2, e = .returned (.tuple #[.slice a2 cs.length c2, .int .i64 0]) ∧ (∀ j, j < k → (depthsL (flats cs j)).any deepC = true) ∧ (depthsL (flats cs k)).any deepC = false ∧ Ri w' .i64 a2 c2 (depthsL (flats cs k)) ∧ Below w.heap.size w w')

set_option maxRecDepth 100000 in
theorem lengths_any (a : Option Addr) (cap : Nat) (cs : List Int) (w : World) (hr : Ri w .i64 a cap cs) (h60 : cs.length ≤ 512) :
   Calls Tryz.prog 131 #[.slice a cs.length cap] w (LenPost cs w) := by
 cases hc : areC cs with
 | false =>
   refine (lengths_no a cap cs w hr hc).mono ?_
   rintro e w' ⟨he, rfl⟩
   exact Or.inl ⟨hc, he, Below.refl _ _⟩
 | true =>
   have hcr := areC_rng hc
   by_cases h0 : 0 < cs.length
   · obtain ⟨b, off, rfl, _, _⟩ := hr.cells h0
     refine (lengths_all _ cap cs w hr hc h60 h0).mono ?_
     rintro e w' ⟨v, k, he, h1, h2, ho, hb⟩
     have hdl : (depthsL (flats cs k)).length = cs.length := by rw [dep_long, flats_length]
     rw [← hdl] at ho
     obtain ⟨a2, c2, rfl, hr2⟩ := Ri.own ho (fun j => by have := dep_top (flats cs k) (by rw [flats_length]; omega) (flats_rng hcr.2 k) j; exact wf_mk_i64 (by omega) (by omega))
     rw [hdl] at he
     exact Or.inr ⟨hc, k, a2, c2, he, h1, h2, hr2, hb⟩
   · have hnil : cs = [] := List.length_eq_zero_iff.1 (by omega)
     subst hnil
     have hd0 : (depthsL ([] : List Int)).any deepC = false := by rw [dep_nil]; rfl
     cases a with
     | none =>
       refine (lengths_nil cap w hr.most).mono ?_
       rintro e w' ⟨a2, c2, he, hm2, hb⟩
       refine Or.inr ⟨hc, 0, a2, c2, he, fun j hj => by omega, hd0, ?_, hb⟩
       show Ri w' .i64 a2 c2 (depthsL [])
       rw [dep_nil]
       exact ⟨Nat.zero_le _, hm2, fun h => absurd h (by simp), fun j => by simp; exact wf_zero .i64⟩
     | some ad =>
       refine (lengths_flat ad cap [] w hr hc (by unfold mostS; simp [nz]) hd0 (fun j => by rw [dep_nil]; simp; exact wf_zero .i64)).mono ?_
       rintro e w' ⟨v, he, ho, hb⟩
       obtain ⟨a2, c2, rfl, hr2⟩ := Ri.own ho (fun j => by rw [dep_nil]; simp; exact wf_zero .i64)
       exact Or.inr ⟨hc, 0, a2, c2, he, fun j hj => by omega, hd0, hr2, hb⟩
end Go.Proofs.YtibjlbcnapoblaaGreatDoor
/-
 The lengths of counts as a function, and the contract of codec's codeOf.
-/
namespace Go.Proofs.YtibjlbcnapoblaaGreatDoor
open Go.RowKit Hf

def goL : Nat → List Int → List Int
 | 0, cs => depthsL cs
 | n + 1, cs => if (depthsL cs).any deepC = true then goL n (cs.map flatC) else depthsL cs
def lenF (cs : List Int) : List Int := goL 31 cs
theorem flats_shift (cs : List Int) : ∀ j, flats (cs.map flatC) j = flats cs (j + 1)
 | 0 => rfl
 | j + 1 => by rw [flats, flats_shift cs j]; rfl
theorem goL_eq : ∀ (k n : Nat) (cs : List Int), k ≤ n → (∀ j, j < k → (depthsL (flats cs j)).any deepC = true) → (depthsL (flats cs k)).any deepC = false → goL n cs = depthsL (flats cs k)
 | 0, 0, _, _, _, _ => rfl
 | 0, n + 1, cs, _, _, h => by
   rw [flats] at h ⊢
   rw [goL, if_neg (by rw [h]; decide)]
 | k + 1, 0, _, h, _, _ => by omega
 | k + 1, n + 1, cs, hk, h1, h2 => by
   have h0 := h1 0 (by omega)
   rw [flats] at h0
   rw [goL, if_pos h0, goL_eq k n (cs.map flatC) (by omega) (fun j hj => by rw [flats_shift]; exact h1 (j + 1) (by omega)) (by rw [flats_shift]; exact h2), flats_shift]
def bndH : Nat → Int
 | 0 => 1073741824
 | j + 1 => bndH j / 2 + 1
theorem flats_bnd {cs : List Int} (hc : ∀ k, 0 ≤ cs.getD k 0 ∧ cs.getD k 0 ≤ 1073741824) : ∀ j i, (flats cs j).getD i 0 ≤ bndH j
 | 0, i => (hc i).2
 | j + 1, i => by
   have h1 := flats_bnd hc j i
   have h2 := flats_rng hc j i
   rw [flats, bndH]
   simp only [List.getD, List.getElem?_map] at h1 h2 ⊢
   generalize (flats cs j)[i]? = o at *
   cases o with
   | none => simp only [Option.map_none, Option.getD_none] at h1 ⊢; omega
   | some x =>
     simp only [Option.map_some, Option.getD_some] at h1 h2 ⊢
     unfold flatC
     split <;> omega
theorem lenF_eq {cs : List Int} (hn : cs.length ≤ 512) (hc : ∀ k, 0 ≤ cs.getD k 0 ∧ cs.getD k 0 ≤ 1073741824) {k : Nat} (h1 : ∀ j, j < k → (depthsL (flats cs j)).any deepC = true) (h2 : (depthsL (flats cs k)).any deepC = false) : depthsL (flats cs k) = lenF cs := by
 have hk : k ≤ 31 := by
   by_cases c : k ≤ 31
   · exact c
   · exfalso
     have h := h1 31 (by omega)
     have e : bndH 31 = 2 := by decide
     have hb : ∀ i, 0 ≤ (flats cs 31).getD i 0 ∧ (flats cs 31).getD i 0 ≤ 2 := fun i => by
       have h3 := flats_bnd hc 31 i
       have h4 := flats_rng hc 31 i
       omega
     rw [dep_flat (flats cs 31) (by rw [flats_length]; exact hn) hb] at h
     cases h
 exact (goL_eq k 31 cs hk h1 h2).symm
theorem flats_some (cs : List Int) (hn : cs.length ≤ 512) (hc : ∀ k, 0 ≤ cs.getD k 0 ∧ cs.getD k 0 ≤ 1073741824) : ∃ k, (∀ j, j < k → (depthsL (flats cs j)).any deepC = true) ∧ (depthsL (flats cs k)).any deepC = false := by
 have hend : (depthsL (flats cs 31)).any deepC = false := dep_flat (flats cs 31) (by rw [flats_length]; exact hn) (fun i => by
   have e : bndH 31 = 2 := by decide
   have h3 := flats_bnd hc 31 i
   have h4 := flats_rng hc 31 i
   omega)
 have key : ∀ n, (∃ k, (∀ j, j < k → (depthsL (flats cs j)).any deepC = true) ∧ (depthsL (flats cs k)).any deepC = false) ∨ (∀ j, j < n → (depthsL (flats cs j)).any deepC = true) := by
   intro n
   induction n with
   | zero => right; intro j hj; omega
   | succ n ih =>
     rcases ih with h | h
     · exact Or.inl h
     · cases c : (depthsL (flats cs n)).any deepC with
       | false => exact Or.inl ⟨n, h, c⟩
       | true =>
         right
         intro j hj
         by_cases e : j = n
         · rw [e]; exact c
         · exact h j (by omega)
 rcases key 32 with h | h
 · exact h
 · have := h 31 (by omega)
   rw [hend] at this
   cases this
theorem lenF_facts {cs : List Int} (hn : cs.length ≤ 512) (hc : ∀ k, 0 ≤ cs.getD k 0 ∧ cs.getD k 0 ≤ 1073741824) {k : Nat} (h1 : ∀ j, j < k → (depthsL (flats cs j)).any deepC = true) (h2 : (depthsL (flats cs k)).any deepC = false) : (lenF cs).length = cs.length ∧ checkB (lenF cs) = true := by
 rw [← lenF_eq hn hc h1 h2]
 exact ⟨by rw [dep_long, flats_length], dep_code (flats cs k) (by rw [flats_length]; exact hn) (flats_rng hc k) h2⟩

theorem cell_congr {w w' : World} {b i : Nat} (h : w'.heap[b]? = w.heap[b]?) : w'.cell? ⟨b, i, none⟩ = w.cell? ⟨b, i, none⟩ := by
 unfold World.cell?
 simp only [h]
theorem Ri.apart {w : World} {kd : IntKind} {a : Option Addr} {cap : Nat} {zs : List Int} {g : Nat} {cs : Array Value} {t : TypeId} {fr : Nat × Nat} (h : Ri w kd a cap zs) (hg : w.heap[g]? = some (.cells cs t fr)) (hno : ∀ (i : Nat) (x : Int), cs[i]? ≠ some (Value.int kd x)) (cs' : Array Value) : Ri (w.setRow g cs') kd a cap zs := by
 refine ⟨h.room, h.most, fun h0 => ?_, h.fits⟩
 obtain ⟨b, off, ha, hbw, hc⟩ := h.cells h0
 have hne : b ≠ g := fun e => by
   subst e
   have h1 := hc 0 h0
   rw [Joins.cell_of_block hg] at h1
   exact hno _ _ h1
 have hs : b < (w.setRow g cs').heap.size := by
   have := (below_setRow (Below.refl g w) (Nat.le_refl _) cs').size
   by_cases c : b < (w.setRow g cs').heap.size
   · exact c
   · have e1 := setRow_other w g b cs' hne
     rw [Array.getElem?_eq_none (by omega), Array.getElem?_eq_getElem hbw] at e1
     cases e1
 exact ⟨b, off, ha, hs, fun j hj => (cell_congr (setRow_other w g b cs' hne)).trans (hc j hj)⟩
def CodPost (cs : List Int) (w : World) (e : Ending) (w' : World) : Prop :=
 ∃ a1 c1 a2 c2, e = .returned (.agg #[.slice a1 cs.length c1, .slice a2 cs.length c2]) ∧ Ri w' .i64 a1 c1 (lenF cs) ∧ Ri w' .u16 a2 c2 (codesL (lenF cs)) ∧ (lenF cs).length = cs.length ∧ checkB (lenF cs) = true ∧ Below w.heap.size w w'

set_option maxHeartbeats 1600000 in
set_option maxRecDepth 100000 in
theorem codeOf_word (a : Option Addr) (cap : Nat) (cs : List Int) (w : World) (hr : Ri w .i64 a cap cs) (hn : cs.length ≤ 512) (hc : areC cs = true) : Calls Tryz.prog 102 #[.slice a cs.length cap] w (CodPost cs w) := by
 have hb0 := bel_alloc w (.cells #[.slice none 0 0, .slice none 0 0] 157)
 have e0 := heap_new w (.cells #[.slice none 0 0, .slice none 0 0] 157)
 have HLEN := hid (lengths_any a cap cs (w.alloc (.cells #[.slice none 0 0, .slice none 0 0] 157)) (hr.later hb0) hn)
 have HB0 := hid hb0
 have HE0 := hid e0
 have HN := hid hn
 have HC := hid hc
 clear hr hb0 e0
 obtain ⟨len, hle⟩ : ∃ n, n = cs.length := ⟨_, rfl⟩
 have HL := hid hle
 unfold CodPost
 rw [← hle] at HLEN ⊢
 clear hle hn hc
 go_enter Tryz.func102, Tryz.ntmps102
 go_wp2_with fail
 refine HLEN.out.mono ?_
 rintro _ w1 (⟨hc2, _⟩ | ⟨_, k, a2, c2, rfl, hk1, hk2, hr2, hb1⟩)
 · rw [HC.out] at hc2
   exact Bool.noConfusion hc2
 · have hcr := (areC_rng HC.out).2
   have hf := lenF_facts HN.out hcr hk1 hk2
   rw [lenF_eq HN.out hcr hk1 hk2] at hr2
   have HF := hid hf
   have HR2 := hid hr2
   have HB1 := hid hb1
   have HE1 := hid ((hb1.block w.heap.size (by simp)).trans HE0.out)
   have HCD : Hid (Calls Tryz.prog 132 #[.slice a2 len c2] w1 fun e w' => ∃ a3 c3, e = .returned (.tuple #[.slice a3 len c3, .int .i64 0]) ∧ Ri w' .u16 a3 c3 (codesL (lenF cs)) ∧ Below w1.heap.size w1 w') := by
     have h := codes_word a2 c2 (lenF cs) w1 hr2 hf.2
     rw [hf.1, ← HL.out] at h
     refine h.mono ?_
     rintro e w' ⟨v, rfl, ho, hb⟩
     obtain ⟨a3, c3, rfl, hr3⟩ := Ri.own ho (fun j => by
       have := codesL_rng (lenF cs) j
       exact wf_mk_u16 this.1 this.2)
     exact ⟨a3, c3, by rw [codesL_length, hf.1, ← HL.out], hr3, hb⟩
   clear hcr hf hr2 hb1 hk1 hk2 HLEN HE0
   rw [← HL.out]
   go_wp2_with fail
   refine HCD.out.mono ?_
   rintro _ w2 ⟨a3, c3, rfl, hr3, hb2⟩
   have HR3 := hid hr3
   have HR22 := hid (HR2.out.later hb2)
   have HB2 := hid (Bn (Bn HB0.out HB1.out) hb2)
   have he2 := (hb2.block w.heap.size (by have := HE1.out; rw [Array.getElem?_eq_some_iff] at this; exact this.1)).trans HE1.out
   clear hr3 hb2 HCD HR2 HB0 HB1 HE1
   have q50 : (Tryz.prog.info? 157).map (·.size) = some (#[Value.slice a2 len c2, Value.slice a3 len c3] : Array Value).size := by kernel_rfl
   have o50 : (#[Value.slice a2 len c2, Value.slice a3 len c3] : Array Value).all (·.oneCell') = true := by simp [Value.oneCell']
   go_wp2_with (refine wpList_store_rowTo rfl 157 _ _ rfl rfl w.heap.size #[.slice a2 len c2, .slice a3 len c3] rfl rfl 157 _ he2 q50 rfl o50 ?_)
   have hl2 := below_setRow HB2.out (Nat.le_refl _) #[.slice a2 len c2, .slice a3 len c3]
   have hno : ∀ (kd : IntKind) (i : Nat) (x : Int), (#[Value.slice none 0 0, Value.slice none 0 0] : Array Value)[i]? ≠ some (Value.int kd x) := fun kd i x h => by
     match i, h with
     | 0, h => simp at h
     | 1, h => simp at h
     | i + 2, h => simp at h
   have hr22 := HR22.out.apart he2 (hno _) #[.slice a2 len c2, .slice a3 len c3]
   have hr33 := HR3.out.apart he2 (hno _) #[.slice a2 len c2, .slice a3 len c3]
   refine bodyPost_ret (results_cell_row (p := 2) (ty := 157) rfl _ _ w.heap.size 157 #[.slice a2 len c2, .slice a3 len c3] (0, 0) _ rfl (setRow_heap _ _ _ _ _ _ he2) Tryz.underlying157 rfl (by kernel_rfl)) rfl ?_
   exact ⟨a2, c2, a3, c3, rfl, hr22, hr33, HF.out.1.trans HL.out.symm, HF.out.2, hl2⟩
end Go.Proofs.YtibjlbcnapoblaaGreatDoor
/-
 A code's tree: the contract of codec's grown.
-/
namespace Go.Proofs.YtibjlbcnapoblaaGreatDoor
open Go.RowKit Hf

theorem flat_ent (T : Tr) (i b : Nat) (hb : b < 2) : (flatN T).getD (i * 2 + b) 0 = ent T i b := by
 unfold ent
 by_cases e : b = 0
 · subst e; rw [if_pos rfl, Nat.add_zero, Nat.mul_comm]; exact flatN_wt T i
 · obtain rfl : b = 1 := by omega
   rw [if_neg (by omega), Nat.mul_comm]; exact flatN_inn T i
theorem flat_setE (T : Tr) (i b : Nat) (x : Int) (hi : i < T.length) (hb : b < 2) : (flatN T).set (i * 2 + b) x = flatN (setE T i b x) := by
 unfold setE
 induction T generalizing i with
 | nil => simp at hi
 | cons y T ih =>
   cases i with
   | zero =>
     by_cases e : b = 0
     · subst e; simp [flatN_cons]
     · obtain rfl : b = 1 := by omega
       simp [flatN_cons]
   | succ i =>
     have := ih i (by simpa using hi)
     rw [show (i + 1) * 2 + b = i * 2 + b + 1 + 1 from by omega]
     simp only [flatN_cons, List.set_cons_succ, List.getD_cons_succ]
     rw [this]
theorem Tryz.info238 : (Tryz.prog.info? 238).map (fun i => (i.zero, i.size, i.bytes)) = some (some (.agg #[.int .i64 0, .int .i64 0]), 2, 16) := by kernel_rfl
def Tm (B : Nat) (w : World) (v : Value) (T : Tr) : Prop := w.ownsRow B 238 2 v T.length ((flatN T).map (Value.int .i64))
theorem Tm.cells {B : Nat} {w : World} {v : Value} {T : Tr} (h : Tm B w v T) (h0 : 0 < T.length) : ∃ g cap, v = .slice (some ⟨g, 0, none⟩) T.length cap ∧ B ≤ g ∧ T.length ≤ cap ∧ cap ≤ maxLen ∧ (∀ i b, i < T.length → b < 2 → w.cell? ⟨g, i * 2 + b, none⟩ = some (.int .i64 (ent T i b))) ∧ ∀ k, w.frozen? ⟨g, k, none⟩ = false := by
 have hr := h
 unfold Tm at hr
 rcases hr.2 with ⟨_, h2⟩ | ⟨g, cap, cur, rfl, hB, hh, hn, hm, _⟩
 · omega
 · refine ⟨g, cap, rfl, hB, hn, hm, fun i b hi hb => ?_, fun k => hr.frozenAt k⟩
   have hlt : i * 2 + b < ((flatN T).map (Value.int .i64)).length := by rw [List.length_map, flatN_length]; omega
   rw [hr.cellAt _ (by omega), ← flat_ent T i b hb]
   simp only [List.length_map] at hlt
   simp [List.getD, List.getElem?_eq_getElem hlt]
theorem Tm.put {B g cap : Nat} {w : World} {T : Tr} (h : Tm B w (.slice (some ⟨g, 0, none⟩) T.length cap) T) (i b : Nat) (x : Int) (hi : i < T.length) (hb : b < 2) : Tm B (w.setCell ⟨g, i * 2 + b, none⟩ (.int .i64 x)) (.slice (some ⟨g, 0, none⟩) T.length cap) (setE T i b x) := by
 unfold Tm at h ⊢
 have hs := (h.stored (i * 2 + b) (.int .i64 x)).1
 rw [← List.map_set, flat_setE T i b x hi hb] at hs
 rw [setE_length]; exact hs

theorem two_new (w : World) (x y : Value) (t : TypeId) : ∀ j u, [x, y][j]? = some u → (w.alloc (.cells #[x, y] t)).cell? (Addr.add ⟨w.heap.size, 0, none⟩ j) = some u := by
 intro j u hj
 have h := heap_new w (.cells #[x, y] t)
 have h2 : (w.alloc (.cells #[x, y] t)).cell? (Addr.add ⟨w.heap.size, 0, none⟩ j) = #[x, y][j]? := by
   rw [Go.WideShapes.add_plain]
   simp only [World.cell?, h, Nat.zero_add]; rfl
 rw [h2, ← hj]
 simp
theorem and_u16 (y : Nat) (h : y < 65536) : bits .and .u16 (y : Int) 1 = ((y % 2 : Nat) : Int) := by
 rw [show (1 : Int) = ((1 : Nat) : Int) from rfl, u16_and_nat y 1 h (by omega), Nat.and_one_is_mod]

set_option maxHeartbeats 6400000 in
set_option maxRecDepth 100000 in
theorem tgrown_word (W w : World) (v : Value) (T : Tr) (P : List (Nat × Nat)) (S : Nat × Nat → Prop) (s c n : Nat) (hown : Tm W.heap.size w v T) (hbel : Below W.heap.size W w) (hT : Tv T P S) (hn : 1 ≤ n) (hn2 : n ≤ 15) (hc : c < 2 ^ n) (hs : s ≤ 1000) (hlen : T.length ≤ 100000)
   (hap : ∀ l p, S (l, p) → l < n → c / 2 ^ (n - l) ≠ p) :
   Calls Tryz.prog 169 #[v, .int .i64 (s : Int), .int .u16 (c : Int), .int .i64 (n : Int)] w fun e w' => ∃ v', e = .returned v' ∧ Tm W.heap.size w' v' (growF s c (n - 1) 0 T) ∧ Below W.heap.size W w' := by
 obtain ⟨i0, hi, hz0, hz1, hz2⟩ := info_parts Tryz.info238
 have hc16 : c < 65536 := Nat.lt_of_lt_of_le hc (by have := Nat.pow_le_pow_right (show 0 < 2 by decide) (show n ≤ 16 by omega); simpa using this)
 have HAP := hid hap
 have HST : Hid (∃ (T' : Tr) (P' : List (Nat × Nat)), Tm W.heap.size w v T' ∧ Tv T' P' S ∧ 0 < T'.length ∧ P'.getD 0 (0, 0) = (n - 1 - (n - 1), c / 2 ^ (n - 1 + 1)) ∧ growF s c (n - 1) 0 T' = growF s c (n - 1) 0 T ∧ T'.length + (n - 1) ≤ 100100) :=
   ⟨T, P, hown, hT, hT.pos, by rw [hT.root, show n - 1 + 1 = n from by omega, Nat.div_eq_of_lt hc, Nat.sub_self], rfl, by omega⟩
 have HB := hid hbel
 clear hown hbel hT hap
 obtain ⟨m0, hm0⟩ : ∃ m, m = n - 1 := ⟨_, rfl⟩
 have HM0 := hid hm0
 rw [← hm0] at HST ⊢
 have HNI : Hid ((n : Int) - 1 = (m0 : Int)) := by show _ = _; omega
 have hm14 : m0 ≤ 14 := by omega
 clear hm0
 go_enter Tryz.func169, Tryz.ntmps169
 go_wp2_with fail
 rw [HNI.out]
 clear HNI
 go_loopw [0, 3, 9, 10] (fun x y z _ wr => ∃ (m at_ : Nat), y = .int .i64 (m : Int) ∧ z = .int .i64 (at_ : Int) ∧ m ≤ m0 ∧ Hid (Below W.heap.size W wr) ∧ Hid (∃ (T' : Tr) (P' : List (Nat × Nat)), Tm W.heap.size wr x T' ∧ Tv T' P' S ∧ at_ < T'.length ∧ P'.getD at_ (0, 0) = (m0 - m, c / 2 ^ (m + 1)) ∧ growF s c m at_ T' = growF s c m0 0 T ∧ T'.length + m ≤ 100100)) (fun _ y _ _ _ => (intOf y).toNat)
 case atStart => exact ⟨m0, 0, rfl, rfl, by omega, HB.out, HST.out⟩
 case round =>
   obtain ⟨m, at_, rfl, rfl, hm, HB1, HX⟩ := hrel
   clear HST HB
   obtain ⟨T', P', hTm, hTv, hat, hP, hg, hln⟩ := HX.out
   clear HX
   obtain ⟨g, cap, hv, hgB, hcap, hcm, hcl, hfz⟩ := hTm.cells hTv.pos
   subst hv
   rcases Nat.eq_zero_or_pos m with h0 | h0
   · subst h0
     obtain ⟨b, hb⟩ : ∃ b, b = c % 2 := ⟨_, rfl⟩
     have hand := and_u16 c hc16
     rw [← hb] at hand
     have hb2 : b < 2 := by omega
     have hbi : (b : Int) < 2 := by omega
     have ce := hcl at_ b hat hb2
     have fe := hfz (at_ * 2 + b)
     have hati : (at_ : Int) < (T'.length : Int) := by omega
     have HG0 : Hid (growF s c m0 0 T = setE T' at_ b (-(s : Int) - 1)) := by show _ = _; rw [← hg, growF, ← hb]
     have HTM := hid (hTm.put at_ b (-(s : Int) - 1) hat hb2)
     have HB3 := hid (HB1.out.setCell (p := ⟨g, at_ * 2 + b, none⟩) hgB (.int .i64 (-(s : Int) - 1)))
     obtain ⟨tl, htl⟩ : ∃ x, x = T'.length := ⟨_, rfl⟩
     rw [← htl] at hat hcap hati HTM
     rw [← htl]
     clear hb hcl hfz hTm hTv hP hg hln htl
     have hnot : bits .xor .i64 (-1) (s : Int) = -(s : Int) - 1 := by rw [i64_not s (by omega)]; omega
     go_wp2_with fail
     go_ret
     refine ⟨_, rfl, ?_, HB3.out⟩
     rw [HG0.out]
     exact HTM.out
   · obtain ⟨q, rfl⟩ : ∃ q, m = q + 1 := ⟨m - 1, by omega⟩
     have hq0 : (0 : Int) < ((q : Int) + 1) := by omega
     obtain ⟨y, hy⟩ : ∃ y, y = c / 2 ^ (q + 1) := ⟨_, rfl⟩
     have hyl : y < 65536 := by rw [hy]; exact Nat.lt_of_le_of_lt (Nat.div_le_self _ _) hc16
     have hsh : (c : Int) / 2 ^ (q + 1) = (y : Int) := by rw [hy]; simp
     have hand := and_u16 y hyl
     obtain ⟨b, hb⟩ : ∃ b, b = y % 2 := ⟨_, rfl⟩
     rw [← hb] at hand
     have hb2 : b < 2 := by omega
     have hbi : (b : Int) < 2 := by omega
     have ce := hcl at_ b hat hb2
     have fe := hfz (at_ * 2 + b)
     have hati : (at_ : Int) < (T'.length : Int) := by omega
     have HG0 : Hid (growF s c (q + 1) at_ T' = if ent T' at_ b = 0 then growF s c q T'.length (setE T' at_ b (T'.length : Int) ++ [(0, 0)]) else growF s c q (ent T' at_ b).toNat T') := by show _ = _; rw [growF, ← hy, ← hb]
     have HY := hid hy
     have HBB := hid hb
     have HTM := hid hTm
     have HTV := hid hTv
     have HPP := hid hP
     have HGG := hid hg
     have HLN := hid hln
     obtain ⟨tl, htl⟩ : ∃ x, x = T'.length := ⟨_, rfl⟩
     have HTL := hid htl
     rw [← htl] at hat hcap hati HG0 HTM
     rw [← htl]
     clear hy hb hcl hfz hTm hTv hP hg hln htl
     have hmi : ((q + 1 : Nat) : Int) = (q : Int) + 1 := by omega
     rw [hmi]
     by_cases he : ent T' at_ b = 0
     · rw [he] at ce
       rw [if_pos he] at HG0
       have hB1s := HB1.out.size
       have HO2 : Hid ((wr.setCell ⟨g, at_ * 2 + b, none⟩ (.int .i64 (tl : Int))).ownsRow W.heap.size 238 2 (.slice (some ⟨g, 0, none⟩) tl cap) tl ((flatN (setE T' at_ b (tl : Int))).map (Value.int .i64))) := by
         have h1 := HTM.out
         rw [HTL.out] at h1 ⊢
         have h2 := h1.put at_ b (T'.length : Int) (by rw [← HTL.out]; exact hat) hb2
         unfold Tm at h2
         rw [setE_length] at h2
         exact h2
       have HNW : Hid (∀ j u, [Value.int .i64 0, Value.int .i64 0][j]? = some u → ((wr.setCell ⟨g, at_ * 2 + b, none⟩ (.int .i64 (tl : Int))).alloc (.cells #[.int .i64 0, .int .i64 0] 238)).cell? (Addr.add ⟨wr.heap.size, 0, none⟩ j) = some u) := by
         have h1 := two_new (wr.setCell ⟨g, at_ * 2 + b, none⟩ (.int .i64 (tl : Int))) (.int .i64 0) (.int .i64 0) 238
         rw [World.size_setCell] at h1
         exact h1
       have htl9 : tl ≤ 100100 := by have := HLN.out; have := HTL.out; omega
       go_wp2_with (at_builtin; refine wpList_append_own _ rfl _ _ 224 rfl W.heap.size 238 i0 (.agg #[.int .i64 0, .int .i64 0]) 2 16 Tryz.underlying224 hi hz0 hz1 hz2 rfl (by decide) _ _ _ rfl (HO2.out.alloc _) ⟨wr.heap.size, 0, none⟩ 1 1 [.int .i64 0, .int .i64 0] rfl rfl HNW.out (by simp [Value.oneCell']) (by unfold maxLen; omega) (by omega) (by simp; omega) ?_)
       intro v' w3 hown3 hgrow3 _
       have HB3 : Hid (Below W.heap.size W w3) := by
         refine ((HB1.out.setCell (p := ⟨g, at_ * 2 + b, none⟩) hgB _).alloc (by simp; omega) _).grown hgrow3 (by simp; omega) (fun k hk => ?_)
         simp only [Value.ownBlock, Option.some.injEq] at hk
         omega
       obtain ⟨T2, hT2⟩ : ∃ x, x = setE T' at_ b (tl : Int) ++ [(0, 0)] := ⟨_, rfl⟩
       have hl2 : T2.length = tl + 1 := by rw [hT2, List.length_append, setE_length, ← HTL.out]; rfl
       have hTm2 : Tm W.heap.size w3 v' T2 := by
         unfold Tm
         rw [hl2, hT2, flatN_app, List.map_append]
         exact hown3
       have HTV2 : Hid (Tv T2 (P' ++ [((P'.getD at_ (0, 0)).1 + 1, 2 * (P'.getD at_ (0, 0)).2 + b)]) S) := by
         have := HTV.out.node at_ b (by rw [← HTL.out]; exact hat) hb2
         rw [← HTL.out, ← hT2] at this
         exact this
       have HP2 : Hid ((P' ++ [((P'.getD at_ (0, 0)).1 + 1, 2 * (P'.getD at_ (0, 0)).2 + b)]).getD tl (0, 0) = (m0 - q, c / 2 ^ (q + 1))) := by
         have h1 := HTV.out.len
         have h2 := HTL.out
         have h3 := half c (q + 1)
         have h4 := HBB.out
         rw [HY.out] at h4
         show _ = _
         rw [h2, ← h1, HPP.out]
         simp only [List.getD, List.getElem?_concat_length, Option.getD_some, Prod.mk.injEq]
         exact ⟨by omega, by omega⟩
       obtain ⟨g3, cap3, hv3, hgB3, hcap3, hcm3, hcl3, hfz3⟩ := hTm2.cells HTV2.out.pos
       subst hv3
       have HTM2 := hid hTm2
       have ce3 := hcl3 at_ b (by omega) hb2
       rw [hT2, ent_app, ent_setE T' at_ b _ (by rw [← HTL.out]; exact hat) at_ b hb2 hb2, if_pos ⟨rfl, rfl⟩] at ce3
       rw [← hT2] at HG0
       rw [hl2] at hcap3 HTM2
       rw [hl2]
       have HL2 := hid hl2
       clear hown3 hgrow3 hT2 hl2 hTm2 hcl3 hfz3 ce fe
       have hati3 : (at_ : Int) < ((tl + 1 : Nat) : Int) := by omega
       go_wp2_with fail
       refine ⟨⟨q, tl, rfl, rfl, by omega, HB3, T2, _, HTM2.out, HTV2.out, by rw [HL2.out]; omega, HP2.out, by rw [← HG0.out]; exact HGG.out, by have := HLN.out; have := HTL.out; rw [HL2.out]; omega⟩, ?_⟩
       simp only [intOf]
       omega
     · have hpos : 0 < ent T' at_ b := by
         rcases Int.lt_trichotomy (ent T' at_ b) 0 with h | h | h
         · exfalso
           have h1 := HTV.out.leaf at_ b (by rw [← HTL.out]; exact hat) hb2 h
           have h3 := half c (q + 1)
           have h4 := HBB.out
           have h5 := HM0.out
           rw [HY.out] at h4
           rw [HPP.out] at h1
           refine HAP.out _ _ h1 (by dsimp only; omega) ?_
           dsimp only
           rw [show n - (m0 - (q + 1) + 1) = q + 1 from by omega]
           omega
         · exact absurd h he
         · exact h
       have hup := HTV.out.up at_ b (by rw [← HTL.out]; exact hat) hb2 hpos
       rw [if_neg he] at HG0
       obtain ⟨e, hee⟩ : ∃ e : Nat, ent T' at_ b = (e : Int) := ⟨_, (Int.toNat_of_nonneg (by omega)).symm⟩
       rw [hee] at HG0 hup ce hpos
       rw [Int.toNat_natCast] at HG0 hup
       have HUP := hid hup
       have he0 : ¬ (e : Int) = 0 := by omega
       clear hup hee he
       go_wp2_with fail
       refine ⟨⟨q, e, rfl, rfl, by omega, HB1, T', P', HTM.out, HTV.out, HUP.out.1, ?_, by rw [← HG0.out]; exact HGG.out, by have := HLN.out; omega⟩, ?_⟩
       · have h3 := half c (q + 1)
         have h4 := HBB.out
         rw [HY.out] at h4
         rw [HUP.out.2, HPP.out]
         simp only [Prod.mk.injEq]
         exact ⟨by omega, by omega⟩
       · simp only [intOf]
         omega
theorem treeOf_no (a : Option Addr) (cap : Nat) (zs : List Int) (w : World) (hr : Ri w .i64 a cap zs) (hc : checkB zs = false) :
   Calls Tryz.prog 157 #[.slice a zs.length cap] w fun e w' => e = .panicked faultC ∧ Below w.heap.size w w' := by
 have HC := hid (codes_no a cap zs w hr hc)
 generalize zs.length = len at *
 clear hr hc
 go_enter Tryz.func157, Tryz.ntmps157
 go_wp2_with fail
 refine HC.out.mono ?_
 rintro _ w1 ⟨rfl, hb1⟩
 go_wp2_with fail
 refine (need_no w1).mono ?_
 rintro _ w2 ⟨rfl, rfl⟩
 exact ⟨rfl, rfl, hb1⟩
set_option maxHeartbeats 6400000 in
set_option maxRecDepth 100000 in
theorem treeOf_word (a : Option Addr) (cap : Nat) (zs : List Int) (w : World) (hr : Ri w .i64 a cap zs) (hc : checkB zs = true) :
   Calls Tryz.prog 157 #[.slice a zs.length cap] w fun e w' => ∃ v, e = .returned v ∧ Tm w.heap.size w' v (treeG zs zs.length) ∧ Below w.heap.size w w' := by
 have HC := hid (codes_word a cap zs w hr hc)
 have HCB := hid hc
 have hok : lenOk zs = true := by unfold checkB at hc; rw [Bool.and_eq_true] at hc; exact hc.1
 have hlen := (lenOk_all hok).1
 have HA := hid (lenOk_all hok).2
 have HR := hid hr
 obtain ⟨len, hl⟩ : ∃ n, n = zs.length := ⟨_, rfl⟩
 have HL := hid hl
 rw [← hl] at hlen HC ⊢
 clear hr hc hok hl
 go_enter Tryz.func157, Tryz.ntmps157
 go_wp2_with fail
 refine HC.out.mono ?_
 rintro _ w0 ⟨cv, rfl, hown1, hb1⟩
 go_wp2_with fail
 refine (need_yes w0).mono ?_
 rintro _ w1 ⟨rfl, rfl⟩
 have HO1 := hid hown1
 have HB1 := hid hb1
 have hw1 := hb1.size
 clear HC hown1 hb1
 go_wp2_with fail
 have HT0 : Hid (Tm w1.heap.size (w1.alloc (.cells #[.int .i64 0, .int .i64 0] 238)) (.slice (some ⟨w1.heap.size, 0, none⟩) 1 1) (treeG zs 0)) := by
   unfold Tm
   exact ⟨rfl, .inr ⟨w1.heap.size, 1, _, rfl, Nat.le_refl _, heap_new _ _, Nat.le_refl _, by unfold maxLen; omega, rfl, rfl⟩⟩
 have HB0 := hid (bel_alloc w1 (.cells #[.int .i64 0, .int .i64 0] 238))
 go_loopw [5, 6, 7, 20] (fun t _ _ i wr => ∃ k : Nat, k ≤ len ∧ i = .int .i64 k ∧ Hid (Below w1.heap.size w1 wr) ∧ Hid (Tm w1.heap.size wr t (treeG zs k))) (fun _ _ _ i _ => len - (intOf i).toNat)
 case atStart => exact ⟨0, by omega, rfl, HB0, HT0⟩
 case round =>
   obtain ⟨k, hk, rfl, HB, HTM⟩ := hrel
   clear HT0 HB0
   by_cases hlt : k < len
   · have hkl : (k : Int) < (len : Int) := by omega
     have HZ : Hid (k < zs.length) := by show _ < _; rw [← HL.out]; exact hlt
     obtain ⟨b, off, rfl, hbw, hc⟩ := (HR.out).cells (by rw [← HL.out]; omega)
     have ck : wr.cell? ⟨b, off + k, none⟩ = some (.int .i64 (zs.getD k 0)) := ((Bn HB1.out HB.out).cell (p := ⟨b, off + k, none⟩) hbw).trans (hc k HZ.out)
     have hrng := HA.out _ (getD_mem zs k HZ.out)
     clear hc
     by_cases hz : 0 < zs.getD k 0
     · have hcl := codesL_length zs
       have how := own_later HO1.out HB.out
       rcases how.2 with ⟨_, h2⟩ | ⟨gc, capc, curc, hv, hgB, hgc, hnc, hcm, _, _⟩
       · rw [hcl, ← HL.out] at h2; omega
       · subst hv
         have hlc : k < ((codesL zs).map (Value.int .u16)).length := by rw [List.length_map, hcl]; exact HZ.out
         obtain ⟨n, hn⟩ : ∃ n : Nat, zs.getD k 0 = (n : Int) := ⟨(zs.getD k 0).toNat, by omega⟩
         rw [hn] at hrng hz ck
         have hcd : codeN zs k < 2 ^ n := codeN_lt HCB.out k n HZ.out hn (by omega) (by omega)
         have h15 : 2 ^ n ≤ 2 ^ 15 := Nat.pow_le_pow_right (by decide) (by omega)
         have hcF : (codesL zs).getD k 0 = (codeN zs k : Int) := by
           rw [codesL_getD zs k HZ.out]
           unfold codeF
           rw [hn, if_pos hz, Nat.mod_eq_of_lt (by simp at h15; omega)]
         have cc : wr.cell? ⟨gc, k, none⟩ = some (.int .u16 (codeN zs k : Int)) := by
           rw [how.cellAt k (by simpa using hlc), ← hcF]
           rw [List.length_map] at hlc
           simp [List.getD, List.getElem?_eq_getElem hlc]
         rw [hcl, ← HL.out]
         have hcl2 : (codesL zs).length = len := by rw [hcl, HL.out]
         obtain ⟨P, hTv, hTl⟩ := treeG_tv HCB.out k (by rw [← HL.out]; exact hk)
         have hap := coS_apart (zs := zs) k n HZ.out hn
         have HG := hid (tgrown_word w1 wr u5 (treeG zs k) P (coS zs (k + 1)) k (codeN zs k) n HTM.out HB.out (hTv.mono (fun x ⟨s, hs, hx⟩ => ⟨s, by omega, hx⟩)) (by omega) (by omega) hcd (by omega) (by omega) hap)
         have HE : Hid (treeG zs (k + 1) = growF k (codeN zs k) (n - 1) 0 (treeG zs k)) := by
           show _ = _
           rw [treeG, hn, if_pos hz, Int.toNat_natCast]
         clear how hlc hcd h15 hcF hcl hcl2 hTv hTl hap hn HTM HB
         go_wp2_with fail
         refine HG.out.mono ?_
         rintro _ w4 ⟨v4, rfl, hT4, hb4⟩
         have HT4 : Hid (Tm w1.heap.size w4 v4 (treeG zs (k + 1))) := by show Tm _ _ _ _; rw [HE.out]; exact hT4
         have HB4 := hid hb4
         clear hT4 hb4 HG HE
         go_wp2_with fail
         exact ⟨⟨k + 1, by omega, rfl, HB4, HT4⟩, by simp only [intOf]; omega⟩
     · have HE : Hid (treeG zs (k + 1) = treeG zs k) := by
         show _ = _
         rw [treeG, if_neg hz]
       rw [← HE.out] at HTM
       generalize zs.getD k 0 = z at *
       go_wp2_with fail
       exact ⟨⟨k + 1, by omega, rfl, HB, HTM⟩, by simp only [intOf]; omega⟩
   · have : k = len := by omega
     subst this
     go_wp2_with fail
     go_ret
     refine ⟨_, rfl, ?_, Bn HB1.out HB.out⟩
     have := HTM.out
     unfold Tm at this ⊢
     rcases this.2 with h | ⟨g, cp, cur, h1, h2, h3⟩
     · exact ⟨this.1, .inl h⟩
     · exact ⟨this.1, .inr ⟨g, cp, cur, h1, Nat.le_trans hw1 h2, h3⟩⟩
end Go.Proofs.YtibjlbcnapoblaaGreatDoor
