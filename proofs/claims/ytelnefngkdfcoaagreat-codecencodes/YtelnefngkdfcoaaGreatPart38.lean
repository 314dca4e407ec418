/-
  What Cost lacks: the document's contracts.
-/
import Derived.Test.YtelnefngkdfcoaaGreatPart11
import Derived.Test.YtelnefngkdfcoaaGreatPart37
import Derived.Test.YtelnefngkdfcoaaGreatPart20
import Derived.Test.YtelnefngkdfcoaaGreatPart10
namespace Go.Proofs.YtelnefngkdfcoaaGreat
open Go.RowKit Hf

set_option maxHeartbeats 800000 in
theorem counted_ref (a : Option Addr) (cap : Nat) (cs : List Int) (w : World) (hr : Ri w .i64 a cap cs) :
    Calls Tryz.prog 64 #[.slice a cs.length cap] w fun e w' => e = .returned (.bool (areC cs)) ∧ w' = w := by
  have HR := hid hr
  have hmax := hr.most
  have hroom := hr.room
  unfold maxLen at hmax
  obtain ⟨len, hl⟩ : ∃ n, n = cs.length := ⟨_, rfl⟩
  have HL := hid hl
  rw [← hl] at hroom ⊢
  clear hr hl
  go_enter Tryz.func64, Tryz.ntmps64
  go_wp2
  go_loop [3] (fun i => ∃ k : Nat, k ≤ len ∧ i = .int .i64 k ∧ Hid (∀ j, j < k → ¬ (512 ≤ j ∨ cs.getD j 0 < 0 ∨ 1073741824 < cs.getD j 0))) (fun i => len - (intOf i).toNat)
  case atStart => exact ⟨0, by omega, rfl, fun j hj => absurd hj (by omega)⟩
  case round =>
    obtain ⟨k, hk, rfl, HA⟩ := hrel
    by_cases hlt : k < len
    · have hkl : (k : Int) < (len : Int) := by omega
      have HZ : Hid (k < cs.length) := by show _ < _; rw [← HL.out]; exact hlt
      obtain ⟨b, off, rfl, hbw, hc⟩ := (HR.out).cells (by rw [← HL.out]; omega)
      have ck := hc k HZ.out
      clear hc
      by_cases h1 : 512 ≤ k
      · have h1' : (512 : Int) ≤ (k : Int) := by omega
        have E := hid (areC_bad cs k HZ.out (Or.inl h1))
        go_wp2
        go_ret
        exact ⟨by rw [E.out]; rfl, rfl⟩
      · have h1' : ¬ (512 : Int) ≤ (k : Int) := by omega
        have HB := hid (fun h => areC_bad cs k HZ.out (Or.inr h))
        have HA2 : Hid (¬ (cs.getD k 0 < 0 ∨ 1073741824 < cs.getD k 0) → ∀ j, j < k + 1 → ¬ (512 ≤ j ∨ cs.getD j 0 < 0 ∨ 1073741824 < cs.getD j 0)) := fun hn j hj => by
          by_cases e : j = k
          · subst e; omega
          · exact HA.out j (by omega)
        generalize cs.getD k 0 = z at *
        by_cases h2 : z < 0
        · have E := hid (HB.out (Or.inl h2))
          go_wp2
          go_ret
          exact ⟨by rw [E.out]; rfl, rfl⟩
        · by_cases h3 : 1073741824 < z
          · have E := hid (HB.out (Or.inr h3))
            go_wp2
            go_ret
            exact ⟨by rw [E.out]; rfl, rfl⟩
          · go_wp2
            exact ⟨⟨k + 1, by omega, by go_num, HA2.out (by omega)⟩, by simp [intOf]; omega⟩
    · obtain rfl : k = len := by omega
      have E := hid (areC_good cs (fun j hj => HA.out j (by rw [HL.out]; exact hj)))
      go_wp2
      go_ret
      exact ⟨by rw [E.out]; rfl, rfl⟩

end Go.Proofs.YtelnefngkdfcoaaGreat
/-
  The contracts of the document's Deep and Lengths.
-/
namespace Go.Proofs.YtelnefngkdfcoaaGreat
open Go.RowKit Hf

set_option maxHeartbeats 800000 in
theorem deep_ref (a : Option Addr) (cap : Nat) (cs : List Int) (w : World) (hr : Ri w .i64 a cap cs) :
    Calls Tryz.prog 66 #[.slice a cs.length cap] w fun e w' => e = .returned (.bool (cs.any deepC)) ∧ w' = w := by
  have HR := hid hr
  have hmax := hr.most
  have hroom := hr.room
  unfold maxLen at hmax
  obtain ⟨len, hl⟩ : ∃ n, n = cs.length := ⟨_, rfl⟩
  have HL := hid hl
  rw [← hl] at hroom ⊢
  clear hr hl
  go_enter Tryz.func66, Tryz.ntmps66
  go_wp2
  go_loop [3] (fun i => ∃ k : Nat, k ≤ len ∧ i = .int .i64 k ∧ Hid (∀ j, j < k → ¬ 15 < cs.getD j 0)) (fun i => len - (intOf i).toNat)
  case atStart => exact ⟨0, by omega, rfl, fun j hj => absurd hj (by omega)⟩
  case round =>
    obtain ⟨k, hk, rfl, HA⟩ := hrel
    by_cases hlt : k < len
    · have hkl : (k : Int) < (len : Int) := by omega
      have HZ : Hid (k < cs.length) := by show _ < _; rw [← HL.out]; exact hlt
      obtain ⟨b, off, rfl, hbw, hc⟩ := (HR.out).cells (by rw [← HL.out]; omega)
      have ck := hc k HZ.out
      clear hc
      have HB : Hid (15 < cs.getD k 0 → cs.any deepC = true) := fun h => by
        rw [List.any_eq_true]
        exact ⟨_, Hf.getD_in k HZ.out, by unfold deepC; rw [decide_eq_true_eq]; exact h⟩
      have HA2 : Hid (¬ 15 < cs.getD k 0 → ∀ j, j < k + 1 → ¬ 15 < cs.getD j 0) := fun hn j hj => by
        by_cases e : j = k
        · subst e; exact hn
        · exact HA.out j (by omega)
      generalize cs.getD k 0 = z at *
      by_cases h2 : 15 < z
      · have E := hid (HB.out h2)
        go_wp2
        go_ret
        exact ⟨by rw [E.out]; rfl, rfl⟩
      · have HA3 := hid (HA2.out h2)
        go_wp2
        exact ⟨⟨k + 1, by omega, by go_num, HA3⟩, by simp [intOf]; omega⟩
    · obtain rfl : k = len := by omega
      have E : Hid (cs.any deepC = false) := by
        show _ = _
        rw [List.any_eq_false]
        intro z hz
        obtain ⟨p, hp, e⟩ := mem_getD hz
        unfold deepC
        rw [decide_eq_true_eq, ← e]
        exact HA.out p (by rw [HL.out]; exact hp)
      go_wp2
      go_ret
      exact ⟨by rw [E.out]; rfl, rfl⟩

def rowS (w : World) : Value → List Int
  | .slice (some a) n _ => (List.range n).map (fun j => match w.cell? ⟨a.block, a.off + j, none⟩ with | some (.int _ x) => x | _ => 0)
  | _ => []
theorem rowS_ri {w : World} {a : Option Addr} {c : Nat} {X : List Int} (h : Ri w .i64 a c X) : rowS w (.slice a X.length c) = X := by
  by_cases h0 : 0 < X.length
  · obtain ⟨b, off, rfl, _, hc⟩ := h.cells h0
    refine li_ext (by simp [rowS]) (fun i hi => ?_)
    have hin : i < X.length := by simpa [rowS] using hi
    have := hc i hin
    simp [rowS, List.getD, hin] at this ⊢
    simp [this]
  · have : X = [] := List.length_eq_zero_iff.1 (by omega)
    subst this
    cases a <;> simp [rowS]
def halfL (X : List Int) (p : Nat) : List Int := (X.take p).map flatC
theorem halfL_succ (X : List Int) (p : Nat) (h : p < X.length) : halfL X (p + 1) = halfL X p ++ [flatC (X.getD p 0)] := by
  unfold halfL
  rw [take_snoc X p h, List.map_append]
  rfl
theorem halfL_length (X : List Int) (p : Nat) (h : p ≤ X.length) : (halfL X p).length = p := by simp [halfL]; omega
theorem halfL_all (X : List Int) : halfL X X.length = X.map flatC := by simp [halfL]

set_option maxHeartbeats 1600000 in
theorem lenr_yes (a : Option Addr) (cap : Nat) (cs : List Int) (w : World) (hr : Ri w .i64 a cap cs) (hc : areC cs = true) (h60 : cs.length ≤ 512) :
    Calls Tryz.prog 30 #[.slice a cs.length cap] w fun e w' => ∃ k a2 c2, e = .returned (.tuple #[.slice a2 cs.length c2, .int .i64 0]) ∧ (∀ j, j < k → (depthsL (flats cs j)).any deepC = true) ∧ (depthsL (flats cs k)).any deepC = false ∧ Ri w' .i64 a2 c2 (depthsL (flats cs k)) ∧ Below w.heap.size w w' := by
  have hcr := areC_rng hc
  obtain ⟨i0, hi, hz0, hz1, hz2⟩ := info_parts Tryz.info3'
  have HA := hid (counted_ref a cap cs w hr)
  rw [hc] at HA
  have HFL : Hid (∀ k, (flats cs k).length = cs.length) := fun k => flats_length cs k
  have HDL : Hid (∀ k, (depthsL (flats cs k)).length = cs.length) := fun k => by rw [dep_long, flats_length]
  have HD : Hid (∀ (k : Nat) (W : World) (a1 : Option Addr) (c1 : Nat), Ri W .i64 a1 c1 (flats cs k) → Calls Tryz.prog 65 #[.slice a1 cs.length c1] W fun e w' => ∃ a2 c2, e = .returned (.slice a2 cs.length c2) ∧ Ri w' .i64 a2 c2 (depthsL (flats cs k)) ∧ Below W.heap.size W w') := by
    intro k W a1 c1 hr1
    have h := depths_ref a1 c1 (flats cs k) W hr1 (by rw [flats_length]; omega) (flats_rng hcr.2 k)
    rw [doc_eq _ (flats_rng hcr.2 k), flats_length] at h
    refine h.mono ?_
    rintro _ w' ⟨v, rfl, ho, hb⟩
    rw [← HDL.out k] at ho
    obtain ⟨a2, c2, rfl, hr2⟩ := Ri.own ho (fun j => by have := dep_top (flats cs k) (by rw [flats_length]; omega) (flats_rng hcr.2 k) j; exact wf_mk_i64 (by omega) (by omega))
    exact ⟨a2, c2, by rw [HDL.out k], hr2, hb⟩
  have HX : Hid (∀ (k : Nat) (W : World) (a2 : Option Addr) (c2 : Nat), Ri W .i64 a2 c2 (depthsL (flats cs k)) → Calls Tryz.prog 66 #[.slice a2 cs.length c2] W fun e w' => e = .returned (.bool ((depthsL (flats cs k)).any deepC)) ∧ w' = W) := fun k W a2 c2 h2 => by
    have h := deep_ref a2 c2 (depthsL (flats cs k)) W h2
    rwa [HDL.out k] at h
  have HRG := hid (fun k => flats_rng hcr.2 k)
  have HLS : Hid (∀ k, (depthsL (flats cs k)).any deepC = true → (flats cs (k + 1)).sum.toNat < (flats cs k).sum.toNat) := fun k => flats_less h60 hcr.2 k
  have HR := hid hr
  clear hr hc hcr
  obtain ⟨len, hl⟩ : ∃ n, n = cs.length := ⟨_, rfl⟩
  rw [← hl] at HA HD HX HDL HFL h60 ⊢
  clear hl
  have HD0 := hid (HD.out 0 w a cap HR.out)
  go_enter Tryz.func30, Tryz.ntmps30
  go_wp2_with fail
  refine HA.out.mono ?_
  rintro _ w1 ⟨rfl, hw⟩
  obtain rfl := hw.symm
  clear hw HA
  go_wp2_with fail
  refine HD0.out.mono ?_
  rintro _ w2 ⟨a2, c2, rfl, hr2, hb2⟩
  have HR2 := hid hr2
  have HB2 := hid hb2
  have HR0 := hid (HR.out.later hb2)
  clear hr2 hb2 HD0 HR
  go_wp2_with fail
  go_loopw [0, 4] (fun x y wr => ∃ (k : Nat) (a1 : Option Addr) (c1 : Nat) (a2 : Option Addr) (c2 : Nat), x = .slice a1 len c1 ∧ y = .slice a2 len c2 ∧ Hid (∀ j, j < k → (depthsL (flats cs j)).any deepC = true) ∧ Hid (Ri wr .i64 a1 c1 (flats cs k)) ∧ Hid (Ri wr .i64 a2 c2 (depthsL (flats cs k))) ∧ Hid (Below w.heap.size w wr)) (fun x _ wr => (rowS wr x).sum.toNat)
  case atStart => exact ⟨0, a, cap, a2, c2, rfl, rfl, fun j hj => by omega, HR0, HR2, HB2⟩
  case round =>
    clear HR0 HR2 HB2
    obtain ⟨k, a1, c1, a3, c3, rfl, rfl, HK, HRK, HRD, HB⟩ := hrel
    have HXK := hid (HX.out k wr a3 c3 HRD.out)
    have HM : Hid (rowS wr (.slice a1 len c1) = flats cs k) := by
      have h := rowS_ri HRK.out
      rw [HFL.out k] at h
      exact h
    cases hdk : (depthsL (flats cs k)).any deepC with
    | true =>
      rw [hdk] at HXK
      have HK2 : Hid (∀ j, j < k + 1 → (depthsL (flats cs j)).any deepC = true) := fun j hj => by
        by_cases e : j = k
        · rw [e]; exact hdk
        · exact HK.out j (by omega)
      have HLT := hid (HLS.out k hdk)
      clear hdk HK
      go_wp2_with fail
      refine HXK.out.mono ?_
      rintro _ w3 ⟨rfl, hw⟩
      obtain rfl := hw
      clear HXK
      go_wp2_with fail
      go_loopw [5, 6] (fun v y wq => ∃ p : Nat, p ≤ len ∧ y = .int .i64 p ∧ Hid (wq.ownsRow w3.heap.size 3 1 v (halfL (flats cs k) p).length ((halfL (flats cs k) p).map (Value.int .i64))) ∧ Hid (Below w3.heap.size w3 wq)) (fun _ y _ => len - (intOf y).toNat)
      case atStart => exact ⟨0, by omega, rfl, World.ownsRow_nil _ _ _ _, Below.refl _ _⟩
      case round =>
        obtain ⟨p, hp, rfl, HOW, HBQ⟩ := hrel
        have hsz : w3.heap.size ≤ wr.heap.size := HBQ.out.size
        have HHL : Hid ((halfL (flats cs k) p).length = p) := halfL_length _ _ (by rw [HFL.out]; exact hp)
        by_cases hlt : p < len
        · have hkl : (p : Int) < (len : Int) := by omega
          have K1 : Hid (p < (flats cs k).length) := by show _ < _; rw [HFL.out]; exact hlt
          obtain ⟨b, off, rfl, hbw, hcl⟩ := (HRK.out).cells (by rw [HFL.out]; omega)
          have ck : wr.cell? ⟨b, off + p, none⟩ = some (.int .i64 ((flats cs k).getD p 0)) := (HBQ.out.cell (p := ⟨b, off + p, none⟩) hbw).trans (hcl p K1.out)
          clear hcl
          have hrg := HRG.out k p
          have HN2 := hid (halfL_succ (flats cs k) p K1.out)
          generalize (flats cs k).getD p 0 = c at *
          by_cases hc0 : c = 0
          · subst hc0
            have ef : flatC 0 = 0 := rfl
            rw [ef] at HN2
            clear ef
            go_wp2_with (at_builtin; refine wpList_append_own _ rfl _ _ 51 rfl w3.heap.size 3 i0 (.int .i64 0) 1 8 Tryz.underlying51 hi hz0 hz1 hz2 rfl (by decide) _ _ _ rfl (HOW.out.alloc _) ⟨wr.heap.size, 0, none⟩ 1 1 [.int .i64 0] rfl rfl ?c1 ?c2 ?c3 ?c4 ?c5 ?_)
            case c1 =>
              intro j u hj
              match j, hj with
              | 0, hj => simp at hj; subst hj; simp [Addr.add]
            case c2 => intro u hu; simp at hu; subst hu; rfl
            case c3 => unfold maxLen; have := HHL.out; omega
            case c4 => have := HHL.out; omega
            case c5 => simp; omega
            intro v1 w5 hown0 hgrow _
            have HB1 := hid ((HBQ.out.alloc hsz _).grown hgrow (by simp; omega) (fun j hj => (HOW.out.lt j hj).1))
            have HO1 : Hid (w5.ownsRow w3.heap.size 3 1 v1 (halfL (flats cs k) (p + 1)).length ((halfL (flats cs k) (p + 1)).map (Value.int .i64))) := by
              show World.ownsRow _ _ _ _ _ _ _
              rw [HN2.out]; simpa using hown0
            clear hown0 hgrow ck HOW HBQ HN2
            go_wp2
            exact ⟨⟨p + 1, by omega, by go_num, HO1, HB1⟩, by simp [intOf]; omega⟩
          · obtain ⟨cn, rfl⟩ : ∃ cn : Nat, c = (cn : Int) := ⟨c.toNat, by omega⟩
            obtain ⟨q, hq⟩ : ∃ q : Nat, (cn : Int) / 2 = (q : Int) := ⟨cn / 2, by omega⟩
            have ef : flatC (cn : Int) = (q : Int) + 1 := by unfold flatC; rw [if_pos (by omega), hq]
            rw [ef] at HN2
            have hqb : q ≤ 1073741824 := by omega
            have htd : (cn : Int).tdiv 2 = (q : Int) := by rw [Int.tdiv_eq_ediv_of_nonneg (by omega)]; exact hq
            have hcn : ((cn : Int) != 0) = true := by simp; omega
            clear hq ef hc0
            go_wp2_with (at_builtin; refine wpList_append_own _ rfl _ _ 51 rfl w3.heap.size 3 i0 (.int .i64 0) 1 8 Tryz.underlying51 hi hz0 hz1 hz2 rfl (by decide) _ _ _ rfl (HOW.out.alloc _) ⟨wr.heap.size, 0, none⟩ 1 1 [.int .i64 ((q : Int) + 1)] rfl rfl ?c1 ?c2 ?c3 ?c4 ?c5 ?_)
            case c1 =>
              intro j u hj
              match j, hj with
              | 0, hj => simp at hj; subst hj; simp [Addr.add]
            case c2 => intro u hu; simp at hu; subst hu; rfl
            case c3 => unfold maxLen; have := HHL.out; omega
            case c4 => have := HHL.out; omega
            case c5 => simp; omega
            intro v1 w5 hown0 hgrow _
            have HB1 := hid ((HBQ.out.alloc hsz _).grown hgrow (by simp; omega) (fun j hj => (HOW.out.lt j hj).1))
            have HO1 : Hid (w5.ownsRow w3.heap.size 3 1 v1 (halfL (flats cs k) (p + 1)).length ((halfL (flats cs k) (p + 1)).map (Value.int .i64))) := by
              show World.ownsRow _ _ _ _ _ _ _
              rw [HN2.out]; simpa using hown0
            clear hown0 hgrow ck HOW HBQ HN2
            go_wp2
            exact ⟨⟨p + 1, by omega, by go_num, HO1, HB1⟩, by simp [intOf]; omega⟩
        · have hkl : ¬ (p : Int) < (len : Int) := by omega
          have HFK : Hid (halfL (flats cs k) p = flats cs (k + 1)) := by
            show _ = _
            rw [show p = (flats cs k).length from by rw [HFL.out]; omega, halfL_all]; rfl
          have ho := HOW.out
          rw [HFK.out] at ho
          obtain ⟨a5, c5, e5, hr5⟩ := Ri.own ho (fun j => by have := HRG.out (k + 1) j; exact wf_mk_i64 (by omega) (by omega))
          rw [HFL.out] at e5
          subst e5
          have HR5 := hid hr5
          have HD5 := hid (HD.out (k + 1) wr a5 c5 hr5)
          clear ho hr5 HOW HFK
          go_wp2_with fail
          refine HD5.out.mono ?_
          rintro _ w6 ⟨a6, c6, rfl, hr6, hb6⟩
          have HR6 := hid hr6
          have HR7 := hid (HR5.out.later hb6)
          have HB6 := hid (Bn HB.out (Bn HBQ.out hb6))
          have HM6 : Hid (rowS w6 (.slice a5 len c5) = flats cs (k + 1)) := by
            have h := rowS_ri HR7.out
            rw [HFL.out] at h
            exact h
          clear hr6 hb6 HD5 HR5
          go_wp2
          exact ⟨⟨k + 1, a5, c5, a6, c6, rfl, rfl, HK2, HR7, HR6, HB6⟩, by rw [HM.out, HM6.out]; exact HLT.out⟩
    | false =>
      rw [hdk] at HXK
      have HDK := hid hdk
      clear hdk
      go_wp2_with fail
      refine HXK.out.mono ?_
      rintro _ w3 ⟨rfl, hw⟩
      obtain rfl := hw.symm
      clear hw HXK
      go_wp2
      go_ret2
      exact ⟨k, a3, c3, rfl, HK.out, HDK.out, HRD.out, HB.out⟩
end Go.Proofs.YtelnefngkdfcoaaGreat
/-
  What RefCheck lacks: the document's contracts.
-/
namespace Go.Proofs.YtelnefngkdfcoaaGreat
open Go.RowKit Hf

theorem checkr_long (a : Option Addr) (cap : Nat) (zs : List Int) (w : World) (h : 512 < zs.length) :
    Calls Tryz.prog 67 #[.slice a zs.length cap] w fun e w' => e = .returned (.int .i64 (checkF zs)) ∧ w' = w := by
  rw [checkF_long zs h]
  generalize zs.length = len at *
  go_enter Tryz.func67, Tryz.ntmps67
  go_wp2
  go_ret
  exact ⟨rfl, rfl⟩

set_option maxHeartbeats 1600000 in
set_option maxRecDepth 100000 in
theorem checkr_short (a : Option Addr) (cap : Nat) (zs : List Int) (w : World) (hr : Ri w .i64 a cap zs) (h : zs.length ≤ 512) :
    Calls Tryz.prog 67 #[.slice a zs.length cap] w fun e w' => e = .returned (.int .i64 (checkF zs)) ∧ w' = w := by
  have HR := hid hr
  obtain ⟨len, hlen⟩ : ∃ n, n = zs.length := ⟨_, rfl⟩
  have HL := hid hlen
  rw [← hlen] at h ⊢
  clear hr hlen
  go_enter Tryz.func67, Tryz.ntmps67
  go_wp2
  go_loop [3, 4, 5, 6] (fun s3 s4 s5 i => ∃ k : Nat, k ≤ len ∧ i = .int .i64 k ∧ s3 = .int .i64 ((sumR (zs.take k) : Nat) : Int) ∧ s4 = .int .i64 ((someR (zs.take k) : Nat) : Int) ∧ s5 = .int .i64 ((oneR (zs.take k) : Nat) : Int) ∧ Hid (∀ j, j < k → 0 ≤ zs.getD j 0 ∧ zs.getD j 0 ≤ 15)) (fun _ _ _ i => len - (intOf i).toNat)
  case atStart => exact ⟨0, by omega, rfl, by simp [sumR], by simp [someR], by simp [oneR], fun j hj => absurd hj (by omega)⟩
  case round =>
    obtain ⟨k, hk, rfl, rfl, rfl, rfl, HA⟩ := hrel
    by_cases hlt : k < len
    · have hkl : (k : Int) < (len : Int) := by omega
      obtain ⟨b, off, rfl, hbw, hc⟩ := (HR.out).cells (by rw [← HL.out]; omega)
      have ck : w.cell? ⟨b, off + k, none⟩ = some (.int .i64 (zs.getD k 0)) := hc k (by rw [← HL.out]; exact hlt)
      clear hc
      have HZ : Hid (k < zs.length) := by show _ < _; rw [← HL.out]; exact hlt
      by_cases hbad : 0 ≤ zs.getD k 0 ∧ zs.getD k 0 ≤ 15
      · have HA2 : Hid (∀ j, j < k + 1 → 0 ≤ zs.getD j 0 ∧ zs.getD j 0 ≤ 15) := fun j hj => by
          by_cases e : j = k
          · subst e; exact hbad
          · exact HA.out j (by omega)
        have S1 := hid (sumR_snoc (zs.take k) (zs.getD k 0))
        have S2 := hid (someR_snoc (zs.take k) (zs.getD k 0))
        have S3 := hid (oneR_snoc (zs.take k) (zs.getD k 0))
        rw [← take_snoc zs k HZ.out] at S1 S2 S3
        have hs1 := sumR_le (zs.take k)
        have hs2 : someR (zs.take k) ≤ (zs.take k).length := List.countP_le_length
        have hs3 : oneR (zs.take k) ≤ (zs.take k).length := List.countP_le_length
        have hl2 : (zs.take k).length ≤ 512 := by rw [List.length_take]; omega
        generalize (zs.take k).length = tl at *
        generalize sumR (zs.take k) = a1 at *
        generalize someR (zs.take k) = a2 at *
        generalize oneR (zs.take k) = a3 at *
        by_cases hz : 0 < zs.getD k 0
        · obtain ⟨l, hlz⟩ : ∃ l : Nat, zs.getD k 0 = (l : Int) := ⟨(zs.getD k 0).toNat, by omega⟩
          rw [hlz] at ck hz hbad S1 S2 S3
          clear hlz
          rw [if_pos hz, Int.toNat_natCast] at S1
          rw [if_pos hz] at S2
          go_wp2
          go_loop [8, 9] (fun x y => ∃ (m : Nat), l ≤ m ∧ m ≤ 15 ∧ y = .int .i64 m ∧ x = .int .i64 ((2 ^ (m - l) : Nat) : Int)) (fun _ y => 15 - (intOf y).toNat)
          case atStart => exact ⟨l, by omega, by omega, rfl, by simp⟩
          case round =>
            obtain ⟨m, hm1, hm2, rfl, rfl⟩ := hrel
            have hp : 2 ^ (m - l) ≤ 2 ^ 15 := Nat.pow_le_pow_right (by decide) (by omega)
            by_cases hm : m < 15
            · have hm' : (m : Int) < 15 := by omega
              have HP : Hid (2 ^ (m + 1 - l) = 2 ^ (m - l) * 2) := by
                show _ = _
                rw [show m + 1 - l = (m - l) + 1 from by omega, Nat.pow_succ]
              generalize 2 ^ (m - l) = q at *
              go_wp2
              exact ⟨⟨m + 1, by omega, by omega, by go_num, by rw [HP.out]; simp⟩, by simp [intOf]; omega⟩
            · obtain rfl : m = 15 := by omega
              generalize 2 ^ (15 - l) = q at *
              by_cases h1 : l = 1
              · have h1' : (l : Int) = 1 := by omega
                rw [if_pos h1'] at S3
                have hb : ((l : Int) == 1) = true := by simp [h1]
                go_wp2
                exact ⟨⟨k + 1, by omega, by go_num, by rw [S1.out]; simp, by rw [S2.out]; simp, by rw [S3.out]; simp, HA2⟩, by simp [intOf]; omega⟩
              · have h1' : ¬ (l : Int) = 1 := by omega
                rw [if_neg h1'] at S3
                have hb : ((l : Int) == 1) = false := by simp; omega
                go_wp2
                exact ⟨⟨k + 1, by omega, by go_num, by rw [S1.out]; simp, by rw [S2.out]; simp, by rw [S3.out]; simp, HA2⟩, by simp [intOf]; omega⟩
        · have hz0 : zs.getD k 0 = 0 := by omega
          rw [hz0] at ck S1 S2 S3
          clear hz hz0 hbad
          go_wp2
          exact ⟨⟨k + 1, by omega, by go_num, by rw [S1.out]; simp, by rw [S2.out]; simp, by rw [S3.out]; simp, HA2⟩, by simp [intOf]; omega⟩
      · have E := hid (checkF_bad zs k HZ.out hbad)
        clear HZ
        generalize zs.getD k 0 = z at *
        by_cases hneg : z < 0
        · go_wp2
          go_ret
          exact ⟨by rw [E.out]; rfl, rfl⟩
        · have h15 : (15 : Int) < z := by omega
          clear hbad
          go_wp2
          go_ret
          exact ⟨by rw [E.out]; rfl, rfl⟩
    · obtain rfl : k = len := by omega
      have hok := ok_mk zs (by rw [← HL.out]; exact h) (fun j hj => HA.out j (by rw [HL.out]; exact hj))
      have e0 : checkF zs = if okR zs then 0 else 51 := by unfold checkF checkB; rw [hok, okR_okT hok]; rfl
      rw [show zs.take k = zs from by rw [HL.out]; exact List.take_length]
      have b1 : (((someR zs : Nat) : Int) == 0) = (someR zs == 0) := by rw [Bool.eq_iff_iff, beq_iff_eq, beq_iff_eq]; omega
      have b2 : (((someR zs : Nat) : Int) == 1) = (someR zs == 1) := by rw [Bool.eq_iff_iff, beq_iff_eq, beq_iff_eq]; omega
      have b3 : (((oneR zs : Nat) : Int) == 1) = (oneR zs == 1) := by rw [Bool.eq_iff_iff, beq_iff_eq, beq_iff_eq]; omega
      have b4 : (((sumR zs : Nat) : Int) == 32768) = (sumR zs == 32768) := by rw [Bool.eq_iff_iff, beq_iff_eq, beq_iff_eq]; omega
      unfold okR at e0
      have E := hid e0
      clear e0 hok
      generalize (someR zs == 0) = x1 at *
      generalize (someR zs == 1) = x2 at *
      generalize (oneR zs == 1) = x3 at *
      generalize (sumR zs == 32768) = x4 at *
      generalize ((someR zs : Nat) : Int) = n1 at *
      generalize ((oneR zs : Nat) : Int) = n2 at *
      generalize ((sumR zs : Nat) : Int) = n3 at *
      cases x1 <;> cases x2 <;> cases x3 <;> cases x4 <;> (go_wp2; go_ret; exact ⟨by rw [E.out]; rfl, rfl⟩)

theorem check_ref (a : Option Addr) (cap : Nat) (zs : List Int) (w : World) (hr : Ri w .i64 a cap zs) :
    Calls Tryz.prog 67 #[.slice a zs.length cap] w fun e w' => e = .returned (.int .i64 (checkF zs)) ∧ w' = w := by
  by_cases h : zs.length ≤ 512
  · exact checkr_short a cap zs w hr h
  · exact checkr_long a cap zs w (by omega)
end Go.Proofs.YtelnefngkdfcoaaGreat
/-
  What RefCodes lacks: the document's contracts.
-/
namespace Go.Proofs.YtelnefngkdfcoaaGreat
open Go.RowKit Hf

set_option maxHeartbeats 1600000 in
set_option maxRecDepth 100000 in
theorem codes_ref (a : Option Addr) (cap : Nat) (zs : List Int) (w : World) (hr : Ri w .i64 a cap zs) (hc : checkB zs = true) :
    Calls Tryz.prog 33 #[.slice a zs.length cap] w fun e w' => ∃ v, e = .returned (.tuple #[v, .int .i64 0]) ∧ w'.ownsRow w.heap.size 75 1 v (codesL zs).length ((codesL zs).map (Value.int .u16)) ∧ Below w.heap.size w w' := by
  obtain ⟨i0, hi, hz0, hz1, hz2⟩ := info_parts Tryz.info75
  have HT := hid (check_ref a cap zs w hr)
  have e2 : checkF zs = 0 := by unfold checkF; rw [hc]; rfl
  rw [e2] at HT
  have hok : lenOk zs = true := by unfold checkB at hc; rw [Bool.and_eq_true] at hc; exact hc.1
  have hlen := (lenOk_all hok).1
  have HA := hid (lenOk_all hok).2
  have HR := hid hr
  obtain ⟨len, hl⟩ : ∃ n, n = zs.length := ⟨_, rfl⟩
  have HL := hid hl
  rw [← hl] at hlen HT ⊢
  clear hr e2 hok hc hl
  go_enter Tryz.func33, Tryz.ntmps33
  go_wp2_with fail
  refine HT.out.mono ?_
  rintro _ w1 ⟨rfl, hw⟩
  obtain rfl := hw.symm
  clear hw HT
  go_wp2_with (first
    | (at_make; refine wpList_make_full _ rfl _ _ 52 rfl w.heap.size 75 i0 (.int .u16 0) 1 Tryz.underlying52 hi hz0 hz1 .i64 .i64 _ _ len rfl rfl (by first | rfl | omega) (by first | rfl | omega) ?b2 ?b3 ?b4 ?_))
  case b2 => rw [hz2]; omega
  case b3 => unfold maxLen; omega
  case b4 => exact Nat.le_refl _
  intro w1 hown0 hgrow
  have hb1 : Below w.heap.size w w1 := (Below.refl _ _).grown hgrow (Nat.le_refl _) (fun k hk => by cases hk)
  rw [toList_madeCells_one, show List.replicate len (Value.int .u16 0) = (pcL zs 1 0).map (Value.int .u16) from by rw [pcL_start, HL.out]; simp] at hown0
  have HO := hid hown0
  clear hgrow hown0
  go_wp2
  go_loopw [6, 7] (fun x y wr => ∃ m : Nat, 1 ≤ m ∧ m ≤ 16 ∧ y = .int .i64 m ∧ x = .int .i64 ((first zs m : Nat) : Int) ∧ wr.ownsRow w.heap.size 75 1 (.slice (some ⟨w.heap.size, 0, none⟩) len len) len ((pcL zs m 0).map (Value.int .u16)) ∧ Below w.heap.size w wr) (fun _ y _ => 16 - (intOf y).toNat)
  case atStart => exact ⟨1, by omega, by omega, rfl, rfl, HO.out, hb1⟩
  case round =>
    clear HO hb1
    obtain ⟨m, hm1, hm2, rfl, rfl, hown, hbel⟩ := hrel
    by_cases hm : m ≤ 15
    · have hm' : (m : Int) ≤ 15 := by omega
      have hfs := first_small zs m (by omega) (by rw [← HL.out]; omega)
      have HO := hid hown
      have HB := hid hbel
      clear hown hbel
      have hx : ((first zs m : Nat) : Int) = ((first zs m + cnt (zs.take 0) m : Nat) : Int) := by simp [cnt]
      go_wp2_with fail
      go_loopw [6, 8] (fun x y wr => ∃ i : Nat, i ≤ len ∧ y = .int .i64 i ∧ x = .int .i64 ((first zs m + cnt (zs.take i) m : Nat) : Int) ∧ wr.ownsRow w.heap.size 75 1 (.slice (some ⟨w.heap.size, 0, none⟩) len len) len ((pcL zs m i).map (Value.int .u16)) ∧ Below w.heap.size w wr) (fun _ y _ => len - (intOf y).toNat)
      case atStart => exact ⟨0, by omega, rfl, by rw [hx], HO.out, HB.out⟩
      case round =>
        clear HO HB hx
        obtain ⟨i, hi2, rfl, rfl, hown, hbel⟩ := hrel
        have hcn := cnt_le (zs.take i) m
        have hcl2 : (zs.take i).length ≤ len := by rw [List.length_take]; omega
        by_cases hlt : i < len
        · have hil : (i : Int) < (len : Int) := by omega
          have HZ : Hid (i < zs.length) := by show _ < _; rw [← HL.out]; exact hlt
          obtain ⟨b, off, rfl, hbw, hc⟩ := (HR.out).cells (by rw [← HL.out]; omega)
          have ck : wr.cell? ⟨b, off + i, none⟩ = some (.int .i64 (zs.getD i 0)) := (hbel.cell (p := ⟨b, off + i, none⟩) hbw).trans (hc i HZ.out)
          clear hc
          have HC := hid (cnt_snoc (zs.take i) (zs.getD i 0) m)
          rw [← take_snoc zs i HZ.out] at HC
          by_cases hz : zs.getD i 0 = (m : Int)
          · have hcell : ∃ u, wr.cell? ⟨w.heap.size, i, none⟩ = some u := by
              rw [hown.cellAt i (by omega)]
              exact ⟨_, List.getElem?_eq_getElem (by rw [List.length_map, pcL_length, ← HL.out]; exact hlt)⟩
            obtain ⟨u, hu⟩ := hcell
            have hfz := hown.frozenAt i
            have hst := hown.stored i (.int .u16 (codeF zs i))
            rw [← List.map_set, pcL_hit zs m i HZ.out hz] at hst
            have hnb := hbel.grown hst.2 hbel.size (fun j hj => by injection hj with hj; omega)
            have hcv : codeF zs i = (((first zs m + cnt (zs.take i) m) % 65536 : Nat) : Int) := by
              unfold codeF codeN; rw [hz, if_pos (by omega)]; rfl
            rw [hcv] at hst hnb
            have HS := hid hst.1
            have HB := hid hnb
            rw [if_pos ⟨by omega, hz⟩] at HC
            rw [hz] at ck
            clear hst hnb hown hcv hbel hz
            generalize first zs m = f at *
            generalize cnt (zs.take i) m = c at *
            have HV : Hid (IntKind.u16.wrap ((f : Int) + (c : Int)) = (((f + c) % 65536 : Nat) : Int)) := by show _ = _; rw [IntKind.wrap_u16]; omega
            have hbb : ((m : Int) == (m : Int)) = true := by simp
            go_wp2
            rw [HV.out]
            exact ⟨⟨i + 1, by omega, by go_num, by rw [HC.out]; simp; omega, HS.out, HB.out⟩, by simp [intOf]; omega⟩
          · rw [if_neg (by omega)] at HC
            have HO : Hid (wr.ownsRow w.heap.size 75 1 (.slice (some ⟨w.heap.size, 0, none⟩) len len) len ((pcL zs m (i + 1)).map (Value.int .u16))) := by
              show World.ownsRow _ _ _ _ _ _ _
              rw [pcL_miss zs m i hz]; exact hown
            have HB := hid hbel
            clear hown hbel
            generalize first zs m = f at *
            generalize cnt (zs.take i) m = c at *
            generalize zs.getD i 0 = z at *
            have hbb : (z == (m : Int)) = false := by simp [hz]
            go_wp2
            exact ⟨⟨i + 1, by omega, by go_num, by rw [HC.out]; simp, HO.out, HB.out⟩, by simp [intOf]; omega⟩
        · obtain rfl : i = len := by omega
          have HO : Hid (wr.ownsRow w.heap.size 75 1 (.slice (some ⟨w.heap.size, 0, none⟩) i i) i ((pcL zs (m + 1) 0).map (Value.int .u16))) := by
            show World.ownsRow _ _ _ _ _ _ _
            rw [← pcL_next zs m (by omega), ← HL.out]; exact hown
          have HF : Hid (first zs (m + 1) = (first zs m + cnt (zs.take i) m) * 2) := by
            show _ = _
            rw [show zs.take i = zs from by rw [HL.out]; exact List.take_length]; rfl
          have HB := hid hbel
          clear hown hbel
          generalize first zs m = f at *
          generalize cnt (zs.take i) m = c at *
          go_wp2
          exact ⟨⟨m + 1, by omega, by omega, by go_num, by rw [HF.out]; simp, HO.out, HB.out⟩, by simp [intOf]; omega⟩
    · obtain rfl : m = 16 := by omega
      rw [pcL_full zs HA.out] at hown
      have HCL : Hid ((codesL zs).length = len) := by show _ = _; rw [codesL_length, HL.out]
      go_wp2
      go_ret2
      exact ⟨_, rfl, by rw [HCL.out]; exact hown, hbel⟩
end Go.Proofs.YtelnefngkdfcoaaGreat
