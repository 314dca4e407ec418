/-
  The contracts of slices.SortStableFunc at 60 numbers or fewer, and of byCount.
-/
import Derived.Test.YtgecoiakhmnilaaStabB
import Derived.Test.YtgecoiakhmnilaaStabC
import Derived.Test.YtgecoiakhmnilaaStabD
import Derived.Test.YtgecoiakhmnilaaRefPack
import Derived.Test.YtgecoiakhmnilaaEncodeW
namespace Go.Proofs.Ytgecoiakhmnilaa
open Go.RowKit Hf

/-- Of how many numbers the sorting is proved here. -/
def mostS : Nat := 60

theorem sorted_trans {cs : List Int} {n : Nat} {o X Y : List Int} (_hl : o.length = n) (h : Sorted cs 0 n o X) (h2 : Sorted cs n n X Y) : Sorted cs 0 n o Y := by
  have hXY : Y = X := by
    have hly : Y.length = X.length := h2.perm.length_eq
    refine List.ext_getElem hly (fun i h1 h3 => ?_)
    have := h2.out i (by omega)
    simpa [List.getD, List.getElem?_eq_getElem h1, List.getElem?_eq_getElem h3] using this
  rw [hXY]; exact h

set_option maxHeartbeats 1600000 in
set_option maxRecDepth 100000 in
theorem stable_word (n cap B gb gs gc oc capc : Nat) (cs o : List Int) (w : World) (hcts : Cts w gb gs gc oc capc cs) (hn : n ≤ mostS) (hl : o.length = n)
    (hown : w.ownsRow B 3 1 (.slice (some ⟨gs, 0, none⟩) n cap) n (o.map (Value.int .i64))) (hcap : n ≤ cap) (ho : ∀ u ∈ o, 0 ≤ u ∧ u < (cs.length : Int)) (hinc : ∀ p q, p < q → q < n → o.getD p 0 < o.getD q 0) :
    Calls Try.prog 55 #[.slice (some ⟨gs, 0, none⟩) n cap, .int .i64 (n : Int), .func (.func 52) #[] #[.pointer (some ⟨gb, 0, none⟩)]] w fun e w' => e = .returned (.tuple #[]) ∧ (∃ X, Sorted cs 0 n o X ∧ w'.ownsRow B 3 1 (.slice (some ⟨gs, 0, none⟩) n cap) n (X.map (Value.int .i64))) ∧ w.grownBy w' (some gs) := by
  unfold mostS at hn
  by_cases h20 : n < 20
  · have HI := hid (ins_word 0 n n cap B gb gs gc oc capc cs o w hcts (by omega) (Nat.le_refl _) (by omega) hl hown hcap ho (fun p q _ h2 h3 => hinc p q h2 h3))
    clear hown hcts ho hinc hl
    have h1 : ¬ (20 : Int) ≤ (n : Int) := by omega
    have h2 : ¬ (20 : Int) < (n : Int) := by omega
    go_enter Try.func55, Try.ntmps55
    go_wp2
    refine wp_loop_rounds 1 ?_
    rw [rounds_succ]
    go_wp2_with fail
    refine HI.out.mono ?_
    rintro _ w1 ⟨rfl, hX, hg⟩
    have HX := hid hX
    have HG := hid hg
    clear hX hg
    go_wp2
    refine wp_loop_rounds 1 ?_
    rw [rounds_succ]
    go_wp2
    go_end0
    exact ⟨rfl, HX.out, HG.out⟩
  · by_cases c1 : 20 < n
    · by_cases c2 : n < 40
      · exact stab_a n cap B gb gs gc oc capc cs o w hcts hl hown hcap ho hinc c1 c2
      · by_cases c3 : n = 40
        · exact stab_b n cap B gb gs gc oc capc cs o w hcts hl hown hcap ho hinc c3
        · by_cases c4 : n < 60
          · exact stab_c n cap B gb gs gc oc capc cs o w hcts hl hown hcap ho hinc (by omega) c4
          · exact stab_d n cap B gb gs gc oc capc cs o w hcts hl hown hcap ho hinc (by omega)
    obtain rfl : n = 20 := by omega
    have HI := hid (ins_word 0 20 20 cap B gb gs gc oc capc cs o w hcts (by omega) (Nat.le_refl _) (by omega) hl hown hcap ho (fun p q _ h2 h3 => hinc p q h2 h3))
    have HI2 : Hid (∀ (X : List Int) (W : World), Sorted cs 0 20 o X → W.ownsRow B 3 1 (.slice (some ⟨gs, 0, none⟩) 20 cap) 20 (X.map (Value.int .i64)) → w.grownBy W (some gs) → Calls Try.prog 57 #[.slice (some ⟨gs, 0, none⟩) 20 cap, .int .i64 20, .int .i64 20, .func (.func 52) #[] #[.pointer (some ⟨gb, 0, none⟩)]] W fun e w' => e = .returned (.tuple #[]) ∧ (∃ Y, Sorted cs 0 20 o Y ∧ w'.ownsRow B 3 1 (.slice (some ⟨gs, 0, none⟩) 20 cap) 20 (Y.map (Value.int .i64))) ∧ w.grownBy w' (some gs)) := by
      intro X W hX hW hg
      refine (ins_word 20 20 20 cap B gb gs gc oc capc cs X W (hcts.kept hg) (by omega) (Nat.le_refl _) (by omega) (by rw [hX.perm.length_eq, hl]) hW hcap (fun u hu => ho u (hX.perm.subset hu)) (fun p q h1 h2 h3 => by omega)).mono ?_
      rintro e w' ⟨he, ⟨Y, hY, hwY⟩, hg'⟩
      exact ⟨he, ⟨Y, sorted_trans hl hX hY, hwY⟩, grown_trans hg hg'⟩
    clear hown hcts ho hinc hl
    go_enter Try.func55, Try.ntmps55
    go_wp2
    refine wp_loop_rounds 2 ?_
    rw [rounds_succ]
    go_wp2_with fail
    refine HI.out.mono ?_
    rintro _ w1 ⟨rfl, ⟨X, hX, hwX⟩, hg⟩
    have HI3 := hid (HI2.out X w1 hX hwX hg)
    clear hX hwX hg HI HI2
    go_wp2
    rw [rounds_succ]
    go_wp2_with fail
    refine HI3.out.mono ?_
    rintro _ w2 ⟨rfl, hX, hg⟩
    have HX := hid hX
    have HG := hid hg
    clear hX hg
    go_wp2
    refine wp_loop_rounds 1 ?_
    rw [rounds_succ]
    go_wp2
    go_end0
    exact ⟨rfl, HX.out, HG.out⟩

theorem sortf_word (n cap B gb gs gc oc capc : Nat) (cs o : List Int) (w : World) (hcts : Cts w gb gs gc oc capc cs) (hn : n ≤ mostS) (hl : o.length = n)
    (hown : w.ownsRow B 3 1 (.slice (some ⟨gs, 0, none⟩) n cap) n (o.map (Value.int .i64))) (hcap : n ≤ cap) (ho : ∀ u ∈ o, 0 ≤ u ∧ u < (cs.length : Int)) (hinc : ∀ p q, p < q → q < n → o.getD p 0 < o.getD q 0) :
    Calls Try.prog 51 #[.slice (some ⟨gs, 0, none⟩) n cap, .func (.func 52) #[] #[.pointer (some ⟨gb, 0, none⟩)]] w fun e w' => e = .returned (.tuple #[]) ∧ (∃ X, Sorted cs 0 n o X ∧ w'.ownsRow B 3 1 (.slice (some ⟨gs, 0, none⟩) n cap) n (X.map (Value.int .i64))) ∧ w.grownBy w' (some gs) := by
  have HS := hid (stable_word n cap B gb gs gc oc capc cs o w hcts hn hl hown hcap ho hinc)
  clear hown hcts ho hinc hl hn
  go_enter Try.func51, Try.ntmps51
  go_wp2_with fail
  refine HS.out.mono ?_
  rintro _ w1 ⟨rfl, hX, hg⟩
  have HX := hid hX
  have HG := hid hg
  clear hX hg
  go_wp2
  go_end0
  exact ⟨rfl, HX.out, HG.out⟩

/-- slices.SortStableFunc of nothing. -/
theorem ins_nil (a : Option Addr) (cp : Nat) (fv : Value) (w : World) : Calls Try.prog 57 #[.slice a 0 cp, .int .i64 0, .int .i64 0, fv] w fun e w' => e = .returned (.tuple #[]) ∧ w' = w := by
  go_enter Try.func57, Try.ntmps57
  go_wp2
  refine wp_loop_rounds 1 ?_
  rw [rounds_succ]
  go_wp2
  go_end0
  exact ⟨rfl, rfl⟩
theorem stable_nil (a : Option Addr) (cp : Nat) (fv : Value) (w : World) : Calls Try.prog 55 #[.slice a 0 cp, .int .i64 0, fv] w fun e w' => e = .returned (.tuple #[]) ∧ w' = w := by
  have HI := hid (ins_nil a cp fv w)
  go_enter Try.func55, Try.ntmps55
  go_wp2
  refine wp_loop_rounds 1 ?_
  rw [rounds_succ]
  go_wp2_with fail
  refine HI.out.mono ?_
  rintro _ w1 ⟨rfl, hw⟩
  obtain rfl := hw.symm
  clear hw
  go_wp2
  refine wp_loop_rounds 1 ?_
  rw [rounds_succ]
  go_wp2
  go_end0
  exact ⟨rfl, rfl⟩
theorem sortf_nil (a : Option Addr) (cp : Nat) (fv : Value) (w : World) : Calls Try.prog 51 #[.slice a 0 cp, fv] w fun e w' => e = .returned (.tuple #[]) ∧ w' = w := by
  have HI := hid (stable_nil a cp fv w)
  go_enter Try.func51, Try.ntmps51
  go_wp2_with fail
  refine HI.out.mono ?_
  rintro _ w1 ⟨rfl, hw⟩
  obtain rfl := hw.symm
  clear hw
  go_wp2
  go_end0
  exact ⟨rfl, rfl⟩

theorem Try.info3' : (Try.prog.info? 3).map (fun i => (i.zero, i.size, i.bytes)) = some (some (.int .i64 0), 1, 8) := by kernel_rfl

set_option maxHeartbeats 1600000 in
set_option maxRecDepth 100000 in
theorem byCount_word (a : Option Addr) (cap : Nat) (cs : List Int) (w : World) (hr : Ri w .i64 a cap cs) (hn : cs.length ≤ 100000) (hm : (nz cs cs.length).length ≤ mostS) :
    Calls Try.prog 44 #[.slice a cs.length cap] w fun e w' => ∃ v, e = .returned v ∧ w'.ownsRow w.heap.size 3 1 v (srt cs).length ((srt cs).map (Value.int .i64)) ∧ Below w.heap.size w w' := by
  obtain ⟨i0, hi, hz0, hz1, hz2⟩ := info_parts Try.info3'
  have HR := hid hr
  obtain ⟨len, hl⟩ : ∃ n, n = cs.length := ⟨_, rfl⟩
  have HL := hid hl
  rw [← hl] at hn hm ⊢
  have HM := hid hm
  have hbA := bel_alloc w (.cells #[.slice a len cap] 22)
  have eA := World.cell?_alloc_mark w #[.slice a len cap] 22 (0, 0) 0
  have sA : (w.alloc (.cells #[.slice a len cap] 22)).heap.size = w.heap.size + 1 := by simp
  have HBA := hid hbA
  have HSA := hid sA
  have cA : (w.alloc (.cells #[.slice a len cap] 22)).cell? ⟨w.heap.size, 0, none⟩ = some (.slice a len cap) := by simp
  have HCA := hid cA
  clear hr hl hm hbA sA eA cA
  go_enter Try.func44, Try.ntmps44
  go_wp2_with fail
  generalize w.alloc (.cells #[.slice a len cap] 22) = wA at *
  go_loopw [3, 8] (fun v y wr => ∃ k : Nat, k ≤ len ∧ y = .int .i64 k ∧ wr.ownsRow (w.heap.size + 1) 3 1 v (nz cs k).length ((nz cs k).map (Value.int .i64)) ∧ Below (w.heap.size + 1) wA wr) (fun _ y _ => len - (intOf y).toNat)
  case atStart => exact ⟨0, by omega, rfl, World.ownsRow_nil _ _ _ _, Below.refl _ _⟩
  case round =>
    obtain ⟨k, hk, rfl, hown, hbel⟩ := hrel
    have hsz : w.heap.size + 1 ≤ wr.heap.size := by rw [← HSA.out]; exact hbel.size
    by_cases hlt : k < len
    · have hkl : (k : Int) < (len : Int) := by omega
      have K1 : Hid (k < cs.length) := by show _ < _; rw [← HL.out]; exact hlt
      obtain ⟨b, off, rfl, hbw, hc⟩ := (HR.out).cells (by rw [← HL.out]; omega)
      have ck : wr.cell? ⟨b, off + k, none⟩ = some (.int .i64 (cs.getD k 0)) := ((hbel.cell (p := ⟨b, off + k, none⟩) (by show b < _; omega)).trans (HBA.out.cell (p := ⟨b, off + k, none⟩) hbw)).trans (hc k K1.out)
      clear hc
      have HNZ := hid (show nz cs (k + 1) = if 0 < cs.getD k 0 then nz cs k ++ [(k : Int)] else nz cs k from rfl)
      have hnl := nz_len cs k
      generalize cs.getD k 0 = c at *
      by_cases hc0 : 0 < c
      · have HN2 : Hid (nz cs (k + 1) = nz cs k ++ [(k : Int)]) := by show _ = _; rw [HNZ.out, if_pos hc0]
        go_wp2_with (at_builtin; refine wpList_append_own _ rfl _ _ 22 rfl (w.heap.size + 1) 3 i0 (.int .i64 0) 1 8 Try.underlying22 hi hz0 hz1 hz2 rfl (by decide) _ _ _ rfl (hown.alloc _) ⟨wr.heap.size, 0, none⟩ 1 1 [.int .i64 (k : Int)] rfl rfl ?c1 ?c2 ?c3 ?c4 ?c5 ?_)
        case c1 =>
          intro j u hj
          match j, hj with
          | 0, hj => simp at hj; subst hj; simp [Addr.add]
        case c2 => intro u hu; simp at hu; subst hu; rfl
        case c3 => unfold maxLen; omega
        case c4 => omega
        case c5 => simp; omega
        intro v1 w1 hown0 hgrow _
        have HB1 := hid ((hbel.alloc hsz _).grown hgrow (by simp; omega) (fun j hj => (hown.lt j hj).1))
        have HO1 : Hid (w1.ownsRow (w.heap.size + 1) 3 1 v1 (nz cs (k + 1)).length ((nz cs (k + 1)).map (Value.int .i64))) := by
          show World.ownsRow _ _ _ _ _ _ _
          rw [HN2.out]; simpa using hown0
        clear hown hown0 hgrow hbel ck
        go_wp2
        exact ⟨⟨k + 1, by omega, by go_num, HO1.out, HB1.out⟩, by simp [intOf]; omega⟩
      · have HN2 : Hid (nz cs (k + 1) = nz cs k) := by show _ = _; rw [HNZ.out, if_neg hc0]
        go_wp2
        exact ⟨⟨k + 1, by omega, by go_num, by rw [HN2.out]; exact hown, hbel⟩, by simp [intOf]; omega⟩
    · obtain rfl : k = len := by omega
      have hboxr : wr.cell? ⟨w.heap.size, 0, none⟩ = some (.slice a k cap) := (hbel.cell (p := ⟨w.heap.size, 0, none⟩) (by show w.heap.size < _; omega)).trans HCA.out
      have HBW := hid (HBA.out.trans (hbel.mono (by omega)))
      by_cases h0 : 0 < (nz cs k).length
      · obtain ⟨gs, cp, rfl, hgs, hcp⟩ := own_some hown h0
        have hlen0 : 0 < k := by have := nz_len cs k; omega
        obtain ⟨b, off, rfl, hbw, hc⟩ := (HR.out).cells (by rw [← HL.out]; omega)
        have hcts : Cts wr w.heap.size gs b off cap cs := by
          refine ⟨by rw [← HL.out]; exact hboxr, fun j hj => (HBW.out.cell (p := ⟨b, off + j, none⟩) hbw).trans (hc j hj), by rw [← HL.out]; omega, by omega, by omega⟩
        have HS := hid (sortf_word (nz cs k).length cp (w.heap.size + 1) w.heap.size gs b off cap cs (nz cs k) wr hcts HM.out rfl hown hcp (fun u hu => by have := nz_mem cs k u hu; rw [← HL.out]; omega) (getD_inc (nz_inc cs k)))
        have hlt2 := (hown.lt gs rfl).2
        rw [HL.out] at HS
        have HKL := hid HL.out
        clear hown hbel hc hcts
        rw [show nz cs k = nz cs cs.length from by rw [← HL.out]]
        go_wp2_with fail
        refine HS.out.mono ?_
        rintro _ w1 ⟨rfl, ⟨X, hX, hwX⟩, hg⟩
        have hXe := srt_eq hX
        subst hXe
        rw [← srt_len] at hwX
        have HO := hid (own_low hwX (show w.heap.size ≤ w.heap.size + 1 from by omega))
        have HB : Hid (Below w.heap.size w w1) := HBW.out.grown hg HBW.out.size (fun j hj => by injection hj with hj; omega)
        rw [← srt_len]
        clear hX hwX hg
        go_wp2
        go_ret
        exact ⟨_, rfl, HO.out, HB.out⟩
      · have hnil : nz cs k = [] := List.length_eq_zero_iff.1 (by omega)
        obtain ⟨a3, cp3, rfl⟩ : ∃ a3 cp3, u3 = .slice a3 0 cp3 := by
          rcases hown.2 with ⟨h1, _⟩ | ⟨g, cp, _, h1, _⟩
          · exact ⟨none, 0, h1⟩
          · exact ⟨_, cp, by rw [h1, hnil]; rfl⟩
        have hs0 : srt cs = [] := by
          have := srt_len cs
          rw [← HL.out, hnil] at this
          exact List.length_eq_zero_iff.1 this
        rw [hnil] at hown
        have HO := hid (own_low hown (show w.heap.size ≤ w.heap.size + 1 from by omega))
        have HSN := hid (fun W => sortf_nil a3 cp3 (.func (.func 52) #[] #[.pointer (some ⟨w.heap.size, 0, none⟩)]) W)
        have HE := hid hs0
        clear hown hbel hnil hs0 h0
        go_wp2_with fail
        refine (HSN.out _).mono ?_
        rintro _ w1 ⟨rfl, hw⟩
        obtain rfl := hw.symm
        clear hw
        go_wp2
        go_ret
        exact ⟨_, rfl, by rw [HE.out]; exact HO.out, HBW.out⟩
end Go.Proofs.Ytgecoiakhmnilaa
