/-
  The document's side of marks: Has. The document's side of marks: IsHead, Check, body.
-/
import Derived.Test.YtplinkmagnihmaaDoorCkJa
import Derived.Test.YtplinkmagnihmaaDoorCkJb
namespace Go.Proofs.YtplinkmagnihmaaDoor
open Go.ChangeShapes Go.WideShapes Go.ChangeAt Go.RowKit Go.Deep Go.Lib

attribute [local irreducible] Go.wpList in
set_option maxHeartbeats 6400000 in
set_option maxRecDepth 100000 in
theorem isHead_word (h : Hd) (w : World) (hl : h.2.2.length = 32) : Calls Tryd.prog 56 #[.agg (hdV h).toArray] w fun e w' => e = .returned (.bool (headB h)) ∧ Below w.heap.size w w' := by
  have HB := hid (bel_alc w (.cells (hdV h).toArray 27))
  have hbx := heap_alc w (.cells (hdV h).toArray 27)
  have HR := hid (blk_range hbx)
  have c0 := hd_seq HR.out
  have c1 := hd_epoch HR.out
  have HLN := hid (hdV_len hl)
  have hgd := guard55
  clear hbx
  by_cases hz : h = hdZ
  · have heq : ∀ V, (Op.equalIn 10000 27 (.agg (hdV h).toArray) (.agg #[.int .i64 0, .int .i64 0, .int .u8 0, .int .u8 0, .int .u8 0, .int .u8 0, .int .u8 0, .int .u8 0, .int .u8 0, .int .u8 0, .int .u8 0, .int .u8 0, .int .u8 0, .int .u8 0, .int .u8 0, .int .u8 0, .int .u8 0, .int .u8 0, .int .u8 0, .int .u8 0, .int .u8 0, .int .u8 0, .int .u8 0, .int .u8 0, .int .u8 0, .int .u8 0, .int .u8 0, .int .u8 0, .int .u8 0, .int .u8 0, .int .u8 0, .int .u8 0, .int .u8 0, .int .u8 0])).run Tryd.prog V = .ok true V := fun V => (eq55 h hdZ hl rfl V).trans (by rw [decide_eq_true hz])
    have HE : Hid (headB h = true) := by show _ = _; unfold headB; rw [decide_eq_true hz]; rfl
    rw [HE.out]
    clear hz
    go_enter Tryd.func56, Tryd.ntmps56
    go_wp2_with (first | refine wpList_load_g rfl 27 _ rfl w.heap.size 0 rfl (hdV h) _ HR.out Tryd.underlying27 rfl (by rw [HLN.out]; exact Tryd.size27h) ?_ | fail)
    go_ret
    exact ⟨rfl, HB.out⟩
  · have heq : ∀ V, (Op.equalIn 10000 27 (.agg (hdV h).toArray) (.agg #[.int .i64 0, .int .i64 0, .int .u8 0, .int .u8 0, .int .u8 0, .int .u8 0, .int .u8 0, .int .u8 0, .int .u8 0, .int .u8 0, .int .u8 0, .int .u8 0, .int .u8 0, .int .u8 0, .int .u8 0, .int .u8 0, .int .u8 0, .int .u8 0, .int .u8 0, .int .u8 0, .int .u8 0, .int .u8 0, .int .u8 0, .int .u8 0, .int .u8 0, .int .u8 0, .int .u8 0, .int .u8 0, .int .u8 0, .int .u8 0, .int .u8 0, .int .u8 0, .int .u8 0, .int .u8 0])).run Tryd.prog V = .ok false V := fun V => (eq55 h hdZ hl rfl V).trans (by rw [decide_eq_false hz])
    obtain ⟨q, hq⟩ : ∃ q, q = headB h := ⟨_, rfl⟩
    rw [← hq]
    have HE : Hid (q = (decide (1 ≤ h.1 ∧ h.1 ≤ 1073741824) && decide (1 ≤ h.2.1 ∧ h.2.1 ≤ 1073741824))) := by show _ = _; rw [hq]; unfold headB; rw [decide_eq_false hz]; rfl
    clear hz hq
    obtain ⟨n, hn⟩ : ∃ n, n = h.1 := ⟨_, rfl⟩
    obtain ⟨k, hk⟩ : ∃ k, k = h.2.1 := ⟨_, rfl⟩
    rw [← hn] at c0 HE
    rw [← hk] at c1 HE
    clear hn hk
    by_cases h1 : 1 ≤ n
    · by_cases h2 : n ≤ 1073741824
      · by_cases h3 : 1 ≤ k
        · by_cases h4 : k ≤ 1073741824
          · have HQ : Hid (q = true) := by show _ = _; rw [HE.out, decide_eq_true ⟨h1, h2⟩, decide_eq_true ⟨h3, h4⟩]; rfl
            rw [HQ.out]
            go_enter Tryd.func56, Tryd.ntmps56
            go_wp2_with (first | refine wpList_load_g rfl 27 _ rfl w.heap.size 0 rfl (hdV h) _ HR.out Tryd.underlying27 rfl (by rw [HLN.out]; exact Tryd.size27h) ?_ | fail)
            go_ret
            exact ⟨rfl, HB.out⟩
          · have HQ : Hid (q = false) := by show _ = _; rw [HE.out, decide_eq_false (fun e : 1 ≤ k ∧ k ≤ 1073741824 => h4 e.2)]; simp
            rw [HQ.out]
            go_enter Tryd.func56, Tryd.ntmps56
            go_wp2_with (first | refine wpList_load_g rfl 27 _ rfl w.heap.size 0 rfl (hdV h) _ HR.out Tryd.underlying27 rfl (by rw [HLN.out]; exact Tryd.size27h) ?_ | fail)
            go_ret
            exact ⟨rfl, HB.out⟩
        · have HQ : Hid (q = false) := by show _ = _; rw [HE.out, decide_eq_false (fun e : 1 ≤ k ∧ k ≤ 1073741824 => h3 e.1)]; simp
          rw [HQ.out]
          go_enter Tryd.func56, Tryd.ntmps56
          go_wp2_with (first | refine wpList_load_g rfl 27 _ rfl w.heap.size 0 rfl (hdV h) _ HR.out Tryd.underlying27 rfl (by rw [HLN.out]; exact Tryd.size27h) ?_ | fail)
          go_ret
          exact ⟨rfl, HB.out⟩
      · have HQ : Hid (q = false) := by show _ = _; rw [HE.out, decide_eq_false (fun e : 1 ≤ n ∧ n ≤ 1073741824 => h2 e.2)]; simp
        rw [HQ.out]
        go_enter Tryd.func56, Tryd.ntmps56
        go_wp2_with (first | refine wpList_load_g rfl 27 _ rfl w.heap.size 0 rfl (hdV h) _ HR.out Tryd.underlying27 rfl (by rw [HLN.out]; exact Tryd.size27h) ?_ | fail)
        go_ret
        exact ⟨rfl, HB.out⟩
    · have HQ : Hid (q = false) := by show _ = _; rw [HE.out, decide_eq_false (fun e : 1 ≤ n ∧ n ≤ 1073741824 => h1 e.1)]; simp
      rw [HQ.out]
      go_enter Tryd.func56, Tryd.ntmps56
      go_wp2_with (first | refine wpList_load_g rfl 27 _ rfl w.heap.size 0 rfl (hdV h) _ HR.out Tryd.underlying27 rfl (by rw [HLN.out]; exact Tryd.size27h) ?_ | fail)
      go_ret
      exact ⟨rfl, HB.out⟩
set_option maxHeartbeats 3200000 in
set_option maxRecDepth 100000 in
theorem dcheckM_word (m : Mrk) (w : World) (h : MOk m) : Calls Tryd.prog 40 #[.agg (mkV m).toArray] w fun e w' => e = .returned (.int .i64 (e160 (mayM m))) ∧ Below w.heap.size w w' := by
  have HB := hid (bel_alc w (.cells (mkV m).toArray 45))
  have hbx := heap_alc w (.cells (mkV m).toArray 45)
  have hr0 := blk_range hbx
  have c0 := mk_site hr0
  have HR := hid (mk_hd hr0)
  have HLN := hid (hdV_len h.hd.len)
  have HMH := hid (fun V => isHead_word m.2.1 V h.hd.len)
  clear hbx hr0
  obtain ⟨r, hr⟩ : ∃ r, r = headB m.2.1 := ⟨_, rfl⟩
  have hmm : mayM m = ((decide (m.1 = 0) || decide (m.1 = 1)) && r) := by rw [hr]; rfl
  rw [hmm]
  rw [← hr] at HMH
  obtain ⟨s, hs⟩ : ∃ s, s = m.1 := ⟨_, rfl⟩
  rw [← hs] at c0
  rw [← hs]
  clear hs hr hmm
  by_cases h0 : s < 0
  · rw [decide_eq_false (show ¬ s = 0 by omega), decide_eq_false (show ¬ s = 1 by omega)]
    go_enter Tryd.func40, Tryd.ntmps40
    go_wp2_with (first | refine wpList_load_g rfl 27 _ rfl w.heap.size 1 rfl (hdV m.2.1) _ HR.out Tryd.underlying27 rfl (by rw [HLN.out]; exact Tryd.size27h) ?_ | fail)
    go_ret
    exact ⟨rfl, HB.out⟩
  · by_cases h1 : 1 < s
    · rw [decide_eq_false (show ¬ s = 0 by omega), decide_eq_false (show ¬ s = 1 by omega)]
      go_enter Tryd.func40, Tryd.ntmps40
      go_wp2_with (first | refine wpList_load_g rfl 27 _ rfl w.heap.size 1 rfl (hdV m.2.1) _ HR.out Tryd.underlying27 rfl (by rw [HLN.out]; exact Tryd.size27h) ?_ | fail)
      go_ret
      exact ⟨rfl, HB.out⟩
    · have HQ : Hid ((decide (s = 0) || decide (s = 1)) = true) := by
        show _ = _
        rw [Bool.or_eq_true, decide_eq_true_eq, decide_eq_true_eq]
        omega
      rw [HQ.out, Bool.true_and]
      cases r
      all_goals
        go_enter Tryd.func40, Tryd.ntmps40
        go_wp2_with (first | refine wpList_load_g rfl 27 _ rfl w.heap.size 1 rfl (hdV m.2.1) _ HR.out Tryd.underlying27 rfl (by rw [HLN.out]; exact Tryd.size27h) ?_ | fail)
        refine (HMH.out _).mono ?_
        rintro _ w1 ⟨rfl, hb⟩
        have HB1 := hid (Bn HB.out hb)
        clear hb
        go_wp2
        go_ret
        exact ⟨rfl, HB1.out⟩
end Go.Proofs.YtplinkmagnihmaaDoor
namespace Go.Proofs.YtplinkmagnihmaaDoor
open Go.ChangeShapes Go.WideShapes Go.ChangeAt Go.RowKit Go.Deep Go.Lib

def dhasB (l : List Rec) (h : Hd) : Bool := decide (0 ≤ h.1 ∧ h.1 ≤ (l.length : Int)) && (decide ((wlk hdZ (l.take h.1.toNat) 0).2.2 = 0) && decide ((wlk hdZ (l.take h.1.toNat) 0).1 = h))
theorem Rr.pre {w : World} {a : Option Addr} {cap : Nat} {l : List Rec} (h : Rr w a cap l) {n : Nat} (hn : n ≤ l.length) : Rr w a cap (l.take n) := by
  have hl : (l.take n).length = n := by rw [List.length_take]; omega
  refine ⟨by rw [hl]; exact Nat.le_trans hn h.room, h.most, h.none0, fun h0 => ?_, fun r hr => h.fits r (List.mem_of_mem_take hr)⟩
  obtain ⟨b, off, ha, hb, hc⟩ := h.cells (by omega)
  refine ⟨b, off, ha, hb, fun j hj => ?_⟩
  have := hc j (by omega)
  rw [show (l.take n).getD j recZ = l.getD j recZ from by simp [List.getD, List.getElem?_take_of_lt (show j < n by omega)]]
  exact this
set_option maxRecDepth 100000 in
theorem slice_pre (a : Option Addr) (len cap n : Nat) (h : n ≤ cap) (W : World) : (Instr.slice 23 (.slice a len cap) none (some (.int .i64 (n : Int))) none).run Tryd.prog W = .ok (.slice a n cap) W := by
  have := run_slice_h (P := Tryd.prog) W 23 a len cap Tryd.underlying23 .i64 (n : Int) (by omega) (by omega)
  rw [this, Int.toNat_natCast]
  have hs : (sizeOf (Tryd.prog.elem 23)).run Tryd.prog W = .ok 38 W := by kernel_rfl
  rw [hs]
  show Result.ok (sliced a 0 n cap 38) W = _
  unfold sliced
  cases a with
  | none => simp
  | some ad => cases hcz : decide (cap = 0) <;> simp [Addr.add]
set_option maxHeartbeats 6400000 in
set_option maxRecDepth 100000 in
theorem dhas_word (h : Hd) (a : Option Addr) (cap : Nat) (l : List Rec) (w : World) (hl : h.2.2.length = 32) (hr : Rr w a cap l) (hn : ∀ r ∈ l, r.ps.length ≤ 1000) :
    Calls Tryd.prog 14 #[.slice a l.length cap, .agg (hdV h).toArray] w fun e w' => e = .returned (.bool (dhasB l h)) ∧ Below w.heap.size w w' := by
  have hB1 := bel_alc w (.cells (hdV h).toArray 27)
  have hbx := heap_alc w (.cells (hdV h).toArray 27)
  have hsz : (w.alloc (.cells (hdV h).toArray 27)).heap.size = w.heap.size + 1 := by simp
  obtain ⟨W1, hW1⟩ : ∃ W1, W1 = w.alloc (.cells (hdV h).toArray 27) := ⟨_, rfl⟩
  rw [← hW1] at hB1 hbx hsz
  have HW1 := hid hW1
  have HB := hid hB1
  have HBX := hid hbx
  have HS1 := hid hsz
  have HLN := hid (hdV_len hl)
  have HRR := hid hr
  have hroom := hr.room
  have hmost := hr.most
  unfold maxLen at hmost
  have c0 : W1.cell? ⟨w.heap.size, 0, none⟩ = some (.int .i64 h.1) := hd_seq (blk_range hbx)
  obtain ⟨q, hq⟩ : ∃ q, q = dhasB l h := ⟨_, rfl⟩
  rw [← hq]
  unfold dhasB at hq
  have HQ := hid hq
  have HH := hid hl
  have HN := hid hn
  have HC0 := hid c0
  clear hq hl hr hn hW1 hbx hB1 hsz c0
  by_cases h0 : h.1 < 0
  · have HF : Hid (q = false) := by show _ = _; rw [HQ.out, decide_eq_false (by omega)]; rfl
    rw [HF.out]
    have c0 := HC0.out
    obtain ⟨z, hz⟩ : ∃ z, z = h.1 := ⟨_, rfl⟩
    rw [← hz] at h0 c0
    have HZ := hid hz
    clear hz HQ HC0
    rw [HW1.out] at c0
    go_enter Tryd.func14, Tryd.ntmps14
    go_wp2
    go_ret
    exact ⟨rfl, by rw [← HW1.out]; exact HB.out⟩
  · obtain ⟨n, hz⟩ : ∃ n : Nat, h.1 = (n : Int) := ⟨h.1.toNat, by omega⟩
    rw [hz] at HQ HC0
    rw [Int.toNat_natCast] at HQ
    have c0 := HC0.out
    clear HC0 h0
    by_cases hnl : l.length < n
    · have HF : Hid (q = false) := by show _ = _; rw [HQ.out, decide_eq_false (by omega)]; rfl
      rw [HF.out]
      have HZ := hid hz
      clear hz HQ
      rw [HW1.out] at c0
      go_enter Tryd.func14, Tryd.ntmps14
      go_wp2
      go_ret
      exact ⟨rfl, by rw [← HW1.out]; exact HB.out⟩
    · have hsl := fun W => slice_pre a l.length cap n (by omega) W
      obtain ⟨l', hl'⟩ : ∃ l', l' = l.take n := ⟨_, rfl⟩
      rw [← hl'] at HQ
      have hlen : l'.length = n := by rw [hl', List.length_take]; omega
      have HWK := hid (fun V (hV : Below w.heap.size w V) => (show Calls Tryd.prog 22 #[.agg #[.int .i64 0, .int .i64 0, .int .u8 0, .int .u8 0, .int .u8 0, .int .u8 0, .int .u8 0, .int .u8 0, .int .u8 0, .int .u8 0, .int .u8 0, .int .u8 0, .int .u8 0, .int .u8 0, .int .u8 0, .int .u8 0, .int .u8 0, .int .u8 0, .int .u8 0, .int .u8 0, .int .u8 0, .int .u8 0, .int .u8 0, .int .u8 0, .int .u8 0, .int .u8 0, .int .u8 0, .int .u8 0, .int .u8 0, .int .u8 0, .int .u8 0, .int .u8 0, .int .u8 0, .int .u8 0], .slice a n cap] V (fun e w' => e = .returned (.tuple #[.agg (hdV (wlk hdZ l' 0).1).toArray, .int .i64 ((wlk hdZ l' 0).2.1 : Int), .int .i64 (wlk hdZ l' 0).2.2]) ∧ Below V.heap.size V w') from by
        have := dwalk_word hdZ a cap l' V rfl (by rw [hl']; exact (HRR.out.pre (by omega)).later hV) (fun r hr => HN.out r (List.mem_of_mem_take (by rw [← hl']; exact hr)))
        rw [hlen] at this
        exact this))
      have HXL := hid (wlk_len l' hdZ 0 rfl)
      have HF : Hid (q = (decide ((wlk hdZ l' 0).2.2 = 0) && decide ((wlk hdZ l' 0).1 = h))) := by show _ = _; rw [HQ.out, decide_eq_true (by omega)]; rfl
      have HZ := hid hz
      have HLL := hid hlen
      clear hz HQ hl' hlen HN
      obtain ⟨X, hX⟩ : ∃ X, X = (wlk hdZ l' 0).1 := ⟨_, rfl⟩
      obtain ⟨E, hE⟩ : ∃ E, E = (wlk hdZ l' 0).2.2 := ⟨_, rfl⟩
      obtain ⟨K0, hK0⟩ : ∃ K0, K0 = (wlk hdZ l' 0).2.1 := ⟨_, rfl⟩
      rw [← hX, ← hE, ← hK0] at HWK
      rw [← hX, ← hE] at HF
      rw [← hX] at HXL
      clear hX hE hK0
      have HXV := hid (hdV_len HXL.out)
      have HZ27 := hid Tryd.zero27
      rw [HW1.out] at c0
      go_enter Tryd.func14, Tryd.ntmps14
      go_wp2_with fail
      rw [← HW1.out]
      refine (HWK.out W1 HB.out).mono ?_
      rintro _ W2 ⟨rfl, hb2⟩
      have HX2 := hid (blk_later HBX.out hb2)
      have HB2 := hid (Bn HB.out hb2)
      obtain ⟨g2, hg2⟩ : ∃ g2, g2 = W2.heap.size := ⟨_, rfl⟩
      have HGE : Hid (w.heap.size < g2) := by show _ < _; rw [hg2]; have := hb2.size; have := HS1.out; omega
      have HGQ := hid hg2
      clear hb2 c0 hsl HWK hg2
      go_wp2_with (first | refine wpList_alloc_W rfl 27 rfl (some 5) rfl _ HZ27.out g2 HGQ.out ?_ | fail)
      intro W3 HG3 HB3 HS3
      go_wp2_with (first | refine wpList_store_W rfl 27 _ _ rfl rfl g2 (hdV X).toArray rfl rfl 27 _ HG3.out (by rw [List.size_toArray, HXV.out]; exact Tryd.size27) (by simp only [List.size_toArray, HXV.out]; rfl) (all_oneCell_toArray (show ∀ u ∈ hdV X, u.oneCell' = true from hdL_one _ _ _)) ?_ | fail)
      intro W4 HG4 HGR4 HS4
      have HB4 : Hid (Below W2.heap.size W2 W4) := by
        show Below _ _ _
        rw [← HGQ.out]
        exact HB3.out.trans (bel_grown HGR4.out (Nat.le_refl _) (by rw [HGQ.out]; exact HB3.out.size))
      have HX4 := hid (blk_later HX2.out HB4.out)
      have HBB := hid (Bn HB2.out HB4.out)
      have HR4 := hid (blk_range HX4.out)
      have HR5 := hid (blk_range HG4.out)
      clear HG3 HB3 HS3 HGR4 HS4 HB4 HGQ HX2 HX4 HG4
      have hgd := guard55
      by_cases hE : E = 0
      · obtain ⟨p, hp⟩ : ∃ p, p = decide (X = h) := ⟨_, rfl⟩
        have heq : ∀ V, (Op.equalIn 10000 27 (.agg (hdV X).toArray) (.agg (hdV h).toArray)).run Tryd.prog V = .ok p V := fun V => (eq55 X h HXL.out HH.out V).trans (by rw [hp])
        have HP : Hid (q = p) := by show _ = _; rw [HF.out, decide_eq_true hE, hp]; rfl
        clear hp HF
        go_wp2_with (first | refine wpList_load_g rfl 27 _ rfl g2 0 rfl (hdV X) _ HR5.out Tryd.underlying27 rfl (by rw [HXV.out]; exact Tryd.size27) ?_ | refine wpList_load_g rfl 27 _ rfl w.heap.size 0 rfl (hdV h) _ HR4.out Tryd.underlying27 rfl (by rw [HLN.out]; exact Tryd.size27) ?_ | fail)
        go_ret
        exact ⟨(show _ = Ending.returned (Value.bool q) by rw [HP.out]; try rfl), HBB.out⟩
      · have HP : Hid (q = false) := by show _ = _; rw [HF.out, decide_eq_false hE]; rfl
        clear HF
        go_wp2_with fail
        go_ret
        exact ⟨(show _ = Ending.returned (Value.bool q) by rw [HP.out]; try rfl), HBB.out⟩
end Go.Proofs.YtplinkmagnihmaaDoor
