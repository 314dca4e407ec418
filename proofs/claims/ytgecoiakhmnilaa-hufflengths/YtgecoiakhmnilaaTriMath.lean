/-
  Plain facts on the document's nodes as cells: weight, node that they stand in, symbol.
-/
import Derived.Test.YtgecoiakhmnilaaDocEnd
namespace Go.Proofs.Ytgecoiakhmnilaa
namespace Hf

abbrev Nd := Int × Int × Int
def flat3 (T : List Nd) : List Int := T.flatMap (fun x => [x.1, x.2.1, x.2.2])
theorem flat3_length (T : List Nd) : (flat3 T).length = T.length * 3 := by
  unfold flat3
  induction T with
  | nil => rfl
  | cons x T ih => rw [List.flatMap_cons, List.length_append, ih]; simp; omega
theorem flat3_app (T : List Nd) (x y z : Int) : flat3 (T ++ [(x, y, z)]) = flat3 T ++ [x, y, z] := by
  unfold flat3; simp
theorem flat3_cons (x : Nd) (T : List Nd) : flat3 (x :: T) = x.1 :: x.2.1 :: x.2.2 :: flat3 T := rfl
theorem flat3_at (T : List Nd) : ∀ i, (flat3 T).getD (i * 3) 0 = (T.getD i (0, 0, 0)).1 ∧ (flat3 T).getD (i * 3 + 1) 0 = (T.getD i (0, 0, 0)).2.1 ∧ (flat3 T).getD (i * 3 + 2) 0 = (T.getD i (0, 0, 0)).2.2 := by
  induction T with
  | nil => intro i; simp [flat3]
  | cons x T ih =>
    intro i
    rw [flat3_cons]
    cases i with
    | zero => simp
    | succ i =>
      have := ih i
      rw [show (i + 1) * 3 = i * 3 + 1 + 1 + 1 from by omega, show i * 3 + 1 + 1 + 1 + 1 = (i * 3 + 1) + 1 + 1 + 1 from by omega, show i * 3 + 1 + 1 + 1 + 2 = (i * 3 + 2) + 1 + 1 + 1 from by omega]
      simpa using this
def tri (W I S : List Int) : List Nd := (List.range W.length).map (fun i => (W.getD i 0, I.getD i 0, S.getD i 0))
theorem tri_length (W I S : List Int) : (tri W I S).length = W.length := by simp [tri]
theorem tri_getD (W I S : List Int) (i : Nat) (h : i < W.length) : (tri W I S).getD i (0, 0, 0) = (W.getD i 0, I.getD i 0, S.getD i 0) := by
  simp [tri, List.getD, h]
theorem tri_at (W I S : List Int) (i : Nat) (h : i < W.length) : (flat3 (tri W I S)).getD (i * 3) 0 = W.getD i 0 ∧ (flat3 (tri W I S)).getD (i * 3 + 1) 0 = I.getD i 0 ∧ (flat3 (tri W I S)).getD (i * 3 + 2) 0 = S.getD i 0 := by
  have := flat3_at (tri W I S) i
  rw [tri_getD W I S i h] at this
  exact this
theorem tri_set (W I S : List Int) (hI : I.length = W.length) (i : Nat) (v : Int) (h : i < W.length) : (flat3 (tri W I S)).set (i * 3 + 1) v = flat3 (tri W (I.set i v) S) := by
  refine li_ext (by rw [List.length_set, flat3_length, flat3_length, tri_length, tri_length]) (fun q hq => ?_)
  rw [List.length_set, flat3_length, tri_length] at hq
  rw [sgetD_set _ _ _ _ (by rw [flat3_length, tri_length]; omega)]
  obtain ⟨j, r, hj, hr, hjl⟩ : ∃ j r, q = j * 3 + r ∧ r < 3 ∧ j < W.length := ⟨q / 3, q % 3, by omega, by omega, by omega⟩
  subst hj
  have h1 := tri_at W I S j hjl
  have h2 := tri_at W (I.set i v) S j hjl
  rw [sgetD_set _ _ _ _ (by omega)] at h2
  match r, hr with
  | 0, _ => rw [if_neg (by omega), Nat.add_zero, h1.1, h2.1]
  | 1, _ =>
    rw [h1.2.1, h2.2.1]
    by_cases e : j = i
    · rw [if_pos (by omega), if_pos e]
    · rw [if_neg (by omega), if_neg e]
  | 2, _ => rw [if_neg (by omega), h1.2.2, h2.2.2]
theorem tri_app (W I S : List Int) (hI : I.length = W.length) (hS : S.length = W.length) (x y z : Int) : tri (W ++ [x]) (I ++ [y]) (S ++ [z]) = tri W I S ++ [(x, y, z)] := by
  unfold tri
  rw [List.length_append, List.length_singleton, List.range_succ, List.map_append, List.map_singleton, getD_app_r W x _ rfl, getD_app_r I y _ hI.symm, getD_app_r S z _ hS.symm]
  congr 1
  refine List.map_congr_left (fun i hi => ?_)
  rw [List.mem_range] at hi
  rw [getD_app_l W x i hi, getD_app_l I y i (by omega), getD_app_l S z i (by omega)]
/-- The symbols of the document's row. -/
def symD (cs : List Int) (t : Nat) : List Int := nz cs cs.length ++ List.replicate t (-1)
theorem symD_length (cs : List Int) (t : Nat) : (symD cs t).length = (srt cs).length + t := by rw [symD, List.length_append, List.length_replicate, srt_len]
theorem symD_succ (cs : List Int) (t : Nat) : symD cs (t + 1) = symD cs t ++ [-1] := by rw [symD, symD, List.replicate_succ', List.append_assoc]
theorem symD_leaf (cs : List Int) (t i : Nat) (h : i < (srt cs).length) : (symD cs t).getD i 0 = (nz cs cs.length).getD i 0 := by
  rw [symD]
  simp [List.getD, List.getElem?_append_left (show i < (nz cs cs.length).length by rw [← srt_len]; exact h)]
theorem symD_pair (cs : List Int) (t i : Nat) (h : (srt cs).length ≤ i) (h2 : i < (srt cs).length + t) : (symD cs t).getD i 0 = -1 := by
  rw [symD]
  have hl := srt_len cs
  rw [List.getD, List.getElem?_append_right (by omega)]
  rw [List.getElem?_replicate, if_pos (by omega)]; rfl
/-- The document's leaves up to k. -/
def lvs (cs : List Int) : Nat → List Nd
  | 0 => []
  | k + 1 => if cs.getD k 0 = 0 then lvs cs k else lvs cs k ++ [(cs.getD k 0, -1, (k : Int))]
theorem lvs_len (cs : List Int) : ∀ k, (lvs cs k).length ≤ k
  | 0 => Nat.le_refl _
  | k + 1 => by
    have := lvs_len cs k
    rw [lvs]; split
    · omega
    · rw [List.length_append]; simp; omega
theorem lvs_nz (cs : List Int) (hc : ∀ k, 0 ≤ cs.getD k 0 ∧ cs.getD k 0 ≤ 1073741824) : ∀ k, lvs cs k = (nz cs k).map (fun u => (key cs u, -1, u))
  | 0 => rfl
  | k + 1 => by
    have h := hc k
    rw [lvs, nz, lvs_nz cs hc k]
    by_cases e : cs.getD k 0 = 0
    · rw [if_pos e, if_neg (by omega)]
    · rw [if_neg e, if_pos (by omega), List.map_append]
      simp [key]
theorem lvs_tri (cs : List Int) (hc : ∀ k, 0 ≤ cs.getD k 0 ∧ cs.getD k 0 ≤ 1073741824) : lvs cs cs.length = tri (runD cs 0).W (runD cs 0).I (symD cs 0) := by
  rw [lvs_nz cs hc]
  have eW : (runD cs 0).W = (nz cs cs.length).map (key cs) := rfl
  have eI : (runD cs 0).I = List.replicate (nz cs cs.length).length (-1) := rfl
  have eS : symD cs 0 = nz cs cs.length := by simp [symD]
  rw [eW, eI, eS]
  refine List.ext_getElem (by simp [tri]) (fun i h1 h2 => ?_)
  have hi : i < (nz cs cs.length).length := by simpa using h1
  simp [tri, List.getD, hi]
theorem doc_state (cs : List Int) (hc : ∀ k, 0 ≤ cs.getD k 0 ∧ cs.getD k 0 ≤ 1073741824) (t : Nat) (ht : t + 1 ≤ (srt cs).length) :
    ∃ C, TI (srt cs).length C t (treeT (wsOf cs (srt cs)) t) ∧ PS (srt cs).length t (treeT (wsOf cs (srt cs)) t) ∧ Pi (srt cs).length (treeT (wsOf cs (srt cs)) t).N (plc cs) := by
  have h0 : ∀ i, 0 ≤ (wsOf cs (srt cs)).getD i 0 := fun i => (wsOf_rng cs hc (srt cs) i).1
  have hg : ∀ i, i < (srt cs).length → (wsOf cs (srt cs)).getD i 0 = key cs ((srt cs).getD i 0) := fun i hi => wsOf_getD cs (srt cs) i hi
  have hI := TI.run (wsOf cs (srt cs)) h0 t (by rw [wsOf_len]; omega)
  have hP := PS.run (wsOf cs (srt cs)) h0 (fun i j a b => by
    rw [wsOf_len] at b
    rw [hg i (by omega), hg j b]; exact srt_up cs a b) t (by rw [wsOf_len]; omega)
  rw [wsOf_len] at hI hP
  exact ⟨_, hI, hP, plc_pi cs _ (fun i hi => by rw [wt_tree _ h0 t (by rw [wsOf_len]; omega) i (by rw [wsOf_len]; exact hi), hg i hi])⟩
theorem doc_pick (cs : List Int) (hc : ∀ k, 0 ≤ cs.getD k 0 ∧ cs.getD k 0 ≤ 1073741824) (t : Nat) (ht : t + 2 ≤ (srt cs).length) :
    ∃ x y : Nat, lstD (runD cs t) (-1) = (x : Int) ∧ lstD (runD cs t) (x : Int) = (y : Int) ∧ x < (srt cs).length + t ∧ y < (srt cs).length + t ∧ x ≠ y := by
  obtain ⟨C, hI, hP, hf⟩ := doc_state cs hc t (by omega)
  have hR := RD.run cs hc t (by omega)
  obtain ⟨p1, p2⟩ := RD.pick hI hP hf hR ht
  obtain ⟨_, a1, b1, hne, _⟩ := hI.step ht
  have hl := hI.len
  exact ⟨_, _, p1, p2, hf.lt (by omega), hf.lt (by omega), fun e => hne (hf.inj' e)⟩
theorem doc_last (cs : List Int) (hc : ∀ k, 0 ≤ cs.getD k 0 ∧ cs.getD k 0 ≤ 1073741824) (hm : 2 ≤ (srt cs).length) :
    ∃ x : Nat, lstD (runD cs ((srt cs).length - 1)) (-1) = (x : Int) ∧ lstD (runD cs ((srt cs).length - 1)) (x : Int) = -1 := by
  obtain ⟨C, hI, hP, hf⟩ := doc_state cs hc ((srt cs).length - 1) (by omega)
  have hR := RD.run cs hc ((srt cs).length - 1) (by omega)
  have k1 := hI.ln
  have k2 := hI.np
  have k3 := hI.pl
  have k4 := hI.cnt
  have k5 := hI.last (by omega)
  have hall : ∀ y, y < (srt cs).length + ((srt cs).length - 1) → y ≠ 2 * (srt cs).length - 2 → ¬ (runD cs ((srt cs).length - 1)).I.getD y 0 < 0 := fun y hy hne => by
    obtain ⟨j, e, h1, h2⟩ := hf.sur' y
    have hj : j < 2 * (srt cs).length - 2 := by
      by_cases c : y < (srt cs).length
      · have := h1 c; omega
      · have := h2 (by omega); omega
    have ht : j < (treeT (wsOf cs (srt cs)) ((srt cs).length - 1)).l ∨ ((srt cs).length ≤ j ∧ j < (treeT (wsOf cs (srt cs)) ((srt cs).length - 1)).p) := by omega
    have e1 := hR.taken j ht
    have e2 := hR.par j ht
    rw [e] at e1
    omega
  have hroot := hR.free (2 * (srt cs).length - 2) (by omega)
  rw [hf.high _ (by omega)] at hroot
  refine ⟨2 * (srt cs).length - 2, ?_, ?_⟩
  · unfold lstD
    rw [hR.lw]
    exact (lstK_some (x := 2 * (srt cs).length - 2) (by omega) (by rw [hroot]; omega) _ (fun y hy _ hi hne => absurd hi (hall y hy hne))).2 (by omega)
  · unfold lstD
    rw [hR.lw]
    refine lstK_none _ (fun y hy => ?_)
    by_cases c : y = 2 * (srt cs).length - 2
    · left; rw [c]
    · right; exact hall y hy c
theorem wt_bound (cs : List Int) (hc : ∀ k, 0 ≤ cs.getD k 0 ∧ cs.getD k 0 ≤ 1073741824) (hm : (srt cs).length ≤ 512) : ∀ t, t + 1 ≤ (srt cs).length → ∀ j, j < (srt cs).length + t → wt (treeT (wsOf cs (srt cs)) t).N j ≤ 1073741824 * 1024
  | 0, _, j, hj => by
    rw [show treeT (wsOf cs (srt cs)) 0 = startT (wsOf cs (srt cs)) from rfl, wt_start]
    have := wsOf_rng cs hc (srt cs) j
    omega
  | t + 1, ht, j, hj => by
    have h0 : ∀ i, 0 ≤ (wsOf cs (srt cs)).getD i 0 := fun i => (wsOf_rng cs hc (srt cs) i).1
    have hI := TI.run (wsOf cs (srt cs)) h0 t (by rw [wsOf_len]; omega)
    have hC : freeW (wsOf cs (srt cs)).length (startT (wsOf cs (srt cs))).N 0 (wsOf cs (srt cs)).length ≤ 1073741824 * 1024 := by
      unfold freeW
      have e1 : (startT (wsOf cs (srt cs))).N.length = (wsOf cs (srt cs)).length := by simp [startT]
      rw [e1, Nat.sub_zero, Nat.sub_self, sumW]
      have := sumW_le (startT (wsOf cs (srt cs))).N 1073741824 (wsOf cs (srt cs)).length 0 (fun j _ b => by rw [wt_start]; exact (wsOf_rng cs hc (srt cs) j).2)
      rw [wsOf_len] at this ⊢
      omega
    have hs := hI.step (by rw [wsOf_len]; omega)
    have hsi := step_inn hI (by rw [wsOf_len]; omega)
    have e : treeT (wsOf cs (srt cs)) (t + 1) = stepH (wsOf cs (srt cs)).length (treeT (wsOf cs (srt cs)) t) := rfl
    have hl := hI.len
    rw [wsOf_len] at hl
    rw [e]
    by_cases c : j < (srt cs).length + t
    · rw [hsi.2.2.2.1 j (by omega)]
      exact wt_bound cs hc hm t (by omega) j c
    · have hje : j = (treeT (wsOf cs (srt cs)) t).N.length := by omega
      rw [hje, hsi.2.2.2.2]
      have := hs.2.2.2.2
      omega
theorem doc_bound (cs : List Int) (hc : ∀ k, 0 ≤ cs.getD k 0 ∧ cs.getD k 0 ≤ 1073741824) (t : Nat) (ht : t + 1 ≤ (srt cs).length) (hm : (srt cs).length ≤ 512) (i : Nat) : 0 ≤ (runD cs t).W.getD i 0 ∧ (runD cs t).W.getD i 0 ≤ 1073741824 * 1024 := by
  have hR := RD.run cs hc t ht
  obtain ⟨C0, hI0, _, hf⟩ := doc_state cs hc t ht
  have h0 : ∀ i, 0 ≤ (wsOf cs (srt cs)).getD i 0 := fun i => (wsOf_rng cs hc (srt cs) i).1
  by_cases hi : i < (srt cs).length + t
  · obtain ⟨j, e, h1, h2⟩ := hf.sur' i
    have hj : j < (srt cs).length + t := by
      by_cases c : i < (srt cs).length
      · have := h1 c; omega
      · have := h2 (by omega); omega
    rw [← e, hR.w j hj]
    refine ⟨hI0.pos j, ?_⟩
    exact wt_bound cs hc hm t ht j hj
  · have : (runD cs t).W.getD i 0 = 0 := by simp [List.getD, List.getElem?_eq_none (show (runD cs t).W.length ≤ i by rw [hR.lw]; omega)]
    omega
end Hf
end Go.Proofs.Ytgecoiakhmnilaa
