/-
  Plain facts on the depths of counts: they are a code's, for just the symbols that come.
-/
import Derived.Test.YtgecoiakhmnilaaNearMath
import Derived.Test.YtgecoiakhmnilaaDepths
import Derived.Test.YtgecoiakhmnilaaCounts
import Derived.Test.YtgecoiakhmnilaaSymMath
namespace Go.Proofs.Ytgecoiakhmnilaa
namespace Hf

theorem outL_not (M : Nat) (sy B : List Int) (u : Nat) : ∀ k, (∀ j, j < k → (sy.getD j 0).toNat < M) → (∀ j, j < k → (sy.getD j 0).toNat ≠ u) → (outL M sy B k).getD u 0 = 0
  | 0, _, _ => by
    rw [outL]
    by_cases h : u < M
    · simp [List.getD, h]
    · simp [List.getD, h]
  | k + 1, h, hn => by
    rw [outL, sgetD_set _ _ _ _ (by rw [outL_length]; exact h k (by omega)), if_neg (fun e => hn k (by omega) e.symm)]
    exact outL_not M sy B u k (fun j hj => h j (by omega)) (fun j hj => hn j (by omega))
theorem outL_at (M : Nat) (sy B : List Int) (i : Nat) : ∀ k, (∀ j, j < k → (sy.getD j 0).toNat < M) → (∀ j, j < k → (sy.getD j 0).toNat = (sy.getD i 0).toNat → j = i) → i < k → (outL M sy B k).getD (sy.getD i 0).toNat 0 = B.getD i 0
  | 0, _, _, h => by omega
  | k + 1, h, hn, hi => by
    rw [outL, sgetD_set _ _ _ _ (by rw [outL_length]; exact h k (by omega))]
    by_cases e : k = i
    · subst e; rw [if_pos rfl]
    · rw [if_neg (fun x => e (hn k (by omega) x.symm))]
      exact outL_at M sy B i k (fun j hj => h j (by omega)) (fun j hj => hn j (by omega)) (by omega)
theorem sumR_cons (z : Int) (l : List Int) : sumR (z :: l) = (if 0 < z then 2 ^ (15 - z.toNat) else 0) + sumR l := by simp [sumR]
theorem sumR_set (v : Int) : ∀ (zs : List Int) (i : Nat), i < zs.length → zs.getD i 0 = 0 → sumR (zs.set i v) = sumR zs + (if 0 < v then 2 ^ (15 - v.toNat) else 0)
  | [], i, h, _ => by simp at h
  | z :: l, 0, _, h => by
    have hz : z = 0 := by simpa using h
    subst hz
    rw [List.set_cons_zero, sumR_cons, sumR_cons, if_neg (show ¬ (0 : Int) < 0 by omega)]; omega
  | z :: l, i + 1, h, h0 => by
    rw [List.set_cons_succ, sumR_cons, sumR_cons, sumR_set v l i (by simpa using h) (by simpa using h0)]; omega
theorem sumR_zero (M : Nat) : sumR (List.replicate M 0) = 0 := by simp [sumR]

theorem srt_apart (cs : List Int) {i j : Nat} (hi : i < (srt cs).length) (hj : j < (srt cs).length) (e : ((srt cs).getD i 0).toNat = ((srt cs).getD j 0).toNat) : i = j := by
  have h1 := srt_mem cs _ (getD_mem (srt cs) i hi)
  have h2 := srt_mem cs _ (getD_mem (srt cs) j hj)
  have e2 : (srt cs).getD i 0 = (srt cs).getD j 0 := by omega
  have ho := srt_ord cs
  rw [List.pairwise_iff_getElem] at ho
  have ei : (srt cs).getD i 0 = (srt cs)[i] := by simp [List.getD, List.getElem?_eq_getElem hi]
  have ej : (srt cs).getD j 0 = (srt cs)[j] := by simp [List.getD, List.getElem?_eq_getElem hj]
  by_cases c1 : i < j
  · have := ho i j hi hj c1
    rw [← ei, ← ej, e2] at this
    exact this.irrefl.elim
  · by_cases c2 : j < i
    · have := ho j i hj hi c2
      rw [← ei, ← ej, e2] at this
      exact this.irrefl.elim
    · omega
theorem srt_up (cs : List Int) {i j : Nat} (hij : i ≤ j) (hj : j < (srt cs).length) : key cs ((srt cs).getD i 0) ≤ key cs ((srt cs).getD j 0) := by
  by_cases e : i = j
  · rw [e]; omega
  · have ho := srt_ord cs
    rw [List.pairwise_iff_getElem] at ho
    have hi : i < (srt cs).length := by omega
    have ei : (srt cs).getD i 0 = (srt cs)[i] := by simp [List.getD, List.getElem?_eq_getElem hi]
    have ej : (srt cs).getD j 0 = (srt cs)[j] := by simp [List.getD, List.getElem?_eq_getElem hj]
    have := ho i j hi hj (by omega)
    rw [← ei, ← ej] at this
    unfold Lx at this; omega
theorem nz_all (cs : List Int) (u : Nat) (h : 0 < cs.getD u 0) : ∀ k, u < k → (u : Int) ∈ nz cs k
  | 0, hk => by omega
  | k + 1, hk => by
    rw [nz]
    by_cases e : u = k
    · subst e; rw [if_pos h]; simp
    · have := nz_all cs u h k (by omega)
      split
      · exact List.mem_append.2 (Or.inl this)
      · exact this
theorem srt_all (cs : List Int) (u : Nat) (hu : u < cs.length) (h : 0 < cs.getD u 0) : ∃ j, j < (srt cs).length ∧ ((srt cs).getD j 0).toNat = u := by
  have hm : (u : Int) ∈ srt cs := (srt_perm cs).symm.subset (nz_all cs u h _ hu)
  obtain ⟨j, hj, e⟩ := mem_getD hm
  exact ⟨j, hj, by rw [e]; simp⟩

/-- The tree of counts. -/
def treeN (cs : List Int) : Nodes := (treeT (wsOf cs (srt cs)) ((srt cs).length - 1)).N
theorem wsOf_len (cs : List Int) : (wsOf cs (srt cs)).length = (srt cs).length := by simp [wsOf]
theorem treeN_ups (cs : List Int) (hc : ∀ k, 0 ≤ cs.getD k 0 ∧ cs.getD k 0 ≤ 1073741824) (hm : 2 ≤ (srt cs).length) : Ups (treeN cs) ∧ (treeN cs).length = 2 * (srt cs).length - 1 := by
  have := tree_ups (wsOf cs (srt cs)) (fun i => (wsOf_rng cs hc (srt cs) i).1) (by rw [wsOf_len]; exact hm)
  rw [wsOf_len] at this
  exact this
theorem dep_long (cs : List Int) : (depthsL cs).length = cs.length := by
  unfold depthsL
  split
  · simp
  · rw [outL_length]
theorem dep_many (cs : List Int) (hm : (srt cs).length ≠ 1) : depthsL cs = outL cs.length (srt cs) (belowL (treeN cs) 0) (srt cs).length := by
  unfold depthsL treeN wsOf; rw [if_neg hm]
theorem srt_in (cs : List Int) (j : Nat) (hj : j < (srt cs).length) : ((srt cs).getD j 0).toNat < cs.length := by
  have h := srt_mem cs _ (getD_mem (srt cs) j hj)
  omega
theorem dep_none (cs : List Int) (u : Nat) (h : ∀ j, j < (srt cs).length → ((srt cs).getD j 0).toNat ≠ u) : (depthsL cs).getD u 0 = 0 := by
  by_cases hm : (srt cs).length = 1
  · unfold depthsL
    rw [if_pos hm, sgetD_set _ _ _ _ (by simpa using srt_in cs 0 (by omega)), if_neg (fun e => h 0 (by omega) e.symm)]
    by_cases hu : u < cs.length
    · simp [List.getD, hu]
    · simp [List.getD, hu]
  · rw [dep_many cs hm]
    exact outL_not _ _ _ _ _ (srt_in cs) h
theorem dep_one (cs : List Int) (hm : (srt cs).length = 1) : (depthsL cs).getD ((srt cs).getD 0 0).toNat 0 = 1 := by
  unfold depthsL
  rw [if_pos hm, sgetD_set _ _ _ _ (by simpa using srt_in cs 0 (by omega)), if_pos rfl]
theorem dep_at (cs : List Int) (hc : ∀ k, 0 ≤ cs.getD k 0 ∧ cs.getD k 0 ≤ 1073741824) (hm : 2 ≤ (srt cs).length) (j : Nat) (hj : j < (srt cs).length) : (depthsL cs).getD ((srt cs).getD j 0).toNat 0 = dv (treeN cs) j := by
  obtain ⟨_, hl⟩ := treeN_ups cs hc hm
  rw [dep_many cs (by omega), outL_at _ _ _ _ _ (srt_in cs) (fun i hi e => srt_apart cs hi hj e) hj, belowL_getD _ _ _ (by omega), if_pos (Nat.zero_le _)]
theorem dv_pos (cs : List Int) (hc : ∀ k, 0 ≤ cs.getD k 0 ∧ cs.getD k 0 ≤ 1073741824) (hm : 2 ≤ (srt cs).length) (j : Nat) (hj : j < (srt cs).length) : 1 ≤ dv (treeN cs) j := by
  obtain ⟨hu, hl⟩ := treeN_ups cs hc hm
  rw [dv_step hu j (by omega)]
  have := dv_rng (treeN cs) (inn (treeN cs) j).toNat
  omega
/-- A depth at a place: 0 where the symbol does not come, 1 or more where it does. -/
theorem dep_cases (cs : List Int) (hc : ∀ k, 0 ≤ cs.getD k 0 ∧ cs.getD k 0 ≤ 1073741824) (u : Nat) (hu : u < cs.length) :
    (cs.getD u 0 = 0 ∧ (depthsL cs).getD u 0 = 0) ∨ (0 < cs.getD u 0 ∧ 1 ≤ (depthsL cs).getD u 0) := by
  have h0 := hc u
  by_cases h : 0 < cs.getD u 0
  · right
    refine ⟨h, ?_⟩
    obtain ⟨j, hj, e⟩ := srt_all cs u hu h
    by_cases hm : (srt cs).length = 1
    · obtain rfl : j = 0 := by omega
      rw [← e, dep_one cs hm]; omega
    · rw [← e, dep_at cs hc (by omega) j hj]
      exact dv_pos cs hc (by omega) j hj
  · left
    refine ⟨by omega, dep_none cs u (fun j hj e => ?_)⟩
    have := srt_mem cs _ (getD_mem (srt cs) j hj)
    rw [e] at this
    omega
theorem dep_mem (cs : List Int) (hc : ∀ k, 0 ≤ cs.getD k 0 ∧ cs.getD k 0 ≤ 1073741824) : ∀ z ∈ depthsL cs, 0 ≤ z := by
  intro z hz
  obtain ⟨u, hu, e⟩ := mem_getD hz
  rw [dep_long] at hu
  have := dep_cases cs hc u hu
  omega

theorem kraft_sum (cs : List Int) (hc : ∀ k, 0 ≤ cs.getD k 0 ∧ cs.getD k 0 ≤ 1073741824) (hm : 2 ≤ (srt cs).length) (hd : ∀ j, j < (srt cs).length → dv (treeN cs) j ≤ 15) :
    ∀ k, k ≤ (srt cs).length → (2 : Int) ^ (2 * (srt cs).length) * ((sumR (outL cs.length (srt cs) (belowL (treeN cs) 0) k) : Nat) : Int) = sumG (shr (15 + 2 * (srt cs).length) (treeN cs)) 0 k
  | 0, _ => by rw [outL, sumR_zero, sumG]; simp
  | k + 1, hk => by
    obtain ⟨_, hl⟩ := treeN_ups cs hc hm
    have ih := kraft_sum cs hc hm hd k (by omega)
    have hz := outL_not cs.length (srt cs) (belowL (treeN cs) 0) ((srt cs).getD k 0).toNat k (fun j hj => srt_in cs j (by omega)) (fun j hj e => by have := srt_apart cs (show j < _ by omega) (show k < _ by omega) e; omega)
    rw [sumG_snoc, ← ih, outL, sumR_set _ _ _ (by rw [outL_length]; exact srt_in cs k (by omega)) hz, belowL_getD _ _ _ (by omega), if_pos (Nat.zero_le _)]
    have h1 := dv_pos cs hc hm k (by omega)
    have h2 := hd k (by omega)
    rw [if_pos (by omega), Nat.zero_add]
    unfold shr
    rw [show 15 + 2 * (srt cs).length - (dv (treeN cs) k).toNat = 2 * (srt cs).length + (15 - (dv (treeN cs) k).toNat) from by omega, Int.pow_add, Int.natCast_add, Int.mul_add]
    congr 2
theorem kraft_all (cs : List Int) (hc : ∀ k, 0 ≤ cs.getD k 0 ∧ cs.getD k 0 ≤ 1073741824) (hm : 2 ≤ (srt cs).length) (hd : ∀ j, j < (srt cs).length → dv (treeN cs) j ≤ 15) : sumR (depthsL cs) = 32768 := by
  have h1 := kraft_sum cs hc hm hd _ (Nat.le_refl _)
  have h2 := kraft (wsOf cs (srt cs)) (fun i => (wsOf_rng cs hc (srt cs) i).1) (by rw [wsOf_len]; exact hm) (15 + 2 * (srt cs).length) (by rw [wsOf_len]; omega)
  rw [wsOf_len] at h2
  rw [show (treeT (wsOf cs (srt cs)) ((srt cs).length - 1)).N = treeN cs from rfl, ← h1, Int.pow_add, Int.mul_comm ((2 : Int) ^ 15)] at h2
  rw [dep_many cs (by omega)]
  have h3 := Int.eq_of_mul_eq_mul_left (show (2 : Int) ^ (2 * (srt cs).length) ≠ 0 from Int.ne_of_gt (Int.pow_pos (by omega))) h2
  have h4 : (2 : Int) ^ 15 = 32768 := by decide
  omega

/-- Depths that are not too deep are a code's lengths. -/
theorem dep_code (cs : List Int) (hn : cs.length ≤ 512) (hc : ∀ k, 0 ≤ cs.getD k 0 ∧ cs.getD k 0 ≤ 1073741824) (hd : (depthsL cs).any deepC = false) : checkB (depthsL cs) = true := by
  have hr : ∀ z ∈ depthsL cs, 0 ≤ z ∧ z ≤ 15 := fun z hz => by
    have h1 := dep_mem cs hc z hz
    rw [List.any_eq_false] at hd
    have h2 := hd z hz
    unfold deepC at h2
    rw [decide_eq_true_eq] at h2
    omega
  unfold checkB lenOk okT
  rw [Bool.and_eq_true, Bool.and_eq_true, decide_eq_true_eq, dep_long, List.all_eq_true]
  refine ⟨⟨hn, fun z hz => by have := hr z hz; simp; omega⟩, ?_⟩
  rw [wsum_sumR _ hr, tal_zero_iff _ hr, one_split _ hr]
  by_cases h0 : (srt cs).length = 0
  · have e : someR (depthsL cs) = 0 := by
      unfold someR
      rw [List.countP_eq_zero]
      intro z hz
      obtain ⟨u, hu, e⟩ := mem_getD hz
      rw [← e, dep_none cs u (fun j hj => by omega)]
      decide
    rw [e]; simp
  · by_cases h1 : (srt cs).length = 1
    · have hin := srt_in cs 0 (by omega)
      have e : depthsL cs = (List.replicate cs.length 0).set ((srt cs).getD 0 0).toNat 1 := by unfold depthsL; rw [if_pos h1]
      have e1 : someR (depthsL cs) = 1 := by
        rw [e]; unfold someR
        rw [List.countP_set (by simpa using hin)]
        simp
      have e2 : oneR (depthsL cs) = 1 := by
        rw [e]; unfold oneR
        rw [List.countP_set (by simpa using hin)]
        simp
      rw [e1, e2]; simp
    · have hd2 : ∀ j, j < (srt cs).length → dv (treeN cs) j ≤ 15 := fun j hj => by
        rw [← dep_at cs hc (by omega) j hj]
        exact (hr _ (getD_in _ (by rw [dep_long]; exact srt_in cs j hj))).2
      rw [kraft_all cs hc (by omega) hd2]; simp

/-- Counts of at most 2 are not too deep. -/
theorem dep_flat (cs : List Int) (hn : cs.length ≤ 60) (hc : ∀ k, 0 ≤ cs.getD k 0 ∧ cs.getD k 0 ≤ 2) : (depthsL cs).any deepC = false := by
  have hc' : ∀ k, 0 ≤ cs.getD k 0 ∧ cs.getD k 0 ≤ 1073741824 := fun k => by have := hc k; omega
  rw [List.any_eq_false]
  intro z hz
  unfold deepC
  rw [decide_eq_true_eq]
  obtain ⟨u, hu, e⟩ := mem_getD hz
  rw [dep_long] at hu
  have hl : (srt cs).length ≤ 60 := by have h1 := srt_len cs; have h2 := nz_len cs cs.length; omega
  by_cases h : 0 < cs.getD u 0
  · obtain ⟨j, hj, e2⟩ := srt_all cs u hu h
    by_cases hm : (srt cs).length = 1
    · obtain rfl : j = 0 := by omega
      rw [← e2, dep_one cs hm] at e; omega
    · rw [← e2, dep_at cs hc' (by omega) j hj] at e
      have hg : ∀ i, i < (srt cs).length → (wsOf cs (srt cs)).getD i 0 = key cs ((srt cs).getD i 0) := fun i hi => wsOf_getD cs (srt cs) i hi
      have := near_flat (wsOf cs (srt cs)) (fun a b h1 h2 => by
          rw [wsOf_len] at h2
          rw [hg a (by omega), hg b h2]; exact srt_up cs h1 h2) (fun i hi => by
          rw [wsOf_len] at hi
          rw [hg i hi]
          have h1 := srt_mem cs _ (getD_mem (srt cs) i hi)
          have h2 := hc ((srt cs).getD i 0).toNat
          unfold key; omega) (by rw [wsOf_len]; omega) (by rw [wsOf_len]; exact hl) j (by rw [wsOf_len]; omega)
      rw [wsOf_len] at this
      rw [show (treeT (wsOf cs (srt cs)) ((srt cs).length - 1)).N = treeN cs from rfl] at this
      omega
  · have := dep_cases cs hc' u hu
    omega
end Hf
end Go.Proofs.Ytgecoiakhmnilaa
