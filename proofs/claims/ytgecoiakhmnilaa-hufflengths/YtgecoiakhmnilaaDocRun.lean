/-
  Plain facts: the document's depths are the code's.
-/
import Derived.Test.YtgecoiakhmnilaaDocMath
namespace Go.Proofs.Ytgecoiakhmnilaa
namespace Hf

/-- Code and document side by side. -/
structure RD (n : Nat) (f : Nat → Nat) (t : Nat) (s : TS) (d : DS) : Prop where
  lw : d.W.length = n + t
  li : d.I.length = n + t
  w : ∀ i, i < n + t → d.W.getD (f i) 0 = wt s.N i
  free : ∀ i, ((s.l ≤ i ∧ i < n) ∨ (s.p ≤ i ∧ i < n + t)) → d.I.getD (f i) 0 = -1
  taken : ∀ i, (i < s.l ∨ (n ≤ i ∧ i < s.p)) → d.I.getD (f i) 0 = inn s.N i
  par : ∀ i, (i < s.l ∨ (n ≤ i ∧ i < s.p)) → (n : Int) ≤ inn s.N i
theorem Pi.lt {m : Nat} {N : Nodes} {f : Nat → Nat} (h : Pi m N f) {i t : Nat} (hi : i < m + t) : f i < m + t := by
  by_cases c : i < m
  · have := h.low i c; omega
  · rw [h.high i (by omega)]; exact hi
theorem Pi.of {m : Nat} {N M : Nodes} {f : Nat → Nat} (h : Pi m N f) (e : ∀ i, i < m → wt M i = wt N i) : Pi m M f :=
  ⟨h.low, h.high, h.inj, h.sur, fun i j a b => by rw [e i (by omega), e j b]; exact h.ord i j a b⟩

theorem RD.pick {n : Nat} {C : Int} {f : Nat → Nat} {t : Nat} {s : TS} {d : DS} (h : TI n C t s) (hP : PS n t s) (hf : Pi n s.N f) (hR : RD n f t s d) (ht : t + 2 ≤ n) :
    lstD d (-1) = (f (oneA n s) : Int) ∧ lstD d (f (oneA n s) : Int) = (f (oneB n s) : Int) := by
  have hlen := h.len
  have hln := h.ln
  have hnp := h.np
  have hpl := h.pl
  have hcnt := h.cnt
  have hpar := h.par
  obtain ⟨a1, a2, a3, a4, a5, _, a7⟩ := take_one (n := n) (N := s.N) (l := s.l) (p := s.p) h.ln h.np (by omega) (by omega)
  obtain ⟨b1, b2, b3, b4, b5, _, b7⟩ := take_one (n := n) (N := s.N) (l := takeL n s.N s.l s.p) (p := takeP n s.N s.l s.p) a2 a3 a4 (by omega)
  have m1 := take_lex hf (by rw [hlen]; exact hP.pair) h.ln h.np (by omega) (l := s.l) (p := s.p) (by omega)
  have m2 := take_lex hf (by rw [hlen]; exact hP.pair) a2 a3 a4 (l := takeL n s.N s.l s.p) (p := takeP n s.N s.l s.p) (by omega)
  have hA : oneA n s = takeA n s.N s.l s.p := rfl
  have hB : oneB n s = takeA n s.N (takeL n s.N s.l s.p) (takeP n s.N s.l s.p) := rfl
  rw [← hA] at a1 a7 m1
  rw [← hB] at b1 b7 m2
  rw [hlen] at a1 a4 a7 b1 b4 b7 m1 m2
  clear hA hB
  generalize oneA n s = A at *
  generalize oneB n s = B at *
  generalize takeL n s.N (takeL n s.N s.l s.p) (takeP n s.N s.l s.p) = l2 at *
  generalize takeP n s.N (takeL n s.N s.l s.p) (takeP n s.N s.l s.p) = p2 at *
  generalize takeL n s.N s.l s.p = l1 at *
  generalize takeP n s.N s.l s.p = p1 at *
  have fA : (s.l ≤ A ∧ A < n) ∨ (s.p ≤ A ∧ A < n + t) := by omega
  have fB : (s.l ≤ B ∧ B < n) ∨ (s.p ≤ B ∧ B < n + t) := by omega
  have lA := hf.lt a1
  have lB := hf.lt b1
  have hcand : ∀ y, y < n + t → d.I.getD y 0 < 0 → ∃ j, f j = y ∧ j < n + t ∧ ((s.l ≤ j ∧ j < n) ∨ (s.p ≤ j ∧ j < n + t)) := by
    intro y hy hi
    obtain ⟨j, e, h1, h2⟩ := hf.sur' y
    have hj : j < n + t := by
      by_cases c : y < n
      · have := h1 c; omega
      · have := h2 (by omega); omega
    refine ⟨j, e, hj, ?_⟩
    by_cases c : j < s.l ∨ (n ≤ j ∧ j < s.p)
    · have h3 := hR.taken j c
      have h4 := hpar j c
      rw [e] at h3
      omega
    · omega
  unfold lstD
  rw [hR.lw]
  refine ⟨(lstK_some (x := f A) (by omega) (by rw [hR.free A fA]; omega) (n + t) (fun y hy _ hi hne => ?_)).2 lA, (lstK_some (x := f B) (fun e => ?_) (by rw [hR.free B fB]; omega) (n + t) (fun y hy hno hi hne => ?_)).2 lB⟩
  · obtain ⟨j, rfl, hj, hfj⟩ := hcand y hy hi
    rw [hR.w A a1, hR.w j hj]
    exact m1 j hfj (fun e => hne (by rw [e]))
  · have := hf.inj' (show f B = f A by omega); omega
  · obtain ⟨j, rfl, hj, hfj⟩ := hcand y hy hi
    have hjA : j ≠ A := fun e => hno (by rw [e])
    rw [hR.w B b1, hR.w j hj]
    exact m2 j (by omega) (fun e => hne (by rw [e]))

theorem getD_app_l (l : List Int) (x : Int) (i : Nat) (h : i < l.length) : (l ++ [x]).getD i 0 = l.getD i 0 := by
  simp [List.getD, List.getElem?_append_left h]
theorem getD_app_r (l : List Int) (x : Int) (i : Nat) (h : i = l.length) : (l ++ [x]).getD i 0 = x := by
  subst h; simp [List.getD]
theorem RD.step {n : Nat} {C : Int} {f : Nat → Nat} {t : Nat} {s : TS} {d : DS} (h : TI n C t s) (hP : PS n t s) (hf : Pi n s.N f) (hR : RD n f t s d) (ht : t + 2 ≤ n) : RD n f (t + 1) (stepH n s) (stepD d) := by
  obtain ⟨p1, p2⟩ := RD.pick h hP hf hR ht
  have hlen := h.len
  have hln := h.ln
  have hnp := h.np
  have hpl := h.pl
  have hcnt := h.cnt
  obtain ⟨s1, s2, s3, s4, s5⟩ := step_inn h ht
  obtain ⟨a1, a2, a3, a4, a5, _, a7⟩ := take_one (n := n) (N := s.N) (l := s.l) (p := s.p) h.ln h.np (by omega) (by omega)
  obtain ⟨b1, b2, b3, b4, b5, _, b7⟩ := take_one (n := n) (N := s.N) (l := takeL n s.N s.l s.p) (p := takeP n s.N s.l s.p) a2 a3 a4 (by omega)
  have hA : oneA n s = takeA n s.N s.l s.p := rfl
  have hB : oneB n s = takeA n s.N (takeL n s.N s.l s.p) (takeP n s.N s.l s.p) := rfl
  rw [← hA] at a1 a7
  rw [← hB] at b1 b7
  have hl2 : (stepH n s).l = takeL n s.N (takeL n s.N s.l s.p) (takeP n s.N s.l s.p) := rfl
  have hp2 : (stepH n s).p = takeP n s.N (takeL n s.N s.l s.p) (takeP n s.N s.l s.p) := rfl
  rw [← hl2, ← hp2] at b5 b7
  rw [← hl2] at b2
  rw [← hp2] at b3 b4
  rw [hlen] at a1 a4 a7 b1 b4 b7 s2 s3 s4 s5
  have hW : (stepD d).W = d.W ++ [d.W.getD (f (oneA n s)) 0 + d.W.getD (f (oneB n s)) 0] := by
    unfold stepD; rw [p1, p2, Int.toNat_natCast, Int.toNat_natCast]
  have hI : (stepD d).I = ((d.I.set (f (oneA n s)) ((n + t : Nat) : Int)).set (f (oneB n s)) ((n + t : Nat) : Int)) ++ [-1] := by
    unfold stepD; rw [p1, p2, Int.toNat_natCast, Int.toNat_natCast, hR.lw]
  clear hA hB hl2 hp2 p1 p2
  generalize oneA n s = A at *
  generalize oneB n s = B at *
  generalize takeL n s.N s.l s.p = l1 at *
  generalize takeP n s.N s.l s.p = p1 at *
  have lA := hf.lt a1
  have lB := hf.lt b1
  have hlw := hR.lw
  have hli := hR.li
  have hfn : f (n + t) = n + t := hf.high _ (by omega)
  have hIx : ∀ i, i < n + t → (stepD d).I.getD (f i) 0 = if i = B then ((n + t : Nat) : Int) else if i = A then ((n + t : Nat) : Int) else d.I.getD (f i) 0 := fun i hi => by
    have li := hf.lt hi
    rw [hI, getD_app_l _ _ _ (by rw [List.length_set, List.length_set]; omega), sgetD_set _ _ _ _ (by rw [List.length_set]; omega), sgetD_set _ _ _ _ (by omega)]
    by_cases c1 : i = B
    · subst c1; rw [if_pos rfl, if_pos rfl]
    · rw [if_neg (fun e => c1 (hf.inj' e)), if_neg c1]
      by_cases c2 : i = A
      · subst c2; rw [if_pos rfl, if_pos rfl]
      · rw [if_neg (fun e => c2 (hf.inj' e)), if_neg c2]
  refine ⟨by rw [hW, List.length_append, hlw]; simp; omega, by rw [hI, List.length_append, List.length_set, List.length_set, hli]; simp; omega, fun i hi => ?_, fun i hi => ?_, fun i hi => ?_, fun i hi => ?_⟩
  · by_cases c : i < n + t
    · rw [hW, getD_app_l _ _ _ (by rw [hlw]; exact hf.lt c), s4 i c]; exact hR.w i c
    · obtain rfl : i = n + t := by omega
      rw [hfn, hW, getD_app_r _ _ _ (by rw [hlw]), s5, hR.w A a1, hR.w B b1]
  · by_cases c : i < n + t
    · rw [hIx i c, if_neg (by omega), if_neg (by omega)]; exact hR.free i (by omega)
    · obtain rfl : i = n + t := by omega
      rw [hfn, hI, getD_app_r _ _ _ (by rw [List.length_set, List.length_set, hli])]
  · rw [hIx i (by omega)]
    by_cases c1 : i = B
    · subst c1; rw [if_pos rfl, s3]
    · rw [if_neg c1]
      by_cases c2 : i = A
      · subst c2; rw [if_pos rfl, s2]
      · rw [if_neg c2, s1 i (by omega)]; exact hR.taken i (by omega)
  · by_cases c1 : i = B
    · subst c1; rw [s3]; omega
    · by_cases c2 : i = A
      · subst c2; rw [s2]; omega
      · rw [s1 i (by omega)]; exact hR.par i (by omega)

/-- The places of the code's leaves in the document's row. -/
theorem place (cs : List Int) (j : Nat) (hj : j < (srt cs).length) : ∃ i, i < (srt cs).length ∧ (nz cs cs.length).getD i 0 = (srt cs).getD j 0 := by
  obtain ⟨i, hi, e⟩ := mem_getD ((srt_perm cs).subset (getD_mem (srt cs) j hj))
  exact ⟨i, by rw [srt_len]; exact hi, e⟩
noncomputable def plc (cs : List Int) (j : Nat) : Nat := if h : j < (srt cs).length then Classical.choose (place cs j h) else j
theorem plc_spec (cs : List Int) (j : Nat) (hj : j < (srt cs).length) : plc cs j < (srt cs).length ∧ (nz cs cs.length).getD (plc cs j) 0 = (srt cs).getD j 0 := by
  unfold plc
  rw [dif_pos hj]
  exact Classical.choose_spec (place cs j hj)
theorem nz_apart (cs : List Int) (k : Nat) {i j : Nat} (hi : i < (nz cs k).length) (hj : j < (nz cs k).length) (e : (nz cs k).getD i 0 = (nz cs k).getD j 0) : i = j := by
  have h1 := getD_inc (nz_inc cs k)
  by_cases c1 : i < j
  · have := h1 i j c1 hj; omega
  · by_cases c2 : j < i
    · have := h1 j i c2 hi; omega
    · omega
theorem nz_less (cs : List Int) (k : Nat) {i j : Nat} (hi : i < (nz cs k).length) (hj : j < (nz cs k).length) (e : (nz cs k).getD i 0 < (nz cs k).getD j 0) : i < j := by
  have h1 := getD_inc (nz_inc cs k)
  by_cases c : j < i
  · have := h1 j i c hi; omega
  · by_cases c2 : i = j
    · subst c2; omega
    · omega
theorem plc_pi (cs : List Int) (N : Nodes) (hw : ∀ i, i < (srt cs).length → wt N i = key cs ((srt cs).getD i 0)) : Pi (srt cs).length N (plc cs) := by
  refine ⟨fun j hj => (plc_spec cs j hj).1, fun j hj => by unfold plc; rw [dif_neg (by omega)], fun i j hi hj e => ?_, fun i hi => ?_, fun i j hij hj => ?_⟩
  · have h1 := (plc_spec cs i hi).2
    have h2 := (plc_spec cs j hj).2
    rw [e, h2] at h1
    exact srt_apart cs hi hj (by rw [h1])
  · have hm : (nz cs cs.length).getD i 0 ∈ srt cs := (srt_perm cs).symm.subset (getD_in i (by rw [← srt_len]; exact hi))
    obtain ⟨j, hj, e⟩ := mem_getD hm
    have h2 := plc_spec cs j hj
    exact ⟨j, hj, nz_apart cs cs.length (by rw [← srt_len]; exact h2.1) (by rw [← srt_len]; exact hi) (by rw [h2.2, e])⟩
  · have hi : i < (srt cs).length := by omega
    have h1 := plc_spec cs i hi
    have h2 := plc_spec cs j hj
    rw [hw i hi, hw j hj]
    have ho := srt_ord cs
    rw [List.pairwise_iff_getElem] at ho
    have ei : (srt cs).getD i 0 = (srt cs)[i] := by simp [List.getD, List.getElem?_eq_getElem hi]
    have ej : (srt cs).getD j 0 = (srt cs)[j] := by simp [List.getD, List.getElem?_eq_getElem hj]
    have hx := ho i j hi hj hij
    rw [← ei, ← ej] at hx
    rcases hx with hx | hx
    · exact Or.inl hx
    · exact Or.inr ⟨hx.1, nz_less cs cs.length (by rw [← srt_len]; exact h1.1) (by rw [← srt_len]; exact h2.1) (by rw [h1.2, h2.2]; exact hx.2)⟩

theorem RD.run (cs : List Int) (hc : ∀ k, 0 ≤ cs.getD k 0 ∧ cs.getD k 0 ≤ 1073741824) : ∀ t, t + 1 ≤ (srt cs).length → RD (srt cs).length (plc cs) t (treeT (wsOf cs (srt cs)) t) (runD cs t) := by
  have h0 : ∀ i, 0 ≤ (wsOf cs (srt cs)).getD i 0 := fun i => (wsOf_rng cs hc (srt cs) i).1
  have hg : ∀ i, i < (srt cs).length → (wsOf cs (srt cs)).getD i 0 = key cs ((srt cs).getD i 0) := fun i hi => wsOf_getD cs (srt cs) i hi
  have hs : ∀ i j, i ≤ j → j < (wsOf cs (srt cs)).length → (wsOf cs (srt cs)).getD i 0 ≤ (wsOf cs (srt cs)).getD j 0 := fun i j a b => by
    rw [wsOf_len] at b
    rw [hg i (by omega), hg j b]; exact srt_up cs a b
  intro t
  induction t with
  | zero =>
    intro ht
    have e1 : (treeT (wsOf cs (srt cs)) 0).l = 0 := rfl
    have e2 : (treeT (wsOf cs (srt cs)) 0).p = (srt cs).length := wsOf_len cs
    have eW : (runD cs 0).W = (nz cs cs.length).map (key cs) := rfl
    have eI : (runD cs 0).I = List.replicate (nz cs cs.length).length (-1) := rfl
    have hsl := srt_len cs
    refine ⟨by rw [eW, List.length_map]; omega, by rw [eI, List.length_replicate]; omega, fun i hi => ?_, fun i hi => ?_, fun i hi => by omega, fun i hi => by omega⟩
    · have h1 := plc_spec cs i (by omega)
      have h2 : wt (treeT (wsOf cs (srt cs)) 0).N i = (wsOf cs (srt cs)).getD i 0 := wt_start _ i
      rw [h2, hg i (by omega), ← h1.2, eW]
      have hl : plc cs i < (nz cs cs.length).length := by omega
      simp [List.getD, List.getElem?_eq_getElem hl]
    · have h1 := plc_spec cs i (by omega)
      rw [eI]
      have hl : plc cs i < (nz cs cs.length).length := by omega
      simp [List.getD, hl]
  | succ t ih =>
    intro ht
    have hI := TI.run (wsOf cs (srt cs)) h0 t (by rw [wsOf_len]; omega)
    have hP := PS.run (wsOf cs (srt cs)) h0 hs t (by rw [wsOf_len]; omega)
    rw [wsOf_len] at hI hP
    have hf := plc_pi cs (treeT (wsOf cs (srt cs)) t).N (fun i hi => by rw [wt_tree _ h0 t (by rw [wsOf_len]; omega) i (by rw [wsOf_len]; exact hi), hg i hi])
    have e : treeT (wsOf cs (srt cs)) (t + 1) = stepH (srt cs).length (treeT (wsOf cs (srt cs)) t) := by
      rw [← wsOf_len cs]; rfl
    rw [e]
    exact RD.step hI hP hf (ih (by omega)) ht
end Hf
end Go.Proofs.Ytgecoiakhmnilaa
