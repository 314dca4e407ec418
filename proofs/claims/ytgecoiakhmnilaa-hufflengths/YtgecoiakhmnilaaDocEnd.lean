/-
  Plain facts: the document's depths, by its own words, are the code's.
-/
import Derived.Test.YtgecoiakhmnilaaDocRun
namespace Go.Proofs.Ytgecoiakhmnilaa
namespace Hf

/-- How many nodes stand above, from a node on. -/
def chn (I : List Int) : Nat → Int → Int
  | 0, _ => 0
  | f + 1, k => if 0 ≤ k then chn I f (I.getD k.toNat 0) + 1 else 0
/-- The document's row where it stands in the end. -/
def endD (cs : List Int) : DS := runD cs ((srt cs).length - 1)
def docB (cs : List Int) : List Int := (List.range (srt cs).length).map (fun i => max (chn (endD cs).I (2 * (srt cs).length) ((endD cs).I.getD i 0)) 1)
/-- The document's depths. -/
def docD (cs : List Int) : List Int := outL cs.length (nz cs cs.length) (docB cs) (srt cs).length

theorem end_rd (cs : List Int) (hc : ∀ k, 0 ≤ cs.getD k 0 ∧ cs.getD k 0 ≤ 1073741824) (hm : 1 ≤ (srt cs).length) : RD (srt cs).length (plc cs) ((srt cs).length - 1) (treeT (wsOf cs (srt cs)) ((srt cs).length - 1)) (endD cs) := RD.run cs hc _ (by omega)
theorem chn_dv (cs : List Int) (hc : ∀ k, 0 ≤ cs.getD k 0 ∧ cs.getD k 0 ≤ 1073741824) (hm : 2 ≤ (srt cs).length) : ∀ (f j : Nat), j < 2 * (srt cs).length - 1 → 2 * (srt cs).length - 1 ≤ f + j → chn (endD cs).I f ((endD cs).I.getD (plc cs j) 0) = dv (treeN cs) j := by
  obtain ⟨hu, hl⟩ := treeN_ups cs hc hm
  have hR := end_rd cs hc (by omega)
  have hI := TI.run (wsOf cs (srt cs)) (fun i => (wsOf_rng cs hc (srt cs) i).1) ((srt cs).length - 1) (by rw [wsOf_len]; omega)
  rw [wsOf_len] at hI
  have k1 := hI.ln
  have k2 := hI.np
  have k3 := hI.pl
  have k4 := hI.cnt
  have k5 := hI.last (by omega)
  intro f
  induction f with
  | zero => intro j h1 h2; omega
  | succ f ih =>
    intro j h1 h2
    by_cases c : j + 1 < 2 * (srt cs).length - 1
    · have ht : j < (treeT (wsOf cs (srt cs)) ((srt cs).length - 1)).l ∨ ((srt cs).length ≤ j ∧ j < (treeT (wsOf cs (srt cs)) ((srt cs).length - 1)).p) := by omega
      have e1 := hR.taken j ht
      have e2 := hR.par j ht
      have e3 := hu j (by omega)
      have e4 : inn (treeT (wsOf cs (srt cs)) ((srt cs).length - 1)).N j = inn (treeN cs) j := rfl
      rw [e4] at e1 e2
      rw [e1, chn, if_pos (by omega), dv_step hu j (by omega)]
      have e5 : plc cs (inn (treeN cs) j).toNat = (inn (treeN cs) j).toNat := by unfold plc; rw [dif_neg (by omega)]
      have := ih (inn (treeN cs) j).toNat (by omega) (by omega)
      rw [e5] at this
      rw [this]
    · have e1 := hR.free j (by omega)
      rw [e1, chn, if_neg (by omega), dv_last _ _ (by omega)]
theorem nz_in (cs : List Int) (j : Nat) (hj : j < (srt cs).length) : ((nz cs cs.length).getD j 0).toNat < cs.length := by
  have h := nz_mem cs cs.length _ (getD_in (l := nz cs cs.length) j (by rw [← srt_len]; exact hj))
  omega
theorem doc_eq (cs : List Int) (hc : ∀ k, 0 ≤ cs.getD k 0 ∧ cs.getD k 0 ≤ 1073741824) : docD cs = depthsL cs := by
  have hsl := srt_len cs
  refine li_ext (by unfold docD; rw [outL_length, dep_long]) (fun u hu => ?_)
  have hul : u < cs.length := by unfold docD at hu; rwa [outL_length] at hu
  by_cases h : 0 < cs.getD u 0
  · obtain ⟨j, hj, e⟩ := srt_all cs u hul h
    have hp := plc_spec cs j hj
    have e2 : ((nz cs cs.length).getD (plc cs j) 0).toNat = u := by rw [hp.2]; exact e
    have hB : (docB cs).getD (plc cs j) 0 = max (chn (endD cs).I (2 * (srt cs).length) ((endD cs).I.getD (plc cs j) 0)) 1 := by
      unfold docB; simp [List.getD, hp.1]
    have hat := outL_at cs.length (nz cs cs.length) (docB cs) (plc cs j) (srt cs).length (nz_in cs) (fun i hi e3 => by
      have h1 := nz_mem cs cs.length _ (getD_in (l := nz cs cs.length) i (by omega))
      have h2 := nz_mem cs cs.length _ (getD_in (l := nz cs cs.length) (plc cs j) (by omega))
      exact nz_apart cs cs.length (by omega) (by omega) (by omega)) hp.1
    rw [e2, hB] at hat
    unfold docD
    rw [hat]
    by_cases hm : (srt cs).length = 1
    · have hj0 : j = 0 := by omega
      subst hj0
      have hR := end_rd cs hc (by omega)
      have e1 : (treeT (wsOf cs (srt cs)) ((srt cs).length - 1)).l = 0 := by rw [hm]; rfl
      have e3 := hR.free 0 (by rw [e1]; omega)
      have e4 : chn (endD cs).I (2 * 1) (-1) = 0 := by rw [show 2 * 1 = 1 + 1 from rfl, chn, if_neg (by omega)]
      rw [e3, hm, ← e, dep_one cs hm, e4]
      rfl
    · rw [chn_dv cs hc (by omega) _ j (by omega) (by omega), ← e, dep_at cs hc (by omega) j hj]
      have := dv_pos cs hc (by omega) j hj
      omega
  · have h1 := dep_cases cs hc u hul
    unfold docD
    rw [outL_not cs.length (nz cs cs.length) (docB cs) u (srt cs).length (nz_in cs) (fun j hj e => by
      have h2 := nz_mem cs cs.length _ (getD_in (l := nz cs cs.length) j (by omega))
      rw [e] at h2
      omega)]
    omega
end Hf
end Go.Proofs.Ytgecoiakhmnilaa
