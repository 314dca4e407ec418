/-
  Plain facts on the document's row in the end.
-/
import Derived.Test.YtgecoiakhmnilaaTriMath
namespace Go.Proofs.Ytgecoiakhmnilaa
namespace Hf

theorem doc_up (cs : List Int) (hc : ∀ k, 0 ≤ cs.getD k 0 ∧ cs.getD k 0 ≤ 1073741824) (q : Nat) (hq : q < (srt cs).length + ((srt cs).length - 1)) :
    (endD cs).I.getD q 0 = -1 ∨ ((q : Int) < (endD cs).I.getD q 0 ∧ (endD cs).I.getD q 0 < (((srt cs).length + ((srt cs).length - 1) : Nat) : Int)) := by
  have hR := end_rd cs hc (by omega)
  obtain ⟨C, hI, _, hf⟩ := doc_state cs hc ((srt cs).length - 1) (by omega)
  obtain ⟨j, e, h1, h2⟩ := hf.sur' q
  have hj : j < (srt cs).length + ((srt cs).length - 1) := by
    by_cases c : q < (srt cs).length
    · have := h1 c; omega
    · have := h2 (by omega); omega
  by_cases c : j < (treeT (wsOf cs (srt cs)) ((srt cs).length - 1)).l ∨ ((srt cs).length ≤ j ∧ j < (treeT (wsOf cs (srt cs)) ((srt cs).length - 1)).p)
  · have e1 := hR.taken j c
    have e2 := hR.par j c
    have e3 := hI.par j c
    rw [e] at e1
    right
    by_cases c2 : q < (srt cs).length
    · omega
    · have := h2 (by omega); omega
  · have e1 := hR.free j (by omega)
    rw [e] at e1
    exact Or.inl e1
theorem chn_neg (I : List Int) (f : Nat) (q : Int) (h : q < 0) : chn I f q = 0 := by
  cases f with
  | zero => rfl
  | succ f => rw [chn, if_neg (by omega)]
theorem docB_getD (cs : List Int) (p : Nat) (hp : p < (srt cs).length) : (docB cs).getD p 0 = max (chn (endD cs).I (2 * (srt cs).length) ((endD cs).I.getD p 0)) 1 := by
  unfold docB; simp [List.getD, hp]
theorem end_len (cs : List Int) (hc : ∀ k, 0 ≤ cs.getD k 0 ∧ cs.getD k 0 ≤ 1073741824) : (endD cs).W.length = (srt cs).length + ((srt cs).length - 1) ∧ (endD cs).I.length = (srt cs).length + ((srt cs).length - 1) := by
  by_cases h : 1 ≤ (srt cs).length
  · exact ⟨(end_rd cs hc h).lw, (end_rd cs hc h).li⟩
  · have h0 : (srt cs).length = 0 := by omega
    have hl := srt_len cs
    have eW : (runD cs 0).W = (nz cs cs.length).map (key cs) := rfl
    have eI : (runD cs 0).I = List.replicate (nz cs cs.length).length (-1) := rfl
    unfold endD
    rw [h0]
    exact ⟨by rw [show (0 : Nat) - 1 = 0 from rfl, eW, List.length_map]; omega, by rw [show (0 : Nat) - 1 = 0 from rfl, eI, List.length_replicate]; omega⟩
end Hf
end Go.Proofs.Ytgecoiakhmnilaa
