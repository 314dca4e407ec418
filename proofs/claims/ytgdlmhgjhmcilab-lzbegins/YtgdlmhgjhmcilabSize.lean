/-
  How many bytes tokens make: the contracts of lz's Size and of the document's.
-/
import Derived.Test.YtgdlmhgjhmcilabToks
namespace Go.Proofs.Ytgdlmhgjhmcilab
open Go.RowKit Lz

def sumZ : List Tkz → Int
  | [] => 0
  | t :: l => t.2.1 + sumZ l
def allB (l : List Tkz) : Bool := l.all fun t => chkZ t == 0
def sizeO (l : List Tkz) : Int × Int := if allB l = true then (if 65536 < sumZ l then (0, 2) else (sumZ l, 0)) else (0, 60)

theorem sumZ_append (a b : List Tkz) : sumZ (a ++ b) = sumZ a + sumZ b := by
  induction a with
  | nil => simp [sumZ]
  | cons t a ih => simp only [List.cons_append, sumZ, ih]; omega
theorem chk_or (t : Tkz) : chkZ t = 0 ∨ chkZ t = 60 := by unfold chkZ; split <;> simp
theorem chk_len {t : Tkz} (h : chkZ t = 0) : 1 ≤ t.2.1 ∧ t.2.1 ≤ 258 := by
  have hk : kindZ t ≠ 0 := fun e => by unfold chkZ at h; rw [if_pos e] at h; omega
  have hf := flt_kind t
  rcases kind_three t with k | k | k
  · exact absurd k hk
  · have := hf.1 k; omega
  · have := hf.2 k; omega
theorem take_getD (l : List Tkz) (k : Nat) (h : k < l.length) : l.take (k + 1) = l.take k ++ [l.getD k tk0] := by
  rw [List.take_succ_eq_append_getElem h]
  simp [List.getD, h]
theorem sum_bound (l : List Tkz) (h : ∀ t ∈ l, chkZ t = 0) : 0 ≤ sumZ l ∧ sumZ l ≤ 258 * l.length := by
  induction l with
  | nil => simp [sumZ]
  | cons t l ih =>
    have h1 := chk_len (h t (by simp))
    have h2 := ih (fun x hx => h x (by simp [hx]))
    simp only [sumZ, List.length_cons]
    omega
theorem sum_take_le (l : List Tkz) (h : ∀ t ∈ l, chkZ t = 0) (k : Nat) : sumZ (l.take k) ≤ sumZ l := by
  have e : sumZ l = sumZ (l.take k) + sumZ (l.drop k) := by rw [← sumZ_append, List.take_append_drop]
  have := (sum_bound (l.drop k) (fun t ht => h t (List.mem_of_mem_drop ht))).1
  omega
theorem getD_mem (l : List Tkz) (k : Nat) (h : k < l.length) : l.getD k tk0 ∈ l := by
  simp only [List.getD, List.getElem?_eq_getElem h, Option.getD_some]
  exact List.getElem_mem h
theorem all_of {l : List Tkz} (h : ∀ j, j < l.length → chkZ (l.getD j tk0) = 0) : allB l = true := by
  unfold allB
  rw [List.all_eq_true]
  intro t ht
  obtain ⟨j, hj, rfl⟩ := List.getElem_of_mem ht
  have := h j hj
  simp only [List.getD, List.getElem?_eq_getElem hj, Option.getD_some] at this
  simpa using this
theorem all_not {l : List Tkz} {k : Nat} (hk : k < l.length) (h : chkZ (l.getD k tk0) ≠ 0) : allB l = false := by
  rw [Bool.eq_false_iff]
  intro ha
  unfold allB at ha
  rw [List.all_eq_true] at ha
  exact h (by simpa using ha _ (getD_mem l k hk))
theorem all_mem {l : List Tkz} (h : allB l = true) : ∀ t ∈ l, chkZ t = 0 := by
  unfold allB at h
  rw [List.all_eq_true] at h
  exact fun t ht => by simpa using h t ht

end Go.Proofs.Ytgdlmhgjhmcilab
