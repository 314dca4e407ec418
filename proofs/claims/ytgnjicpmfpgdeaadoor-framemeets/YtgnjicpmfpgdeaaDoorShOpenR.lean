/-
  The contract of the document's Open; both Opens side by side.
-/
import Derived.Test.YtgnjicpmfpgdeaaDoorShSealR
namespace Go.Proofs.YtgnjicpmfpgdeaaDoor.Sh
open Go.RowKit Sha

theorem rd_any {w : World} {B : Nat} {v : Value} {l : List Nat} {n : Nat} (hown : w.ownsRow B 5 1 v n (V l)) (hn : l.length = n) (hz : ∀ j, l.getD j 0 < 256) :
    ∃ a c, v = .slice a n c ∧ Rd w (.slice a n c) a c l := by
  subst hn
  have h' := hown
  rcases hown.2 with ⟨h0, h1⟩ | ⟨g, cp, cur, hv, hg, hh, hn, hcap, _, _⟩
  · refine ⟨none, 0, by rw [h0, h1], rfl, by omega, by unfold maxLen; omega, fun h => by omega, hz, fun _ => rfl⟩
  · subst hv
    refine ⟨_, cp, rfl, rfl, hn, hcap, fun _ => ⟨g, 0, rfl, (Array.getElem?_eq_some_iff.1 hh).1, fun j hj => ?_⟩, hz, fun h => by cases h⟩
    rw [Nat.zero_add, h'.cellAt j (by omega)]
    simp [V, List.getD, List.getElem?_eq_getElem hj]
theorem rd_nil (w : World) : Rd w (.slice none 0 0) none 0 [] := ⟨rfl, Nat.le_refl _, by unfold maxLen; omega, fun h => absurd h (by simp), fun j => by simp, fun _ => rfl⟩

/-- The bytes as a string: alike just where the bytes are. -/
theorem eqB_iff (l m : List Nat) (hl : l.length = 32) (hm : m.length = 32) : eqB 32 l m = true ↔ l = m := by
  constructor
  · intro h
    apply List.ext_getElem (by omega)
    intro i h1 h2
    have := List.all_eq_true.1 h i (List.mem_range.2 (by omega))
    simpa [List.getD, List.getElem?_eq_getElem h1, List.getElem?_eq_getElem h2] using this
  · intro h
    rw [h]; exact eqB_same _ _

/-- What Open tells of bytes. -/
def openL (key z : List Nat) : List Nat × Int := if z.length < 32 then ([], 11) else if eqB 32 (hmac key (z.take (z.length - 32))) (z.drop (z.length - 32)) = true then (z.take (z.length - 32), 0) else ([], 40)

theorem open_any (a : Option Addr) (cap : Nat) (key : List Nat) (b : Option Addr) (capb : Nat) (z : List Nat) (w : World) (hl : Laid w) (hr : Rd w (.slice a key.length cap) a cap key) (hrb : Rd w (.slice b z.length capb) b capb z) (hk : key.length ≤ 100000) (hz : z.length ≤ 100000) :
    Calls Tryd.prog 32 #[.slice a key.length cap, .slice b z.length capb] w fun e w' => (∃ x c, e = .returned (.tuple #[.slice x (openL key z).1.length c, .int .i64 (openL key z).2]) ∧ Rd w' (.slice x (openL key z).1.length c) x c (openL key z).1) ∧ Below w.heap.size w w' := by
  by_cases h32 : z.length < 32
  · have e : openL key z = ([], 11) := if_pos h32
    rw [e]
    refine (open_short a cap key.length b capb z.length w h32).mono fun e w' ⟨h1, h2⟩ => ⟨⟨none, 0, h1, rd_nil w'⟩, h2⟩
  · obtain ⟨n, hn⟩ : ∃ n, z.length = n + 32 := ⟨z.length - 32, by omega⟩
    have hn' : z.length - 32 = n := by omega
    refine (open_long a cap key b capb z n w hl hr hrb hk hz hn).mono fun e w' ⟨h1, h2⟩ => ⟨?_, h2⟩
    have e1 : openL key z = if eqB 32 (hmac key (z.take n)) (z.drop n) = true then (z.take n, 0) else ([], 40) := by rw [openL, if_neg h32, hn']
    rcases h1 with ⟨hq, v, he, hown⟩ | ⟨hq, he⟩
    · rw [if_pos hq] at e1
      rw [e1]
      have htl : (z.take n).length = n := by rw [List.length_take]; omega
      obtain ⟨x, c, hv, hrd⟩ := rd_any hown htl ((all_lt _).2 (fun y hy => (all_lt z).1 hrb.hi y (List.mem_of_mem_take hy)))
      refine ⟨x, c, ?_, ?_⟩
      · show e = .returned (.tuple #[.slice x (z.take n).length c, .int .i64 0])
        rw [he, hv, htl]
      · show Rd w' (.slice x (z.take n).length c) x c (z.take n)
        rw [htl]; exact hrd
    · rw [if_neg (by rw [hq]; decide)] at e1
      rw [e1]
      exact ⟨none, 0, he, rd_nil w'⟩

end Go.Proofs.YtgnjicpmfpgdeaaDoor.Sh
