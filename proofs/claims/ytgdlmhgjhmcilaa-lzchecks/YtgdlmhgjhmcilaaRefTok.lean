/-
  The contract of the document's Tokens.
-/
import Derived.Test.YtgdlmhgjhmcilaaAlike
namespace Go.Proofs.Ytgdlmhgjhmcilaa
open Go.RowKit Go.Shelf Lz Go.ChangeShapes Go.WideShapes

def tokC (t : Tok) : List Value := [.int .i64 (t.1 : Int), .int .i64 (t.2.1 : Int), .int .u8 t.2.2]
theorem tokC_len (l : List Tok) : (l.flatMap tokC).length = l.length * 3 := by
  induction l with
  | nil => rfl
  | cons t l ih => rw [List.flatMap_cons, List.length_append, ih]; simp [tokC]; omega
theorem tokC_one (t : Tok) : ∀ u ∈ tokC t, u.oneCell' = true := by
  intro u hu
  simp [tokC] at hu
  rcases hu with rfl | rfl | rfl <;> rfl
theorem tokC_snoc (l : List Tok) (t : Tok) : (l ++ [t]).flatMap tokC = l.flatMap tokC ++ tokC t := by simp

/-- What Tokens tells. -/
def tksO (bs : List Int) : List Tok × Int := if 65536 < bs.length then ([], 2) else (toksL bs, 0)
def TksPost (bs : List Int) (w : World) (e : Ending) (w' : World) : Prop :=
  ∃ v, e = .returned (.tuple #[v, .int .i64 (tksO bs).2]) ∧ w'.ownsRow w.heap.size 23 3 v (tksO bs).1.length ((tksO bs).1.flatMap tokC) ∧ Below w.heap.size w w'

theorem Try.info23 : (Try.prog.info? 23).map (fun i => (i.zero, i.size, i.bytes)) = some (some (.agg #[.int .i64 0, .int .i64 0, .int .u8 0]), 3, 24) := by kernel_rfl
theorem nil_row (w : World) (base : Nat) : w.ownsRow base 23 3 (.slice none 0 0) 0 [] := ⟨rfl, .inl ⟨rfl, rfl⟩⟩
theorem tok_new (w : World) (t : Tok) (j : Nat) (u : Value) (h : (tokC t)[j]? = some u) : (w.alloc (.cells (tokV t) 23)).cell? ((⟨w.heap.size, 0, none⟩ : Addr).add j) = some u := by
  have e := Joins.cell_of_block (heap_new w (.cells (tokV t) 23)) j
  rw [add_plain, Nat.zero_add, e]
  unfold tokV tokC at *
  rw [List.getElem?_toArray]
  exact h

theorem own_later {w w' : World} {base : Nat} {e : TypeId} {size : Nat} {v : Value} {n : Nat} {xs : List Value} (h : w.ownsRow base e size v n xs) (hb : Below w.heap.size w w') : w'.ownsRow base e size v n xs :=
  h.kept (grown_of_below hb) (by cases v.ownBlock <;> simp)

theorem own_block {w : World} {base : Nat} {e : TypeId} {size : Nat} {v : Value} {n : Nat} {xs : List Value} (h : w.ownsRow base e size v n xs) : ∀ g, v.ownBlock = some g → base ≤ g ∧ g < w.heap.size := by
  intro g hg
  rcases h.2 with ⟨rfl, _⟩ | ⟨g', cap, cur, rfl, hb, hh, _⟩
  · cases hg
  · simp only [Value.ownBlock, Option.some.injEq] at hg
    subst hg
    exact ⟨hb, (Array.getElem?_eq_some_iff.1 hh).1⟩

set_option maxHeartbeats 1600000 in
set_option maxRecDepth 100000 in
theorem tokens_ref (a : Option Addr) (cap : Nat) (bs : List Int) (w : World) (hr : Ri w .u8 a cap bs) :
    Calls Try.prog 19 #[.slice a bs.length cap] w (TksPost bs w) := by
  have hroom := hr.room
  have hmost := hr.most
  unfold maxLen at hmost
  have HR := hid hr
  clear hr
  unfold TksPost
  by_cases hlong : 65536 < bs.length
  · have HO : Hid (tksO bs = ([], 2)) := by show _ = _; unfold tksO; rw [if_pos hlong]
    have hz0 : (65536 : Int) < (bs.length : Int) := by omega
    generalize bs.length = L at *
    go_enter Try.func19, Try.ntmps19
    go_wp2
    go_ret2
    exact ⟨.slice none 0 0, by rw [HO.out]; rfl, by rw [HO.out]; exact nil_row _ _, Below.refl _ _⟩
  · have HO : Hid (tksO bs = (from_ bs 0, 0)) := by show _ = _; unfold tksO; rw [if_neg hlong, toksL_from]
    have hz0 : ¬ (65536 : Int) < (bs.length : Int) := by omega
    obtain ⟨i0, hi, hi0, hi1, hi2⟩ := info_parts Try.info23
    have HLG : Hid (∀ q, q < bs.length → ∀ W, Below w.heap.size w W → Calls Try.prog 26 #[.slice a bs.length cap, .int .i64 (q : Int)] W fun e w' => e = .returned (.agg (tokV (longT bs q))) ∧ Below W.heap.size W w') := fun q hq W hW => by
      obtain ⟨g, off, rfl, hgw, hc⟩ := (HR.out.later hW).cells (by omega)
      exact longest_ref bs q g off cap W hq (by omega) hgw hc
    have HLN : Hid (∀ q, q < bs.length → 1 ≤ (longT bs q).2.1 ∧ q + (longT bs q).2.1 ≤ bs.length ∧ (longT bs q).2.1 ≤ 258) := fun q hq => longT_len bs q hq
    have HST : Hid (∀ q, q < bs.length → from_ bs q = longT bs q :: from_ bs (q + (longT bs q).2.1)) := fun q hq => from_step hq
    have HEN : Hid (∀ q, ¬ q < bs.length → from_ bs q = []) := fun q hq => from_end hq
    obtain ⟨L, hLe⟩ : ∃ L, L = bs.length := ⟨_, rfl⟩
    have HL : Hid (∀ q, (from_ bs q).length ≤ L - q) := fun q => by rw [hLe]; exact from_len (bs := bs) _ q (Nat.le_refl _)
    rw [← hLe] at hz0 hlong hroom HLG HLN HST HEN ⊢
    clear hLe HR
    go_enter Try.func19, Try.ntmps19
    go_wp2
    go_loopw [4, 5] (fun x4 x5 wr => ∃ (q : Nat) (dn : List Tok), q ≤ L ∧ x5 = .int .i64 (q : Int) ∧ dn.length ≤ q ∧ wr.ownsRow w.heap.size 23 3 x4 dn.length (dn.flatMap tokC) ∧ Below w.heap.size w wr ∧ Hid (from_ bs 0 = dn ++ from_ bs q)) (fun _ x5 _ => L - (intOf x5).toNat)
    case atStart => exact ⟨0, [], by omega, rfl, by simp, nil_row _ _, Below.refl _ _, rfl⟩
    case round =>
      obtain ⟨q, dn, hq, rfl, hdn, hown, hbel, HF⟩ := hrel
      by_cases hlt : q < L
      · have hqz : (q : Int) < (L : Int) := by omega
        have HC := hid (HLG.out q hlt wr hbel)
        obtain ⟨h1, h2, h3⟩ := HLN.out q hlt
        have HS := hid (HST.out q hlt)
        obtain ⟨⟨x0, x1, x2⟩, ht⟩ : ∃ t, longT bs q = t := ⟨_, rfl⟩
        rw [ht] at HC HS h1 h2 h3
        clear ht
        dsimp only at h1 h2 h3
        have hw0 := hbel.size
        go_wp2_with fail
        refine HC.out.mono ?_
        rintro _ w1 ⟨rfl, hb1⟩
        simp only [tokV]
        have hown1 := own_later (own_later hown hb1) (bel_alloc w1 (.cells #[.int .i64 (x0 : Int), .int .i64 (x1 : Int), .int .u8 x2] 23))
        have hw1 := hb1.size
        have HNW := hid (fun j u h => tok_new (w1.alloc (.cells #[.int .i64 (x0 : Int), .int .i64 (x1 : Int), .int .u8 x2] 23)) (x0, x1, x2) j u h)
        simp only [World.size_alloc] at HNW
        have eT : (w1.alloc (.cells #[.int .i64 (x0 : Int), .int .i64 (x1 : Int), .int .u8 x2] 23)).heap[w1.heap.size]? = some (.cells #[.int .i64 (x0 : Int), .int .i64 (x1 : Int), .int .u8 x2] 23 (0, 0)) := heap_new _ _
        go_wp2_with (at_builtin; refine wpList_append_own _ rfl _ _ 24 rfl w.heap.size 23 i0 (.agg #[.int .i64 0, .int .i64 0, .int .u8 0]) 3 24 Try.underlying24 hi hi0 hi1 hi2 rfl (by decide) _ _ _ rfl (hown1.alloc _) ⟨w1.heap.size + 1, 0, none⟩ 1 1 (tokC (x0, x1, x2)) rfl rfl HNW.out (tokC_one _) (by unfold maxLen; omega) (by omega) (by simp; omega) ?_)
        intro v' w3 hown3 hgrow3 _
        have hob := own_block hown
        have e3 : Tb w3 w1.heap.size (x0, x1, x2) := by
          refine (hgrow3.block w1.heap.size (by simp; omega) (fun e => ?_)).trans (heap_old _ _ eT)
          have := (hob _ e.symm).2
          omega
        have c1 := e3.c1
        dsimp only at c1
        have HB3 : Hid (Below w.heap.size w w3) := (Bn (Bn (Bn hbel hb1) (bel_alloc w1 _)) (bel_alloc _ _)).grown hgrow3 (by simp; omega) (fun g hg => (hob g hg).1)
        have HO3 : Hid (w3.ownsRow w.heap.size 23 3 v' (dn ++ [(x0, x1, x2)]).length ((dn ++ [(x0, x1, x2)]).flatMap tokC)) := by
          show World.ownsRow _ _ _ _ _ _ _
          rw [tokC_snoc, List.length_append]
          exact hown3
        clear hown3 hgrow3 e3 eT hown1 hown hob HNW HC
        go_wp2
        exact ⟨⟨q + x1, dn ++ [(x0, x1, x2)], by omega, by go_num, by simp; omega, HO3.out, HB3.out, hid (by rw [HF.out, HS.out]; simp)⟩, by simp [intOf]; omega⟩
      · rw [HEN.out q hlt, List.append_nil] at HF
        have hqz : ¬ (q : Int) < (L : Int) := by omega
        go_wp2
        go_ret2
        exact ⟨_, by rw [HO.out]; rfl, by rw [HO.out, HF.out]; exact hown, hbel⟩
end Go.Proofs.Ytgdlmhgjhmcilaa
