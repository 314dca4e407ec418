/-
  The paths of NamesMany, and what putting them makes of no files. The law's number (21).
-/
import Derived.Test.YtcbjlnabbfkkeaaNmLc
namespace Go.Proofs.Ytcbjlnabbfkkeaa
open Go.ChangeShapes Go.WideShapes Go.ChangeAt Go.RowKit Go.Deep Go.Lib

theorem conv_one (w : World) (z : Int) : (convert 56 9 (.slice (some ⟨w.heap.size, 0, none⟩) 1 1)).run Try.prog (w.alloc (.cells #[.int .u8 z] 5)) = .ok (.string (strOfNums [z])) (w.alloc (.cells #[.int .u8 z] 5)) :=
  run_convert_bytes_arg (P := Try.prog) _ 56 5 Try.underlying56 Try.underlying5 w.heap.size 0 1 1 [z] rfl (fun i hi => by
    have h0 : i = 0 := by omega
    subst h0
    exact (Joins.cell_of_block (heap_alc w _) 0).trans rfl) 9 Try.underlying9
def dg (n : Nat) : ByteArray := strOfNums [48 + (n : Int) % 10]
def numT : Nat → Nat → ByteArray → ByteArray
  | 0, n, s => dg n ++ s
  | k + 1, n, s => if 9 < n then numT k (n / 10) (dg n ++ s) else dg n ++ s
def numS (n : Nat) : ByteArray := numT 4 n ByteArray.empty
set_option maxHeartbeats 1600000 in
set_option maxRecDepth 100000 in
theorem number_word (i : Nat) (hi : i < 1024) (w : World) : Calls Try.prog 21 #[.int .i64 (i : Int)] w fun e w' => e = .returned (.string (numS i)) ∧ Below w.heap.size w w' := by
  go_enter Try.func21, Try.ntmps21
  go_wp2
  go_loopw [0, 3] (fun x0 x3 wr => ∃ (k n : Nat) (s : ByteArray), k ≤ 4 ∧ n < 1024 ∧ n < 10 ^ k ∧ s.size + k ≤ 4 ∧ x0 = .int .i64 (n : Int) ∧ x3 = .string s ∧ Hid (numT k n s = numS i) ∧ Hid (Below w.heap.size w wr)) (fun x0 _ _ => (intOf x0).toNat)
  case atStart => exact ⟨4, i, ByteArray.empty, by omega, hi, by omega, by decide, rfl, rfl, rfl, Below.refl _ _⟩
  case round =>
    obtain ⟨k, n, s, hk, hn, hnk, hsk, rfl, rfl, HE, HB⟩ := hrel
    have HC := conv_one wr (48 + (n : Int) % 10)
    have HBW := hid (Bn HB.out (bel_alc wr (.cells #[.int .u8 (48 + (n : Int) % 10)] 5)))
    by_cases h9 : 9 < n
    · have hz : (n : Int) > 9 := by omega
      have hlim : ¬ 9223372036854775807 < (strOfNums [48 + (n : Int) % 10]).size + s.size := by rw [strOfNums_size]; simp; omega
      go_wp2
      go_roundw
      case rel =>
        refine ⟨k - 1, n / 10, dg n ++ s, by omega, by omega, ?_, ?_, by go_num, rfl, ?_, HBW.out⟩
        · have hk0 : k = (k - 1) + 1 := by
            cases k with
            | zero => simp at hnk; omega
            | succ k => rfl
          rw [hk0, Nat.pow_succ] at hnk
          omega
        · have hk0 : k = (k - 1) + 1 := by
            cases k with
            | zero => simp at hnk; omega
            | succ k => rfl
          have : (dg n ++ s).size = 1 + s.size := by rw [ByteArray.size_append]; unfold dg; rw [strOfNums_size]; rfl
          omega
        · have hk0 : k = (k - 1) + 1 := by
            cases k with
            | zero => simp at hnk; omega
            | succ k => rfl
          show _ = _
          rw [← HE.out]
          conv => rhs; rw [hk0]
          rw [numT, if_pos h9]
      case measure => simp [intOf]; omega
    · have hz : ¬ (n : Int) > 9 := by omega
      have hm : (n : Int) % 10 = (n : Int) := by omega
      rw [hm] at HC HBW
      have HDG : Hid (strOfNums [48 + (n : Int)] = dg n) := by show _ = _; unfold dg; rw [hm]
      rw [HDG.out] at HC
      have hlim : ¬ 9223372036854775807 < (dg n).size + s.size := by unfold dg; rw [strOfNums_size]; simp; omega
      go_wp2
      go_ret
      refine ⟨?_, HBW.out⟩
      rw [← HE.out]
      cases k with
      | zero => rfl
      | succ k => rw [numT, if_neg h9]; rfl
end Go.Proofs.Ytcbjlnabbfkkeaa
namespace Go.Proofs.Ytcbjlnabbfkkeaa
open Go.ChangeShapes Go.WideShapes Go.ChangeAt Go.RowKit Go.Deep Go.Lib

def pth (i : Nat) : ByteArray := ⟨#[112]⟩ ++ numS i
def sMore : ByteArray := ⟨#[109, 111, 114, 101]⟩
def sP5 : ByteArray := ⟨#[112, 53]⟩
def valP (s : ByteArray) : Nat := (s.data.toList.drop 1).foldl (fun a c => a * 10 + (c.toNat - 48)) 0
theorem pth_all : (List.range 1024).all (fun i => pathB (pth i) && decide (valP (pth i) = i) && decide (pth i ≠ sMore) && decide ((pth i).size ≤ 10)) = true := by decide +kernel
theorem pth_at {i : Nat} (hi : i < 1024) : pathB (pth i) = true ∧ valP (pth i) = i ∧ pth i ≠ sMore ∧ (pth i).size ≤ 10 := by
  have h := List.all_eq_true.1 pth_all i (List.mem_range.2 hi)
  simp only [Bool.and_eq_true, decide_eq_true_eq] at h
  exact ⟨h.1.1.1, h.1.1.2, h.1.2, h.2⟩
theorem pth_inj {i j : Nat} (hi : i < 1024) (hj : j < 1024) (h : pth i = pth j) : i = j := by
  rw [← (pth_at hi).2.1, ← (pth_at hj).2.1, h]
theorem pth_5 : pth 5 = sP5 := by decide +kernel
theorem path_more : pathB sMore = true := by decide +kernel
theorem path_p5 : pathB sP5 = true := by decide +kernel
def recP (q : Int) (p : ByteArray) : Rec := ⟨q, 1, z32, 2, 0, p, none, 0, []⟩
theorem recP_len (q : Int) (p : ByteArray) : (recP q p).prev.length = 32 := rfl
theorem built36P (q : Int) (p : ByteArray) : Try.prog.built 36 [(0, .int .i64 q), (1, .int .i64 1), (3, .int .i64 2), (5, .string p)] = some (recP q p).cs.toArray := by kernel_rfl
theorem recP_may {q : Int} {p : ByteArray} (h1 : 1 ≤ q) (h2 : q ≤ 1073741824) (hp : pathB p = true) : mayB (recP q p) = true := by
  have hk : kindB (recP q p) = true := by
    unfold kindB
    rw [if_neg (show ¬ (recP q p).kind = 1 from by show ¬ (2 : Int) = 1; omega), if_neg (show ¬ (recP q p).kind = 3 from by show ¬ (2 : Int) = 3; omega), if_pos (show (recP q p).kind = 2 from rfl)]
    show (decide ((0 : Int) = 0) && pathB p && decide ((sizO []).2 = 0)) = true
    rw [hp]
    decide
  unfold mayB
  rw [hk]
  show (decide (1 ≤ q ∧ q ≤ 1073741824) && decide ((1 : Int) ≤ 1 ∧ (1 : Int) ≤ 1073741824) && true) = true
  rw [decide_eq_true (show 1 ≤ q ∧ q ≤ 1073741824 from ⟨h1, h2⟩)]
  decide
theorem recP_rv (w : World) {q : Int} {p : ByteArray} (hp : p.size ≤ 10) (h : (Lit.int .i64 q).wf = true) : Rv w (recP q p) :=
  ⟨rfl, z32_u8, h, (show (Lit.int .i64 (1 : Int)).wf = true from rfl), (show (Lit.int .i64 (2 : Int)).wf = true from rfl), (show (Lit.int .i64 (0 : Int)).wf = true from rfl), by unfold maxLen; show p.size ≤ _; omega, Rp.zero w⟩
/-- The files of the first k paths. -/
structure Ins (M : List Fl) (k : Nat) : Prop where
  len : M.length = k
  has : ∀ s, (fnd M s).isSome = true ↔ ∃ j, j < k ∧ s = pth j
theorem Ins.zero : Ins [] 0 := ⟨rfl, fun s => ⟨fun h => (by simp [fnd] at h), fun ⟨j, h, _⟩ => by omega⟩⟩
theorem Ins.no {M : List Fl} {k : Nat} (h : Ins M k) {s : ByteArray} (hs : ∀ j, j < k → s ≠ pth j) : (fnd M s).isSome = false := by
  cases hq : (fnd M s).isSome with
  | false => rfl
  | true =>
    obtain ⟨j, hj, e⟩ := (h.has s).1 hq
    exact absurd e (hs j hj)
theorem Ins.step {M M' : List Fl} {k : Nat} {q : Int} (h : Ins M k) (hk : k < 1024) (h1 : 1 ≤ q) (h2 : q ≤ 1073741824) (ha : M.Pairwise fun f f' => f.path ≠ f'.path) (hr : AppR (recP q (pth k)) M M') : mayE M (recP q (pth k)) = 0 ∧ Ins M' (k + 1) := by
  have hn : (fnd M (pth k)).isSome = false := h.no (fun j hj e => by have := pth_inj hk (by omega) e; omega)
  have hb := recP_may h1 h2 (pth_at hk).1
  have h0 : mayE M (recP q (pth k)) = 0 := by
    unfold mayE mayG
    rw [hb, if_neg (by decide), if_neg (fun h => absurd (show (2 : Int) = 3 from h.1) (by decide)), if_neg (fun hh => by have := h.len; have := hh.2.2; omega)]
  refine ⟨h0, ?_⟩
  unfold AppR at hr
  rw [if_pos h0, if_pos (show (recP q (pth k)).kind = 2 from rfl)] at hr
  obtain ⟨f, rfl, hp, _⟩ := hr
  have hp' : f.path = pth k := hp
  refine ⟨by rw [put_len M ha f, hp', hn, h.len]; simp, fun s => ?_⟩
  rw [fnd_put, hp']
  by_cases e : s = pth k
  · rw [if_pos e]
    exact ⟨fun _ => ⟨k, by omega, e⟩, fun _ => rfl⟩
  · rw [if_neg e, h.has]
    exact ⟨fun ⟨j, hj, e2⟩ => ⟨j, by omega, e2⟩, fun ⟨j, hj, e2⟩ => ⟨j, by
      rcases Nat.lt_or_ge j k with h3 | h3
      · exact h3
      · have : j = k := by omega
        rw [this] at e2
        exact absurd e2 e, e2⟩⟩
theorem Ins.more {M M' : List Fl} (h : Ins M 1024) (hr : AppR (recP 1 sMore) M M') : mayE M (recP 1 sMore) = 3 ∧ M' = M := by
  have hn : (fnd M sMore).isSome = false := h.no (fun j hj e => (pth_at hj).2.2.1 e.symm)
  have hb := recP_may (q := 1) (by omega) (by omega) path_more
  have h0 : mayE M (recP 1 sMore) = 3 := by
    unfold mayE mayG
    rw [hb, if_neg (by decide), if_neg (fun h => absurd (show (2 : Int) = 3 from h.1) (by decide)), if_pos ⟨rfl, hn, by rw [h.len]; exact Nat.le_refl _⟩]
  unfold AppR at hr
  rw [if_neg (by rw [h0]; decide)] at hr
  exact ⟨h0, hr⟩
theorem Ins.five {M M' : List Fl} (h : Ins M 1024) (ha : M.Pairwise fun f f' => f.path ≠ f'.path) (hr : AppR (recP 7 sP5) M M') : mayE M (recP 7 sP5) = 0 ∧ M'.length = 1024 ∧ ∃ f, fnd M' sP5 = some f ∧ f.seq = 7 := by
  have hn : (fnd M sP5).isSome = true := (h.has _).2 ⟨5, by omega, pth_5.symm⟩
  have hb := recP_may (q := 7) (by omega) (by omega) path_p5
  have h0 : mayE M (recP 7 sP5) = 0 := by
    unfold mayE mayG
    rw [hb, if_neg (by decide), if_neg (fun h => absurd (show (2 : Int) = 3 from h.1) (by decide)), if_neg (fun hh => by have h1 := hh.2.1; have h2 : (fnd M sP5).isSome = false := h1; rw [hn] at h2; cases h2)]
  unfold AppR at hr
  rw [if_pos h0, if_pos (show (recP 7 sP5).kind = 2 from rfl)] at hr
  obtain ⟨f, rfl, hp, hs, _⟩ := hr
  have hp' : f.path = sP5 := hp
  exact ⟨h0, by rw [put_len M ha f, hp', hn, h.len]; rfl, f, by rw [fnd_put, hp', if_pos rfl], hs⟩
theorem Nm.apart {B : Nat} {W : World} {n g : Nat} {M : List Fl} (h : Nm B W n g M) : M.Pairwise fun f f' => f.path ≠ f'.path := by
  obtain ⟨D, h⟩ := h
  exact h.apart
theorem fnd_some_iff {M : List Fl} {s : ByteArray} : (fnd M s).isSome = true ↔ s ∈ M.map Fl.path := by
  constructor
  · intro h
    obtain ⟨f, hf⟩ := Option.isSome_iff_exists.1 h
    exact List.mem_map.2 ⟨f, fnd_mem hf, fnd_path hf⟩
  · intro h
    obtain ⟨f, hf, e⟩ := List.mem_map.1 h
    cases hq : fnd M s with
    | some _ => rfl
    | none =>
      unfold fnd at hq
      rw [List.find?_eq_none] at hq
      exact absurd (decide_eq_true e) (hq f hf)
theorem pre_empty (s : ByteArray) : preB s ByteArray.empty = true := by
  unfold preB Lib.hasPrefix
  rfl
theorem LstP.len {M : List Fl} {L : List Fi} (h : LstP M ByteArray.empty L) (ha : M.Pairwise fun f f' => f.path ≠ f'.path) : L.length = M.length := by
  have h1 : (L.map Fi.path).Nodup := List.Pairwise.imp (R := ltP) (fun {a b} hab (e : a = b) => by subst e; exact ltP_irr _ hab) h.paths
  have h2 : (M.map Fl.path).Nodup := by
    unfold List.Nodup
    rw [List.pairwise_map]
    exact ha
  have hp : (L.map Fi.path).Perm (M.map Fl.path) := by
    rw [List.perm_ext_iff_of_nodup h1 h2]
    intro s
    rw [h.mem, fnd_some_iff, pre_empty]
    simp
  have := hp.length_eq
  simpa using this
end Go.Proofs.Ytcbjlnabbfkkeaa
