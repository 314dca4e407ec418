/-
  What is read of a record's bytes is that record, and what is read as a record has just these bytes.
-/
import Derived.Test.YtpbaacplgohniaaDoorRcBe
namespace Go.Proofs.YtpbaacplgohniaaDoor
open Go.ChangeShapes Go.WideShapes Go.ChangeAt Go.RowKit Go.Deep

def By (zs : List Int) : Prop := ∀ z ∈ zs, 0 ≤ z ∧ z ≤ 255
theorem By.drop {zs : List Int} (h : By zs) (n : Nat) : By (zs.drop n) := fun z hz => h z (List.mem_of_mem_drop hz)
theorem By.take {zs : List Int} (h : By zs) (n : Nat) : By (zs.take n) := fun z hz => h z (List.mem_of_mem_take hz)
theorem By.tail {z : Int} {zs : List Int} (h : By (z :: zs)) : By zs := fun y hy => h y (List.mem_cons_of_mem _ hy)
theorem By.right {a b : List Int} (h : By (a ++ b)) : By b := fun y hy => h y (List.mem_append_right _ hy)
theorem By.left {a b : List Int} (h : By (a ++ b)) : By a := fun y hy => h y (List.mem_append_left _ hy)
theorem path_str {p : List Int} (h : By p) : pathL (strOfNums p) = p := by
  unfold pathL
  rw [strOfNums_data]
  exact u8_back h
theorem str_size (p : List Int) : (strOfNums p).size = p.length := by
  show (strOfNums p).data.size = _
  have := congrArg List.length (strOfNums_data p)
  simpa using this
theorem str_path (s : ByteArray) : strOfNums (pathL s) = s := by
  apply ByteArray.ext
  apply Array.ext'
  rw [strOfNums_data]
  unfold pathL
  rw [List.map_map]
  conv => rhs; rw [← List.map_id s.data.toList]
  apply List.map_congr_left
  intro b _
  simp
theorem pathL_by (s : ByteArray) : By (pathL s) := fun z hz => by
  obtain ⟨c, _, rfl⟩ := List.mem_map.1 hz
  have := c.toNat_lt
  omega
theorem pth_one {z p rs : List Int} (h : pthO z = some (p, rs)) (hb : By z) : z = (p.length : Int) :: (p ++ rs) ∧ p.length ≤ 255 := by
  cases z with
  | nil => cases h
  | cons n z =>
    have hn := hb n (by simp)
    rw [pthO] at h
    by_cases hl : n.toNat ≤ z.length
    · rw [if_pos hl] at h
      injection h with h
      injection h with h1 h2
      have e : p.length = n.toNat := by rw [← h1]; simp; omega
      rw [← h1, ← h2, List.take_append_drop, h1, e]
      exact ⟨by rw [Int.toNat_of_nonneg hn.1], by omega⟩
    · rw [if_neg hl] at h; cases h
theorem pth_back (p rs : List Int) : pthO ((p.length : Int) :: (p ++ rs)) = some (p, rs) := by
  rw [pthO, Int.toNat_natCast, if_pos (by simp), List.take_left, List.drop_left]
theorem pcs_one : ∀ {k : Nat} {z rs : List Int} {l : List Pc}, pcsG k z = some (l, rs) → By z → z = l.flatMap pcB ++ rs ∧ l.length = k ∧ ∀ x ∈ l, x.1.length = 32 ∧ By x.1 ∧ 0 ≤ x.2 ∧ x.2 ≤ 4096
  | 0, z, rs, l, h, _ => by
    rw [pcsG] at h
    injection h with h
    injection h with h1 h2
    subst h1 h2
    exact ⟨rfl, rfl, fun x hx => by cases hx⟩
  | k + 1, z, rs, l, h, hb => by
    rw [pcsG] at h
    cases hn : numO 4096 z with
    | none => rw [hn] at h; cases h
    | some q =>
      obtain ⟨n, z1⟩ := q
      rw [hn] at h
      dsimp only at h
      by_cases h32 : 32 ≤ z1.length
      · rw [if_pos h32] at h
        cases hg : pcsG k (z1.drop 32) with
        | none => rw [hg] at h; cases h
        | some q =>
          obtain ⟨m, ts⟩ := q
          rw [hg] at h
          dsimp only at h
          injection h with h
          injection h with h1 h2
          subst h1 h2
          obtain ⟨hz, hm⟩ := numO_one hn hb
          have hb1 : By z1 := by rw [hz] at hb; exact hb.right
          obtain ⟨e1, e2, e3⟩ := pcs_one hg (hb1.drop 32)
          refine ⟨?_, by simp [e2], fun x hx => ?_⟩
          · rw [hz, List.flatMap_cons, List.append_assoc, ← e1]
            show vint (n : Int) ++ z1 = vint (n : Int) ++ z1.take 32 ++ z1.drop 32
            rw [List.append_assoc, List.take_append_drop]
          · rcases List.mem_cons.1 hx with rfl | hx
            · exact ⟨by simp; omega, hb1.take 32, by show (0 : Int) ≤ (n : Int); omega, by show (n : Int) ≤ 4096; omega⟩
            · exact e3 x hx
      · rw [if_neg h32] at h; cases h
theorem pcs_back : ∀ (l : List Pc) (rs : List Int), (∀ x ∈ l, x.1.length = 32 ∧ 0 ≤ x.2 ∧ x.2 ≤ 4096) → pcsG l.length (l.flatMap pcB ++ rs) = some (l, rs)
  | [], rs, _ => rfl
  | x :: l, rs, h => by
    obtain ⟨h1, h2, h3⟩ := h x (by simp)
    obtain ⟨d, n⟩ := x
    dsimp only at h1 h2 h3
    obtain ⟨m, rfl⟩ := Int.eq_ofNat_of_zero_le h2
    have e : (((d, (m : Int)) :: l).flatMap pcB ++ rs) = vint (m : Int) ++ (d ++ (l.flatMap pcB ++ rs)) := by
      rw [List.flatMap_cons]
      show ((vint (m : Int) ++ d) ++ l.flatMap pcB) ++ rs = _
      simp only [List.append_assoc]
    rw [e, List.length_cons, pcsG, numO_vint m 4096 _ (by omega) (by omega)]
    dsimp only
    rw [if_pos (by simp [h1]), show (d ++ (l.flatMap pcB ++ rs)).drop 32 = l.flatMap pcB ++ rs from by rw [← h1, List.drop_left], show (d ++ (l.flatMap pcB ++ rs)).take 32 = d from by rw [← h1, List.take_left], pcs_back l rs (fun y hy => h y (by simp [hy]))]
theorem pcsR_one {z rs : List Int} {l : List Pc} (h : pcsR z = some (l, rs)) (hb : By z) : z = pcsB l ++ rs ∧ l.length ≤ 4096 ∧ ∀ x ∈ l, x.1.length = 32 ∧ By x.1 ∧ 0 ≤ x.2 ∧ x.2 ≤ 4096 := by
  unfold pcsR at h
  cases hn : numO 4096 z with
  | none => rw [hn] at h; cases h
  | some q =>
    obtain ⟨k, z1⟩ := q
    rw [hn] at h
    dsimp only at h
    obtain ⟨hz, hk⟩ := numO_one hn hb
    have hb1 : By z1 := by rw [hz] at hb; exact hb.right
    obtain ⟨e1, e2, e3⟩ := pcs_one h hb1
    refine ⟨?_, by omega, e3⟩
    unfold pcsB
    rw [e2, List.append_assoc, ← e1, ← hz]
theorem pcsR_back (l : List Pc) (rs : List Int) (hl : l.length ≤ 4096) (h : ∀ x ∈ l, x.1.length = 32 ∧ 0 ≤ x.2 ∧ x.2 ≤ 4096) : pcsR (pcsB l ++ rs) = some (l, rs) := by
  unfold pcsR pcsB
  rw [List.append_assoc, numO_vint _ _ _ hl (by omega)]
  exact pcs_back l rs h
/-- What a record that was read is like. -/
structure Red (r : Rec) : Prop where
  len : r.prev.length = 32
  u8 : By r.prev
  seq : 0 ≤ r.seq ∧ r.seq ≤ 1073741824
  epoch : 0 ≤ r.epoch ∧ r.epoch ≤ 1073741824
  kind : 0 ≤ r.kind ∧ r.kind ≤ 255
  site : 0 ≤ r.site ∧ r.site ≤ 255
  path : r.path.size ≤ 255
  pcs : ∀ x ∈ r.ps, x.1.length = 32 ∧ By x.1 ∧ 0 ≤ x.2 ∧ x.2 ≤ 4096
  many : r.ps.length ≤ 4096
  none : r.a = none ∧ r.cap = 0
theorem red_one {zs rs : List Int} {r : Rec} (h : redR zs = some (r, rs)) (hb : By zs) : Red r ∧ (kindB r = true → zs = wrB r ++ rs) := by
  cases zs with
  | nil => cases h
  | cons m z =>
    rw [redR] at h
    by_cases hm : m = 82
    · subst hm
      rw [if_pos rfl] at h
      cases z with
      | nil => cases h
      | cons k z =>
        have hk := hb k (by simp)
        have hb0 := hb.tail.tail
        replace h : red2 k z = some (r, rs) := h
        unfold red2 at h
        cases hn : numO 1073741824 z with
        | none => rw [hn] at h; cases h
        | some q =>
          obtain ⟨sn, z1⟩ := q
          rw [hn] at h
          obtain ⟨hz, hs⟩ := numO_one hn hb0
          have hb1 : By z1 := by rw [hz] at hb0; exact hb0.right
          replace h : red3 k (sn : Int) z1 = some (r, rs) := h
          unfold red3 at h
          cases hn2 : numO 1073741824 z1 with
          | none => rw [hn2] at h; cases h
          | some q =>
            obtain ⟨en, z2⟩ := q
            rw [hn2] at h
            obtain ⟨hz1, hs1⟩ := numO_one hn2 hb1
            have hb2 : By z2 := by rw [hz1] at hb1; exact hb1.right
            replace h : red4 k (sn : Int) (en : Int) z2 = some (r, rs) := h
            unfold red4 at h
            by_cases h32 : 32 ≤ z2.length
            · rw [if_pos h32] at h
              have hl : (z2.take 32).length = 32 := by simp; omega
              have hbd := hb2.take 32
              have hb3 := hb2.drop 32
              have hzz : 82 :: k :: z = ([82, k] ++ vint (sn : Int) ++ vint (en : Int)) ++ z2.take 32 ++ z2.drop 32 := by
                rw [List.append_assoc, List.take_append_drop, hz, hz1]
                simp
              rw [hzz]
              generalize z2.take 32 = D at *
              generalize z2.drop 32 = z3 at *
              unfold red5 at h
              by_cases h1 : k = 1
              · subst h1
                rw [if_pos rfl] at h
                cases z3 with
                | nil => cases h
                | cons x z4 =>
                  unfold redL at h
                  injection h with h
                  injection h with e1 e2
                  subst e1 e2
                  exact ⟨⟨hl, hbd, ⟨by show (0 : Int) ≤ (sn : Int); omega, by show (sn : Int) ≤ _; omega⟩, ⟨by show (0 : Int) ≤ (en : Int); omega, by show (en : Int) ≤ _; omega⟩, hk, hb3 x (by simp), Nat.zero_le _, (fun x hx => by cases hx), Nat.zero_le _, ⟨rfl, rfl⟩⟩, fun _ => by simp [wrB, wrH]⟩
              · rw [if_neg h1] at h
                by_cases h2 : k = 2
                · subst h2
                  rw [if_pos rfl] at h
                  unfold redP at h
                  cases hp : pthO z3 with
                  | none => rw [hp] at h; cases h
                  | some q =>
                    obtain ⟨p, z4⟩ := q
                    rw [hp] at h
                    dsimp only at h
                    obtain ⟨hz3, hpl⟩ := pth_one hp hb3
                    have hb4 : By (p ++ z4) := by rw [hz3] at hb3; exact hb3.tail
                    cases hc : pcsR z4 with
                    | none => rw [hc] at h; cases h
                    | some q =>
                      obtain ⟨l, z5⟩ := q
                      rw [hc] at h
                      dsimp only at h
                      obtain ⟨hz4, hll, hx⟩ := pcsR_one hc hb4.right
                      injection h with h
                      injection h with e1 e2
                      subst e1 e2
                      refine ⟨⟨hl, hbd, ⟨by show (0 : Int) ≤ (sn : Int); omega, by show (sn : Int) ≤ _; omega⟩, ⟨by show (0 : Int) ≤ (en : Int); omega, by show (en : Int) ≤ _; omega⟩, hk, ⟨by show (0 : Int) ≤ 0; omega, by show (0 : Int) ≤ 255; omega⟩, by rw [str_size]; exact hpl, hx, hll, ⟨rfl, rfl⟩⟩, fun _ => ?_⟩
                      rw [hz3, hz4]
                      simp [wrB, wrH, str_size, path_str hb4.left]
                · rw [if_neg h2] at h
                  by_cases h3 : k = 3
                  · subst h3
                    rw [if_pos rfl] at h
                    unfold redX at h
                    cases hp : pthO z3 with
                    | none => rw [hp] at h; cases h
                    | some q =>
                      obtain ⟨p, z4⟩ := q
                      rw [hp] at h
                      dsimp only at h
                      obtain ⟨hz3, hpl⟩ := pth_one hp hb3
                      have hb4 : By (p ++ z4) := by rw [hz3] at hb3; exact hb3.tail
                      injection h with h
                      injection h with e1 e2
                      subst e1 e2
                      refine ⟨⟨hl, hbd, ⟨by show (0 : Int) ≤ (sn : Int); omega, by show (sn : Int) ≤ _; omega⟩, ⟨by show (0 : Int) ≤ (en : Int); omega, by show (en : Int) ≤ _; omega⟩, hk, ⟨by show (0 : Int) ≤ 0; omega, by show (0 : Int) ≤ 255; omega⟩, by rw [str_size]; exact hpl, (fun x hx => by cases hx), Nat.zero_le _, ⟨rfl, rfl⟩⟩, fun _ => ?_⟩
                      rw [hz3]
                      simp [wrB, wrH, str_size, path_str hb4.left]
                  · rw [if_neg h3] at h
                    injection h with h
                    injection h with e1 e2
                    subst e1 e2
                    refine ⟨⟨hl, hbd, ⟨by show (0 : Int) ≤ (sn : Int); omega, by show (sn : Int) ≤ _; omega⟩, ⟨by show (0 : Int) ≤ (en : Int); omega, by show (en : Int) ≤ _; omega⟩, hk, ⟨by show (0 : Int) ≤ 0; omega, by show (0 : Int) ≤ 255; omega⟩, Nat.zero_le _, (fun x hx => by cases hx), Nat.zero_le _, ⟨rfl, rfl⟩⟩, fun q => ?_⟩
                    rcases kinds_of q with q | q | q
                    · exact absurd q h1
                    · exact absurd q h2
                    · exact absurd q h3
            · rw [if_neg h32] at h; cases h
    · rw [if_neg hm] at h; cases h
/-- The record of bytes. -/
def parO (zs : List Int) : Option Rec := match redR zs with
  | some (r, []) => if mayB r = true then some r else none
  | _ => none
theorem par_red {zs : List Int} {r : Rec} (h : parO zs = some r) : redR zs = some (r, []) ∧ mayB r = true := by
  unfold parO at h
  split at h
  · split at h
    · injection h with h
      subst h
      exact ⟨‹_›, ‹_›⟩
    · cases h
  · cases h
theorem par_one {zs : List Int} {r : Rec} (h : parO zs = some r) (hb : By zs) : Red r ∧ mayB r = true ∧ wrB r = zs := by
  obtain ⟨h1, h2⟩ := par_red h
  obtain ⟨h3, h4⟩ := red_one h1 hb
  have := h4 (may_parts h2).2.2
  rw [List.append_nil] at this
  exact ⟨h3, h2, this.symm⟩
theorem red_head (k s e : Nat) (d rs : List Int) (hs : s ≤ 1073741824) (he : e ≤ 1073741824) (hd : d.length = 32) : redR (([82, (k : Int)] ++ vint (s : Int) ++ vint (e : Int)) ++ d ++ rs) = red5 (k : Int) (s : Int) (e : Int) d rs := by
  have e0 : ([82, (k : Int)] ++ vint (s : Int) ++ vint (e : Int)) ++ d ++ rs = 82 :: (k : Int) :: (vint (s : Int) ++ (vint (e : Int) ++ (d ++ rs))) := by simp
  rw [e0, redR, if_pos rfl, red1, red2, numO_vint _ _ _ hs (by omega)]
  dsimp only
  rw [red3, numO_vint _ _ _ he (by omega)]
  dsimp only
  rw [red4]
  rw [if_pos (by simp [hd]), show (d ++ rs).take 32 = d from by rw [← hd, List.take_left], show (d ++ rs).drop 32 = rs from by rw [← hd, List.drop_left]]
theorem empty_path {s : ByteArray} (h : s.size = 0) : s = ByteArray.empty := ByteArray.size_eq_zero_iff.1 h
/-- A record is read of its bytes. -/
theorem par_back {w : World} {r : Rec} (h : Rv w r) (hm : mayB r = true) : parO (wrB r) = some { r with a := none, cap := 0 } := by
  obtain ⟨h1, h2, h3⟩ := may_parts hm
  have hk := kinds_of h3
  obtain ⟨s, hs⟩ := Int.eq_ofNat_of_zero_le (show 0 ≤ r.seq by omega)
  obtain ⟨e, he⟩ := Int.eq_ofNat_of_zero_le (show 0 ≤ r.epoch by omega)
  obtain ⟨k, hkk⟩ := Int.eq_ofNat_of_zero_le (show 0 ≤ r.kind by omega)
  have hH : ∀ rs, redR (wrH r ++ rs) = red5 r.kind r.seq r.epoch r.prev rs := fun rs => by
    unfold wrH
    rw [hs, he, hkk]
    exact red_head k s e r.prev rs (by omega) (by omega) h.len
  have fin : ∀ q : Rec, q = { r with a := none, cap := 0 } → redR (wrB r) = some (q, []) → parO (wrB r) = some { r with a := none, cap := 0 } := fun q hq hr => by
    subst hq
    unfold parO
    rw [hr]
    dsimp only
    rw [if_pos (show mayB { r with a := none, cap := 0 } = true from hm)]
  obtain ⟨sq, ep, pv, kd, st, pt, ra, rc, ps⟩ := r
  dsimp only at *
  unfold wrB at fin ⊢
  dsimp only at fin ⊢
  by_cases q1 : kd = 1
  · subst q1
    rw [if_pos rfl] at fin ⊢
    obtain ⟨f1, f2, f3⟩ := kind_lead' h3 rfl
    dsimp only at f1 f2 f3
    refine fin ⟨sq, ep, pv, 1, st, ByteArray.empty, none, 0, []⟩ (by rw [empty_path f2, f3]) ?_
    rw [hH]
    rfl
  · rw [if_neg q1] at fin ⊢
    obtain ⟨f1, f2, f3, f4⟩ := kind_file' h3 q1
    dsimp only at f1 f2 f3 f4
    have hpl : (pathL pt).length = pt.size := by unfold pathL; simp
    have hsz := siz_parts f3
    have hpc : ∀ x ∈ ps, x.1.length = 32 ∧ 0 ≤ x.2 ∧ x.2 ≤ 4096 := fun x hx => by
      have a1 := (h.row.fits x hx).len
      have a2 := List.all_eq_true.1 hsz.2 x hx
      unfold nOk at a2
      have a3 := of_decide_eq_true a2
      exact ⟨a1, by omega, a3.2⟩
    by_cases q2 : kd = 2
    · subst q2
      rw [if_pos rfl] at fin ⊢
      refine fin ⟨sq, ep, pv, 2, 0, pt, none, 0, ps⟩ (by rw [f1]) ?_
      rw [List.append_assoc, List.append_assoc, hH]
      show redP 2 sq ep pv _ = _
      unfold redP
      have e1 : [(pt.size : Int)] ++ (pathL pt ++ pcsB ps) = ((pathL pt).length : Int) :: (pathL pt ++ (pcsB ps ++ [])) := by rw [hpl]; simp
      rw [e1, pth_back]
      dsimp only
      rw [pcsR_back ps [] hsz.1 hpc]
      dsimp only
      rw [str_path]
    · rw [if_neg q2] at fin ⊢
      have q3 : kd = 3 := by omega
      subst q3
      refine fin ⟨sq, ep, pv, 3, 0, pt, none, 0, []⟩ (by rw [f1, f4 rfl]) ?_
      rw [List.append_assoc, hH]
      show redX 3 sq ep pv _ = _
      unfold redX
      have e1 : [(pt.size : Int)] ++ pathL pt = ((pathL pt).length : Int) :: (pathL pt ++ []) := by rw [hpl]; simp
      rw [e1, pth_back]
      dsimp only
      rw [str_path]
/-- A record that was read, in a world where its pieces lie. -/
theorem Red.rv {w : World} {r : Rec} (h : Red r) {a : Option Addr} {c : Nat} (hp : Rp w a c r.ps) : Rv w { r with a := a, cap := c } :=
  ⟨h.len, get_u8 (fun z hz => wf_mk_u8 (h.u8 z hz).1 (h.u8 z hz).2), wf_mk_i64 (by have := h.seq; show (_ : Int) ≤ r.seq; omega) (by have := h.seq; show r.seq ≤ _; omega), wf_mk_i64 (by have := h.epoch; show (_ : Int) ≤ r.epoch; omega) (by have := h.epoch; show r.epoch ≤ _; omega), wf_mk_i64 (by have := h.kind; show (_ : Int) ≤ r.kind; omega) (by have := h.kind; show r.kind ≤ _; omega), wf_mk_i64 (by have := h.site; show (_ : Int) ≤ r.site; omega) (by have := h.site; show r.site ≤ _; omega), by have := h.path; show r.path.size ≤ _; unfold maxLen; omega, hp⟩
end Go.Proofs.YtpbaacplgohniaaDoor
