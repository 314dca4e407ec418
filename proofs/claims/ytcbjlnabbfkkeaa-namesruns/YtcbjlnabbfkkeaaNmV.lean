/-
  Rows of digests held against each other: SameDigests (36). The document's namespace: Stat (32). The document's namespace: May (11).
-/
import Derived.Test.YtcbjlnabbfkkeaaNmT
import Derived.Test.YtcbjlnabbfkkeaaRcT
namespace Go.Proofs.Ytcbjlnabbfkkeaa
open Go.ChangeShapes Go.WideShapes Go.ChangeAt Go.RowKit Go.Deep Go.Lib

theorem Fs.later {w w' : World} {a : Option Addr} {cap : Nat} {L : List Fi} (h : Fs w a cap L) (hb : Below w.heap.size w w') : Fs w' a cap L := ⟨h.row.later hb, fun f hf => (h.ps f hf).later hb⟩
theorem Dn.later {W W' : World} {d : Nat} {a : Option Addr} {cap : Nat} {L : List Fi} (h : Dn W d a cap L) (hb : Below W.heap.size W W') : Dn W' d a cap L := ⟨blk_later h.blk hb, h.fs.later hb⟩
def dmayE (L : List Fi) (r : Rec) : Int := mayG (mayB r) r.kind (decide (0 ≤ fixI L r.path)) L.length
set_option maxHeartbeats 6400000 in
set_option maxRecDepth 100000 in
theorem dmay_word (W : World) (d : Nat) (a : Option Addr) (cap : Nat) (L : List Fi) (h : Dn W d a cap L) (r : Rec) (hr : Rv W r) :
    Calls Try.prog 11 #[.pointer (some ⟨d, 0, none⟩), .agg r.cs.toArray] W fun e w' => e = .returned (.int .i64 (dmayE L r)) ∧ Below W.heap.size W w' := by
  have hm : L.length ≤ maxLen := Nat.le_trans h.fs.row.room h.fs.row.most
  unfold maxLen at hm
  have HB := hid (bel_alc W (.cells r.cs.toArray 36))
  have HX := hid (Bx.mk' W r hr.len)
  have HCK := hid (dcheck_word r _ (hr.later HB.out))
  have HLL := hid (Rec.cs_len hr.len)
  have HDn := hid (h.later HB.out)
  obtain ⟨W0, hW0⟩ : ∃ W0, W0 = W.alloc (.cells r.cs.toArray 36) := ⟨_, rfl⟩
  rw [← hW0] at HB HX HCK HDn
  have HLD := hid HX.out.range
  have HE : Hid (dmayE L r = mayG (mayB r) r.kind (decide (0 ≤ fixI L r.path)) L.length) := rfl
  obtain ⟨mb, hmb⟩ : ∃ mb, mb = mayB r := ⟨_, rfl⟩
  rw [← hmb] at HCK HE
  clear h hr hmb
  go_enter Try.func11, Try.ntmps11
  go_wp2_with (first | refine wpList_load_g rfl 36 _ rfl W.heap.size 0 rfl r.cs _ (by rw [← hW0]; exact HLD.out) Try.underlying36 rfl (by rw [HLL.out]; exact Try.size36) ?_ | fail)
  rw [← hW0]
  refine HCK.out.mono ?_
  rintro _ W1 ⟨rfl, hb1⟩
  have HB1 := hid (HB.out.trans (hb1.mono HB.out.size))
  have HX1 := hid (HX.out.later hb1)
  have HD1 := hid (HDn.out.later hb1)
  have HFW := hid (find_word W1 d a cap L r.path HD1.out)
  clear hb1 HCK HX HDn HLD HB hW0
  cases mb with
  | false =>
    unfold e130
    go_wp2
    go_ret
    exact ⟨by rw [HE.out]; rfl, HB1.out⟩
  | true =>
    have c36 := HX1.out.c36
    have c34 := HX1.out.c34
    unfold e130
    go_wp2_with fail
    refine HFW.out.mono ?_
    rintro _ w2 ⟨rfl, hw⟩
    obtain rfl := hw.symm
    clear hw HFW
    have cl : W1.cell? ⟨d, 0, none⟩ = some (.slice a L.length cap) := (Joins.cell_of_block HD1.out.blk 0).trans rfl
    generalize fixI L r.path = fx at *
    generalize r.kind = kd at *
    obtain ⟨n, hn⟩ : ∃ n, n = L.length := ⟨_, rfl⟩
    rw [← hn] at cl HE hm
    clear hn
    by_cases hfx : fx < 0
    · have hd : Hid (decide (0 ≤ fx) = false) := decide_eq_false (by omega)
      rw [hd.out] at HE
      by_cases h3 : kd = 3
      · subst h3
        go_wp2
        go_ret
        exact ⟨by rw [HE.out]; rfl, HB1.out⟩
      · by_cases h2 : kd = 2
        · subst h2
          by_cases hL : 1024 ≤ n
          · have hLz : (1024 : Int) ≤ (n : Int) := by omega
            go_wp2
            go_ret
            exact ⟨by rw [HE.out, show mayG true 2 false n = 3 from by unfold mayG; rw [if_neg (by simp), if_neg (by simp), if_pos ⟨rfl, rfl, hL⟩]]; rfl, HB1.out⟩
          · have hLz : ¬ (1024 : Int) ≤ (n : Int) := by omega
            go_wp2
            go_ret
            exact ⟨by rw [HE.out, show mayG true 2 false n = 0 from by unfold mayG; rw [if_neg (by simp), if_neg (by simp), if_neg (fun c => hL c.2.2)]]; rfl, HB1.out⟩
        · go_wp2
          go_ret
          exact ⟨by rw [HE.out, show mayG true kd false n = 0 from by unfold mayG; rw [if_neg (by simp), if_neg (fun c => h3 c.1), if_neg (fun c => h2 c.1)]]; rfl, HB1.out⟩
    · have hd : Hid (decide (0 ≤ fx) = true) := decide_eq_true (by omega)
      rw [hd.out] at HE
      have hE : Hid (mayG true kd true n = 0) := by show _ = _; unfold mayG; simp
      by_cases h3 : kd = 3
      · subst h3
        go_wp2
        go_ret
        exact ⟨by rw [HE.out, hE.out]; rfl, HB1.out⟩
      · by_cases h2 : kd = 2
        · subst h2
          go_wp2
          go_ret
          exact ⟨by rw [HE.out, hE.out]; rfl, HB1.out⟩
        · go_wp2
          go_ret
          exact ⟨by rw [HE.out, hE.out]; rfl, HB1.out⟩
end Go.Proofs.Ytcbjlnabbfkkeaa
namespace Go.Proofs.Ytcbjlnabbfkkeaa
open Go.ChangeShapes Go.WideShapes Go.ChangeAt Go.RowKit Go.Deep Go.Lib

theorem fix_lt {L : List Fi} {s : ByteArray} (h : 0 ≤ fixI L s) : ∃ i : Nat, fixI L s = (i : Int) ∧ i < L.length := by
  unfold fixI at h ⊢
  cases e : L.findIdx? fun f => decide (f.path = s) with
  | none => rw [e] at h; exact absurd h (by decide)
  | some i =>
    rw [List.findIdx?_eq_some_iff_getElem] at e
    obtain ⟨hi, _⟩ := e
    exact ⟨i, rfl, hi⟩
def dstF (L : List Fi) (s : ByteArray) : Fi × Int := if fixI L s < 0 then (fiZ, 150) else (L.getD (fixI L s).toNat fiZ, 0)
set_option maxHeartbeats 3200000 in
set_option maxRecDepth 100000 in
theorem dstat_word (W : World) (d : Nat) (a : Option Addr) (cap : Nat) (L : List Fi) (s : ByteArray) (h : Dn W d a cap L) :
    Calls Try.prog 32 #[.pointer (some ⟨d, 0, none⟩), .string s] W fun e w' => e = .returned (.tuple #[.agg (dstF L s).1.cs.toArray, .int .i64 (dstF L s).2]) ∧ Below W.heap.size W w' := by
  have hm : L.length ≤ maxLen := Nat.le_trans h.fs.row.room h.fs.row.most
  have hr : L.length ≤ cap := h.fs.row.room
  unfold maxLen at hm
  have HH := hid h
  have HY := hid Try.zero51
  have HBU : Hid (Try.prog.built 51 [] = some fiZ.cs.toArray) := by show _ = _; kernel_rfl
  clear h
  go_enter Try.func32, Try.ntmps32
  go_wp2_with (first | refine wpList_alloc_W rfl 51 rfl (some 4) rfl _ HY.out W.heap.size rfl ?_ | fail)
  intro W1 HG1 HB1 HS1
  have HD1 := hid (HH.out.later HB1.out)
  have HFW := hid (find_word W1 d a cap L s HD1.out)
  go_wp2_with fail
  refine HFW.out.mono ?_
  rintro _ w2 ⟨rfl, hw⟩
  obtain rfl := hw.symm
  clear hw HFW
  have cl : W1.cell? ⟨d, 0, none⟩ = some (.slice a L.length cap) := (Joins.cell_of_block HD1.out.blk 0).trans rfl
  obtain ⟨n, hn⟩ : ∃ n, n = L.length := ⟨_, rfl⟩
  have HN := hid hn
  rw [← hn] at cl hm hr
  clear hn
  by_cases hfx : fixI L s < 0
  · have HQ : Hid (dstF L s = (fiZ, 150)) := by show _ = _; unfold dstF; rw [if_pos hfx]
    generalize fixI L s = fx at *
    go_wp2_with (first | refine wpList_buildTo rfl 51 _ rfl (some 12) rfl fiZ.cs.toArray (Eq.trans (congrArg (Try.prog.built 51) (by simp only [List.map_toArray, List.map_nil])) HBU.out) ?_ | refine wpList_store_W rfl 51 _ _ rfl rfl W.heap.size fiZ.cs.toArray rfl rfl 51 _ HG1.out Try.size51 rfl (Fi.one _) ?_ | fail)
    intro W6 HG6 HB6 HS6
    go_wp2
    exact bodyPost_ret (results_row_tmp rfl _ _ W.heap.size _ rfl (fi_load HG6.out)) rfl ⟨by rw [HQ.out]; rfl, HB1.out.trans (bel_grown HB6.out (Nat.le_refl _) HB1.out.size)⟩
  · obtain ⟨i, hi, hil⟩ := fix_lt (L := L) (s := s) (by omega)
    have HQ : Hid (dstF L s = (L.getD i fiZ, 0)) := by show _ = _; unfold dstF; rw [if_neg hfx, hi]; rfl
    rw [hi]
    obtain ⟨b, o, rfl, hb, hc⟩ := HD1.out.fs.row.cells (by omega)
    have hci := hc i hil
    obtain ⟨f, hf⟩ : ∃ f, f = L.getD i fiZ := ⟨_, rfl⟩
    rw [← hf] at hci HQ
    have HCI : Hid (W1.rangeAt b (o + i * 4) f.cs) := hci
    have hin : i < n := by rw [HN.out]; exact hil
    have hiz : (i : Int) < (n : Int) := by omega
    have HLN : Hid (f.cs.length = 4) := rfl
    clear hc hci hf hi hfx hil hb
    go_wp2_with (first | refine wpList_load_g rfl 51 _ rfl b (o + i * 4) rfl f.cs _ HCI.out Try.underlying51 rfl (by rw [HLN.out]; exact Try.size51) ?_ | refine wpList_store_W rfl 51 _ _ rfl rfl W.heap.size f.cs.toArray rfl rfl 51 _ HG1.out Try.size51 rfl (Fi.one _) ?_ | fail)
    intro W6 HG6 HB6 HS6
    go_wp2
    exact bodyPost_ret (results_row_tmp rfl _ _ W.heap.size _ rfl (fi_load HG6.out)) rfl ⟨by rw [HQ.out]; rfl, HB1.out.trans (bel_grown HB6.out (Nat.le_refl _) HB1.out.size)⟩
end Go.Proofs.Ytcbjlnabbfkkeaa
namespace Go.Proofs.Ytcbjlnabbfkkeaa
open Go.ChangeShapes Go.WideShapes Go.ChangeAt Go.RowKit Go.Deep Go.Lib

def dgC (x : List Int) : List Value := x.map (Value.int .u8)
theorem Try.size32' : (Try.prog.info? 32).map (·.size) = some 32 := by kernel_rfl
set_option maxHeartbeats 6400000 in
set_option maxRecDepth 100000 in
theorem sdig_word (A B : List (List Int)) (a b : Option Addr) (ca cb : Nat) (W : World) (hA : Rw 32 dgC [] W a ca A) (hB : Rw 32 dgC [] W b cb B) (h1 : ∀ x ∈ A, x.length = 32) (h2 : ∀ x ∈ B, x.length = 32) :
    Calls Try.prog 36 #[.slice a A.length ca, .slice b B.length cb] W fun e w' => ∃ q : Bool, e = .returned (.bool q) ∧ (q = true ↔ A.length = B.length ∧ ∀ i, i < A.length → A.getD i [] = B.getD i []) ∧ Below W.heap.size W w' := by
  have hma : A.length ≤ maxLen := Nat.le_trans hA.room hA.most
  have hmb : B.length ≤ maxLen := Nat.le_trans hB.room hB.most
  have hra := hA.room
  have hrb := hB.room
  unfold maxLen at hma hmb
  have HA := hid hA
  have HB := hid hB
  have HL1 := hid h1
  have HL2 := hid h2
  obtain ⟨na, hna⟩ : ∃ k, k = A.length := ⟨_, rfl⟩
  obtain ⟨nb, hnb⟩ : ∃ k, k = B.length := ⟨_, rfl⟩
  have HNA := hid hna
  have HNB := hid hnb
  rw [← hna] at hma hra ⊢
  rw [← hnb] at hmb hrb ⊢
  clear hA hB hna hnb h1 h2
  by_cases hab : na = nb
  · subst hab
    go_enter Try.func36, Try.ntmps36
    go_wp2
    go_loopw [5] (fun x5 wr => ∃ i : Nat, i ≤ na ∧ x5 = .int .i64 (i : Int) ∧ Hid (∀ j, j < i → A.getD j [] = B.getD j []) ∧ Hid (Below W.heap.size W wr)) (fun x5 _ => na - (intOf x5).toNat)
    case atStart => exact ⟨0, by omega, rfl, (fun j hj => by omega), Below.refl _ _⟩
    case round =>
      obtain ⟨k, hk, rfl, HE, HX⟩ := hrel
      by_cases hkl : k < na
      · have hkz : (k : Int) < (na : Int) := by omega
        obtain ⟨b3, o3, rfl, hb3, hr3⟩ := HA.out.cells (by rw [← HNA.out]; omega)
        obtain ⟨b4, o4, rfl, hb4, hr4⟩ := HB.out.cells (by rw [← HNB.out]; omega)
        have hx3 := hr3 k (by rw [← HNA.out]; exact hkl)
        have hx4 := hr4 k (by rw [← HNB.out]; exact hkl)
        have hok3 : (A.getD k []).length = 32 := HL1.out _ (by simp [List.getD, List.getElem?_eq_getElem (show k < A.length by rw [← HNA.out]; exact hkl)])
        have hok4 : (B.getD k []).length = 32 := HL2.out _ (by simp [List.getD, List.getElem?_eq_getElem (show k < B.length by rw [← HNB.out]; exact hkl)])
        obtain ⟨x, hx⟩ : ∃ x, x = A.getD k [] := ⟨_, rfl⟩
        obtain ⟨y, hy⟩ : ∃ y, y = B.getD k [] := ⟨_, rfl⟩
        rw [← hx] at hx3 hok3
        rw [← hy] at hx4 hok4
        have HR3 : Hid (∀ X, Below W.heap.size W X → X.rangeAt b3 (o3 + k * 32) (dgC x)) := fun X hX => range_later hx3 hX hb3
        have HR4 : Hid (∀ X, Below W.heap.size W X → X.rangeAt b4 (o4 + k * 32) (dgC y)) := fun X hX => range_later hx4 hX hb4
        have HL3 := hid hok3
        have HL4 := hid hok4
        have HC3 : Hid ((dgC x).length = 32) := by show _ = _; unfold dgC; rw [List.length_map]; exact hok3
        have HC4 : Hid ((dgC y).length = 32) := by show _ = _; unfold dgC; rw [List.length_map]; exact hok4
        have HXX := hid hx
        have HYY := hid hy
        clear hx3 hx4 hok3 hok4 hr3 hr4 hb3 hb4 hx hy
        go_wp2_with fail
        refine wp_region_held_drew (S := fun X => Below W.heap.size W X) (by kernel_rfl) (bel_drewS HX.out) (fun hS0 => ?_)
        generalize wr.drew = v0 at *
        simp only [List.size_toArray, List.length_cons, List.length_nil, Nat.reduceAdd]
        refine Ord.take (i := 0) (d := 17) (v := ?vA0) rfl rfl (by as_aux_lemma => kernel_rfl) (by as_aux_lemma => kernel_rfl) (by as_aux_lemma => kernel_rfl) (fun _ _ _ h => h) (by rfl) ?hA0 (by assumption) ?_
        case hA0 => intro w hSw; go_simp; try with_reducible rfl
        simp only [List.setIfInBounds_toArray, List.set_cons_zero, List.set_cons_succ]
        refine Ord.take (i := 1) (d := 18) (v := ?vA1) rfl rfl (by as_aux_lemma => kernel_rfl) (by as_aux_lemma => kernel_rfl) (by as_aux_lemma => kernel_rfl) (fun _ _ _ h => h) (by rfl) ?hA1 (by assumption) ?_
        case hA1 => intro w hSw; go_simp; try with_reducible rfl
        simp only [List.setIfInBounds_toArray, List.set_cons_zero, List.set_cons_succ]
        refine Ord.take (i := 2) (d := 19) (v := .pointer (some ⟨b3, o3 + k * 32, none⟩)) rfl rfl (by as_aux_lemma => kernel_rfl) (by as_aux_lemma => kernel_rfl) (by as_aux_lemma => kernel_rfl) (fun _ _ _ h => h) (by rfl) ?hA2 (by assumption) ?_
        case hA2 => intro w hSw; go_simp; try with_reducible rfl
        simp only [List.setIfInBounds_toArray, List.set_cons_zero, List.set_cons_succ]
        refine Ord.take (i := 3) (d := 20) (v := .agg (u8A x)) rfl rfl (by as_aux_lemma => kernel_rfl) (by as_aux_lemma => kernel_rfl) (by as_aux_lemma => kernel_rfl) (fun _ _ _ h => h) (by rfl) ?hA3 (by assumption) ?_
        case hA3 => intro w hSw; exact exec_load 32 (.tmp 19) rfl b3 (o3 + k * 32) rfl (run_loadVar_mid w b3 (o3 + k * 32) 32 (dgC x) _ (HR3.out _ hSw) Try.underlying32 rfl (by rw [HC3.out]; exact Try.size32'))
        simp only [List.setIfInBounds_toArray, List.set_cons_zero, List.set_cons_succ]
        refine Ord.take (i := 4) (d := 21) (v := ?vA4) rfl rfl (by as_aux_lemma => kernel_rfl) (by as_aux_lemma => kernel_rfl) (by as_aux_lemma => kernel_rfl) (fun _ _ _ h => h) (by rfl) ?hA4 (by assumption) ?_
        case hA4 => intro w hSw; go_simp; try with_reducible rfl
        simp only [List.setIfInBounds_toArray, List.set_cons_zero, List.set_cons_succ]
        refine Ord.take (i := 5) (d := 22) (v := ?vA5) rfl rfl (by as_aux_lemma => kernel_rfl) (by as_aux_lemma => kernel_rfl) (by as_aux_lemma => kernel_rfl) (fun _ _ _ h => h) (by rfl) ?hA5 (by assumption) ?_
        case hA5 => intro w hSw; go_simp; try with_reducible rfl
        simp only [List.setIfInBounds_toArray, List.set_cons_zero, List.set_cons_succ]
        refine Ord.take (i := 6) (d := 23) (v := .pointer (some ⟨b4, o4 + k * 32, none⟩)) rfl rfl (by as_aux_lemma => kernel_rfl) (by as_aux_lemma => kernel_rfl) (by as_aux_lemma => kernel_rfl) (fun _ _ _ h => h) (by rfl) ?hA6 (by assumption) ?_
        case hA6 => intro w hSw; go_simp; try with_reducible rfl
        simp only [List.setIfInBounds_toArray, List.set_cons_zero, List.set_cons_succ]
        refine Ord.take (i := 7) (d := 24) (v := .agg (u8A y)) rfl rfl (by as_aux_lemma => kernel_rfl) (by as_aux_lemma => kernel_rfl) (by as_aux_lemma => kernel_rfl) (fun _ _ _ h => h) (by rfl) ?hA7 (by assumption) ?_
        case hA7 => intro w hSw; exact exec_load 32 (.tmp 23) rfl b4 (o4 + k * 32) rfl (run_loadVar_mid w b4 (o4 + k * 32) 32 (dgC y) _ (HR4.out _ hSw) Try.underlying32 rfl (by rw [HC4.out]; exact Try.size32'))
        simp only [List.setIfInBounds_toArray, List.set_cons_zero, List.set_cons_succ]
        refine Ord.take (i := 8) (d := 25) (v := .bool (!decide (x = y))) rfl rfl (by as_aux_lemma => kernel_rfl) (by as_aux_lemma => kernel_rfl) (by as_aux_lemma => kernel_rfl) (fun _ _ _ h => h) (by rfl) ?hA8 (by assumption) ?_
        case hA8 => intro w hSw; exact run_neq_op rfl rfl rfl guard37 (eq37 x y HL3.out HL4.out w)
        simp only [List.setIfInBounds_toArray, List.set_cons_zero, List.set_cons_succ]
        refine wpAnyH_done (by as_aux_lemma => kernel_rfl) ?_ _
        by_cases hxy : x = y
        · have HXY : Hid (decide (x = y) = true) := decide_eq_true hxy
          rw [HXY.out]
          go_wp2
          go_roundw
          case rel => exact ⟨k + 1, by omega, by go_num, (fun j hj => by
            by_cases hjk : j < k
            · exact HE.out j hjk
            · have : j = k := by omega
              subst this
              rw [← HXX.out, ← HYY.out]; exact hxy), hS0⟩
          case measure => simp [intOf]; omega
        · have HXY : Hid (decide (x = y) = false) := decide_eq_false hxy
          rw [HXY.out]
          have HNE : ¬ A.getD k [] = B.getD k [] := fun h => hxy (by rw [HXX.out, HYY.out, h])
          go_wp2
          go_ret
          exact ⟨false, rfl, ⟨(fun h => by cases h), fun h => absurd (h.2 k hkl) HNE⟩, hS0⟩
      · have hin : k = na := by omega
        subst hin
        have hiz : ¬ (k : Int) < (k : Int) := by omega
        go_wp2
        go_ret
        exact .inr ⟨rfl, (fun j hj => HE.out j hj), HX.out⟩
  · have habz : ¬ (na : Int) = (nb : Int) := by omega
    go_enter Try.func36, Try.ntmps36
    go_wp2
    go_ret
    exact ⟨false, rfl, ⟨(fun h => by cases h), fun h => absurd h.1 hab⟩, Below.refl _ _⟩
end Go.Proofs.Ytcbjlnabbfkkeaa
